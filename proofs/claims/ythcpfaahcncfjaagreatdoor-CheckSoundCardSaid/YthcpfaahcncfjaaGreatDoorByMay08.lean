/- append of a row that lies somewhere, as one step of a region that draws. No program is named here. Checking by the first literal: what stays where, and what is left of a clause without one literal. Checking by the first literal. May a step be added? A store that has a formula's clauses. -/
import Derived.Test.YthcpfaahcncfjaaGreatDoorOwn
import Derived.Test.YthcpfaahcncfjaaGreatDoorWith7
import Derived.Test.YthcpfaahcncfjaaGreatDoorNorm23
import Derived.Test.YthcpfaahcncfjaaGreatDoorSound8
namespace Go.Proofs.YthcpfaahcncfjaaGreatDoor
open Go.RowKit
set_option linter.unusedVariables false

/-- append of a row that lies somewhere, as one step of a region that draws -/
theorem step_append_cells {P : Program} {ops : Array Oper} {o : Oper} {a : Act} {w : World} {K : Act → World → Prop} {Q : Exit → Act → World → Prop} {E : Prop}
    (hg : o.guard = none) (s x : Operand) (t : TypeId) (hop : o.op = Op.call { callee := Callee.builtin Builtin.append, args := #[s, x], argTypes := #[t, t] })
    (base : Nat) (e : TypeId) (i : TypeInfo) (z : Value) (bytes : Nat) (ht : P.underlying t = some (.slice e)) (hi : P.info? e = some i) (hz : i.zero = some z)
    (hsize : i.size = 1) (hby : i.bytes = bytes) (hzs : z.cells.size = 1)
    (v : Value) (n : Nat) (xs : List Value) (hs : a.eval s = v) (hown : w.ownsRow base e 1 v n xs)
    (B : Nat) (A : Option Addr) (m c : Nat) (f : Nat → Value) (hx : a.eval x = .slice A m c) (hr : Cells w B A m f) (h1 : ∀ j, j < m → (f j).oneCell' = true)
    (h63 : n + m ≤ maxLen) (hbytes : (n + m) * bytes ≤ 140737488355328) (hbase : base ≤ w.heap.size)
    (hK : ∀ v' w', w'.ownsRow base e 1 v' (n + m) (xs ++ (List.range m).map f) → w.grownBy w' v.ownBlock → (v'.ownBlock = v.ownBlock ∨ v'.ownBlock = some w.heap.size) → K (a.put o.dst v') w') :
    if Region.wanted o (yielded ops a.tmps) = true then Oper.wp P o a w K Q else E := by
  have hw : Region.wanted o (yielded ops a.tmps) = true := by simp [Region.wanted, hg]
  rw [if_pos hw]
  obtain ⟨v', w', hrun, h2, h3, h4⟩ := run_append_cells (P := P) w base t o.type e i z bytes ht hi hz hsize hby hzs v n xs hown B A m c f hr h1 h63 hbytes hbase
  unfold Oper.wp
  simp [execOp, hop, resolve, invoke, builtin, hs, hx, hrun, Result.andThen]
  exact hK v' w' h2 h3 h4
end Go.Proofs.YthcpfaahcncfjaaGreatDoor

namespace Go.Proofs.YthcpfaahcncfjaaGreatDoor
open Go.RowKit Go.Shelf Go.Sort
set_option linter.unusedVariables false
set_option linter.unusedSimpArgs false

/-- rows and maps that were there stay -/
def D8 (W W' : World) : Prop := ∀ (q : Nat) (o : Obj), W.heap[q]? = some o → ((∃ cs t z, o = Obj.cells cs t z) ∨ ∃ es n, o = Obj.map es n) → W'.heap[q]? = some o
section
variable {W W' W'' : World}
theorem D8.of_below (h : Below W.heap.size W W') : D8 W W' := fun q o hq _ => (h.block q (Array.getElem?_eq_some_iff.1 hq).1).trans hq
theorem D8.trans (h : D8 W W') (h' : D8 W' W'') : D8 W W'' := fun q o hq hd => h' q o (h q o hq hd) hd
theorem D8.low (h : D8 W W') (hb : Below W.heap.size W' W'') : D8 W W'' := fun q o hq hd => (hb.block q (Array.getElem?_eq_some_iff.1 hq).1).trans (h q o hq hd)
theorem Rows9.d8 {B : Nat} (h : Rows9 B W W') : D8 W W' := h.data
theorem D8.blk (h : D8 W W') {g : Nat} {t : TypeId} {cs : Array Value} (hb : Blk W g t cs) : Blk W' g t cs := h g _ hb (.inl ⟨_, _, _, rfl⟩)
theorem D8.own (h : D8 W W') {base n : Nat} {e : TypeId} {v : Value} {xs : List Value} (ho : W.ownsRow base e 1 v n xs) : W'.ownsRow base e 1 v n xs := by
  refine ⟨ho.1, ?_⟩
  rcases ho.2 with hn | ⟨g, cap, cur, rfl, hg, hgg, rest⟩
  · exact .inl hn
  · exact .inr ⟨g, cap, cur, rfl, hg, h g _ hgg (.inl ⟨_, _, _, rfl⟩), rest⟩
theorem Sto.d8 {base : Nat} {X : SX} {fo : List Bool} (h : Sto W base X fo) (hb : D8 W W') : Sto W' base X fo := by
  have row : ∀ (e : TypeId) (v : Value) (n : Nat) (xs : List Value), W.ownsRow base e 1 v n xs → W'.ownsRow base e 1 v n xs := fun e v n xs ho => hb.own ho
  refine ⟨hb.blk h.st, hb.blk h.fol, h.flen, row _ _ _ _ h.fnd, row _ _ _ _ h.out, h.pil.keep fun q Y hq => hb.blk hq, h.num, fun p hp => ?_, ?_, h.lo, h.vb⟩
  · obtain ⟨c1, c2, c3, c4⟩ := h.cl p hp
    exact ⟨hb.blk c1, c2, row _ _ _ _ c3, c4⟩
  · obtain ⟨D, n, ⟨es, clock, m1, m2⟩, h2⟩ := h.map
    exact ⟨D, n, ⟨es, clock, hb _ _ m1 (.inr ⟨_, _, rfl⟩), m2⟩, h2⟩
theorem Rest7.d8 {base : Nat} {X : SX} {fo : List Bool} (h : Rest7 W base X fo) (hb : D8 W W') : Rest7 W' base X fo := ⟨h.sto.d8 hb, h.wf, h.fw, h.fd, h.short, h.shelf⟩
theorem Recs.low {B : Nat} (h : Recs W W') (hb : Below B W' W'') (hB : W.heap.size ≤ B) : Recs W W'' := fun q o hq h1 h2 => (hb.block q (Nat.lt_of_lt_of_le (Array.getElem?_eq_some_iff.1 hq).1 hB)).trans (h q o hq h1 h2)
theorem recs_sort {α : Type} [Inhabited α] {enc : α → Value} {g m : Nat} {d : Array α} {os : Array Obj} {cs : Array Value} {t : TypeId} {z : Nat × Nat} (hg : W.heap[g]? = some (.cells cs t z)) : Recs W (sortWorld enc W g 0 m d os) := fun q o hq h1 _ => by
  have hlt := (Array.getElem?_eq_some_iff.1 hq).1
  have hne : g ≠ q := fun e => by subst e; rw [hg] at hq; injection hq with hq; exact h1 _ _ _ hq.symm
  unfold sortWorld
  rw [heap_grow_old _ _ (by rw [size_putRow]; exact hlt)]
  unfold putRow mapBlock Sort.ahead
  rw [Array.getElem?_modify, if_neg (by omega)]
  exact hq
/-- the store turns with blocks that are not its own -/
theorem Tn.d8 {base : Nat} {X : SX} (h : Tn base X W W') (hd : D8 W' W'') (hb : Below base W' W'') (hr : Recs W W'') : Tn base X W W'' := ⟨h.below.trans hb, fun q t Y hq h1 h2 h3 h4 h5 h6 => hd.blk (h.blk q t Y hq h1 h2 h3 h4 h5 h6), hr⟩
end

theorem with_at8 (s : Nat) (l : Int) (w : World) : Calls Tryz.prog 46 #[.pointer (some ⟨s, 0, none⟩), .int .i64 l] w fun e w' => e = .returned (.func (.func 68) #[] #[.pointer (some ⟨w.heap.size, 0, none⟩), .pointer (some ⟨w.heap.size + 1, 0, none⟩)]) ∧ w' = (w.alloc (.cells #[.pointer (some ⟨s, 0, none⟩)] 53)).alloc (.cells #[.int .i64 l] 3) := by
  go_enter Tryz.func46, Tryz.ntmps46
  go_wp2
  go_ret
  exact ⟨rfl, rfl⟩

theorem by_lit8 (l x : Int) (g : Nat) (W : World) (hc : W.cell? ⟨g, 0, none⟩ = some (.int .i64 l)) :
    FnGives Tryz.prog 48 #[.pointer (some ⟨g, 0, none⟩)] #[.int .i64 x] (.bool (x == l)) W := by
  show Calls Tryz.prog 48 #[.int .i64 x, .pointer (some ⟨g, 0, none⟩)] W _
  go_enter Tryz.func48, Tryz.ntmps48
  go_wp2
  go_ret
  exact ⟨rfl, 0, rfl⟩

/-- a clause's own row without one literal -/
theorem del8_any {W : World} {bd c nb : Nat} {A : Option Addr} {D : List Int} {l : Int} (ho : W.ownsRow bd 3 1 (.slice A D.length c) D.length (D.map (Value.int .i64))) (h0 : 0 < D.length) (hl : D.length ≤ 1000000) (hn : W.cell? ⟨nb, 0, none⟩ = some (.int .i64 l)) (hnb : nb < bd) :
    Calls Tryz.prog 47 #[.slice A D.length c, .func (.func 48) #[] #[.pointer (some ⟨nb, 0, none⟩)]] W fun e W' => ∃ c', e = .returned (.slice A (D.filter fun x => !(x == l)).length c') ∧
      W'.ownsRow bd 3 1 (.slice A (D.filter fun x => !(x == l)).length c') (D.filter fun x => !(x == l)).length ((D.filter fun x => !(x == l)).map (Value.int .i64)) ∧ Below bd W W' ∧ Recs W W' := by
  obtain ⟨g, rfl, hg1, hg2⟩ := own_addr ho h0
  have hbd : bd ≤ W.heap.size := by omega
  have eg : ∀ args w, (callFunc 48 args).run Tryz.prog w = .ok (.enter 48 args) w := enters_of Tryz.func48 (by kernel_rfl) rfl
  have hp : PredAt Tryz.prog 48 #[.pointer (some ⟨nb, 0, none⟩)] (Value.int .i64) (fun x => x == l) W := fun W2 x hb =>
    by_lit8 l x _ W2 ((hb.cell (p := ⟨nb, 0, none⟩) (by show nb < _; omega)).trans hn)
  have hpo : PredOver Tryz.prog 48 #[.pointer (some ⟨nb, 0, none⟩)] (Value.int .i64) (fun x => x == l) g 0 D.toArray.size W := fun n os dk x _ =>
    by_lit8 l x _ _ (by
      unfold sortWorld
      rw [Go.Sort.cell?_grow _ _ _ (by show nb < (Go.Sort.putRow _ _ _ _ _).heap.size; rw [size_putRow]; show _ < W.heap.size; omega), Go.Sort.cell?_putRow_other _ _ g 0 _ _ (Or.inl (by show nb ≠ g; omega))]
      exact hn)
  obtain ⟨cur, hcur⟩ : ∃ cur, Blk W g 3 cur := own_blk7 ho
  have hnc : D.length ≤ c := by
    rcases ho.2 with ⟨hv, _⟩ | ⟨g', cap', cur, hv, hb, hg, hnc, _⟩
    · cases hv
    · injection hv with _ _ hC; subst hC; exact hnc
  have hcon := Tryz.slices_DeleteFunc (Value.int .i64) (fun _ => rfl) (fun x => x == l) 48 #[.pointer (some ⟨nb, 0, none⟩)] eg 0 Tryz.zeroValue3 g 0 c D.toArray W hp hpo (holds_of_own ho) (by simp; omega) (by simpa using hnc)
  have hle : (D.filter fun x => !(x == l)).length ≤ D.length := List.length_filter_le _ _
  obtain ⟨E, hE⟩ : ∃ E, (D.filter fun x => !(x == l)) = E := ⟨_, rfl⟩
  have ef : (D.toArray.toList.filter fun x => !(x == l)) = E := hE
  rw [ef, List.size_toArray] at hcon
  rw [hE] at hle ⊢
  refine hcon.mono ?_
  rintro e W3 ⟨rfl, q, rfl⟩
  rw [putRow_sort]
  have ho3 := own_sort (enc := Value.int .i64) (m := q) (os := #[]) (d := (E ++ List.replicate (D.length - E.length) 0).toArray) (k := E.length) ho (by simp; omega) (by simp)
  have et : (E ++ List.replicate (D.length - E.length) (0 : Int)).toArray.toList.take E.length = E := by simp
  rw [et] at ho3
  exact ⟨_, rfl, ho3, below_sort (Below.refl _ _) hg1 hbd, recs_sort hcur⟩

theorem results_cell8 {P : Program} {fn : Func} {c : Tmp} {T : TypeId} (h : fn.results = #[.cell c T]) {tmps : Array Value} {w : World} {v0 : Value} {ad : Addr} (hc : tmps.getD c undef = .pointer (some ad)) (hl : (loadVar T ad).run P w = .ok v0 w) : (results fn tmps).run P w = .ok v0 w := by
  rw [Array.getD_eq_getD_getElem?] at hc
  simp [results, h, hc, hl, asAddr]

theorem load_bool8 {b : Nat} {x : Bool} {w : World} (h0 : w.cell? ⟨b, 0, none⟩ = some (.bool x)) : (loadVar 4 ⟨b, 0, none⟩).run Tryz.prog w = .ok (.bool x) w := by
  have hu := Tryz.underlying4
  go_simp

/-- a clause in normal form is short -/
theorem rising_len8 {V : Nat} {D : List Int} (hr : Rising D) (hl : ∀ x, x ∈ D → Lt7 V x) : D.length ≤ 2 * V := by
  have h := nodup_len (a := D) (b := (List.range V).map (fun (i : Nat) => (i : Int) + 1) ++ (List.range V).map (fun (i : Nat) => -((i : Int) + 1))) (rising_nodup hr) fun x hx => by
    obtain ⟨h0, h1, h2⟩ := hl x hx
    rw [List.mem_append, List.mem_map, List.mem_map]
    rcases Int.lt_or_gt_of_ne h0 with h | h
    · exact .inr ⟨(-x - 1).toNat, List.mem_range.2 (by omega), by omega⟩
    · exact .inl ⟨(x - 1).toNat, List.mem_range.2 (by omega), by omega⟩
  simp at h
  omega
/-- the clauses that have a literal, among all -/
theorem told_mem {X : SX} {l : Int} {d : List Int} : d ∈ X.told l ↔ d ∈ X.cs ∧ l ∈ d := by
  unfold SX.told SX.hits SX.cs SX.live
  rw [List.mem_map, List.mem_map]
  constructor
  · rintro ⟨p, hp, rfl⟩
    rw [List.mem_filter] at hp
    obtain ⟨h1, h2⟩ := hp
    simp [SX.hit] at h2
    exact ⟨⟨p, List.mem_filter.2 ⟨h1, by simpa using h2.1⟩, rfl⟩, h2.2⟩
  · rintro ⟨⟨p, hp, rfl⟩, hl⟩
    rw [List.mem_filter] at hp
    exact ⟨p, List.mem_filter.2 ⟨hp.1, by simp only [SX.hit]; simp at hp; simp [hp.2, hl]⟩, rfl⟩
/-- what stays below where a walk began -/
theorem Tn.low {base : Nat} {X : SX} {W W' W'' : World} (h : Tn base X W W') (hb : Below W.heap.size W' W'') (hB : base ≤ W.heap.size) : Tn base X W W'' :=
  ⟨h.below.trans (hb.mono hB), fun q t Y hq h1 h2 h3 h4 h5 h6 => (hb.block q hq.lt).trans (h.blk q t Y hq h1 h2 h3 h4 h5 h6), h.recs.low hb (Nat.le_refl _)⟩
end Go.Proofs.YthcpfaahcncfjaaGreatDoor

namespace Go.Proofs.YthcpfaahcncfjaaGreatDoor
open Go.RowKit Go.Shelf
attribute [local go_sem] Oper.semAt_some
set_option linter.unusedVariables false
set_option linter.unusedSimpArgs false

/-- what By and May answer -/
def ByAns (base : Nat) (X : SX) (W : World) (p : Prop) (e : Ending) (W' : World) : Prop :=
  ∃ (X' : SX) (fo' : List Bool) (b : Bool), e = .returned (.bool b) ∧ Rest7 W' base X' fo' ∧ Tn base X W W' ∧ Later7 W X X' ∧ SameR X X' ∧ (b = true ↔ p)

theorem by_none8 {W : World} {base : Nat} {X : SX} {fo : List Bool} (h : Rest7 W base X fo) (A : Option Addr) (c : Nat) :
    Calls Tryz.prog 27 #[.pointer (some ⟨X.s, 0, none⟩), .slice A 0 c] W (ByAns base X W (ByP X.cs [])) := by
  have hB : base ≤ W.heap.size := by have := h.sto.lo.1; have := h.sto.st.lt; omega
  have HX := Lib.hid (fun W' (hb : Below W.heap.size W W') => (⟨h.below hb, Tn.of_below hb hB⟩ : Rest7 W' base X fo ∧ Tn base X W W'))
  obtain ⟨s, hs⟩ : ∃ s, s = X.s := ⟨_, rfl⟩
  rw [← hs]
  clear h hs
  refine (callsIn_wide (n := 20)).1 ?_
  refine callsIn_of_wp_marks Tryz.func27 rfl trivial ?_ rfl
  simp only [Tryz.ntmps27, List.size_toArray, List.length_cons, List.length_nil, Nat.reduceAdd, Nat.reduceSub, Array.replicate_succ, Array.replicate_zero, List.push_toArray, List.append_toArray, List.nil_append, List.cons_append]
  refine wpIn_wide.2 ?_
  obtain ⟨w1, hw1⟩ : ∃ w1, w1 = ((W.alloc (.cells #[.pointer (some ⟨s, 0, none⟩)] 53)).alloc (.cells #[.slice A 0 c] 55)).alloc (.cells #[.bool false] 4) := ⟨_, rfl⟩
  have hb1 : Below W.heap.size W w1 := by rw [hw1]; exact (((Below.refl _ _).alloc (Nat.le_refl _) _).alloc (by simp) _).alloc (by simp; omega) _
  have HR := Lib.hid (show Blk w1 (W.heap.size + 2) 4 #[.bool false] by rw [hw1]; simpa using Blk.new ((W.alloc (.cells #[.pointer (some ⟨s, 0, none⟩)] 53)).alloc (.cells #[.slice A 0 c] 55)) 4 #[.bool false])
  have HB1 := Lib.hid hb1
  clear hb1
  go_wp2
  simp only [← hw1]
  clear hw1
  obtain ⟨a1, a2⟩ := HX.out w1 HB1.out
  have hr := HR.out.cell 0
  simp at hr
  exact ⟨_, results_cell8 rfl rfl (load_bool8 hr), X, fo, false, rfl, a1, a2, Later7.refl _ _, SameR.refl X, by simp [ByP]⟩

set_option maxRecDepth 100000 in
set_option maxHeartbeats 4000000 in
theorem by_some8 {W : World} {base b0 c : Nat} {X : SX} {fo : List Bool} {x : Int} {xs : List Int} {A : Option Addr} (h : Rest7 W base X fo) (hA : Apart W X b0 A c (x :: xs)) (hL : ∀ y, y ∈ x :: xs → Lt7 X.V y) (hn : (x :: xs).length ≤ 1000000) (had : X.added ≤ 1000000000) :
    Calls Tryz.prog 27 #[.pointer (some ⟨X.s, 0, none⟩), .slice A (x :: xs).length c] W (ByAns base X W (ByP X.cs (x :: xs))) := by
  have hB : base ≤ W.heap.size := by have := h.sto.lo.1; have := h.sto.st.lt; omega
  obtain ⟨g, rfl, hc0⟩ := hA.cell (k := 0) (by simp)
  have hc0 : W.cell? ⟨g, 0, none⟩ = some (.int .i64 x) := hc0
  obtain ⟨x0, x1, x2⟩ := hL x (by simp)
  have hvb := h.sto.vb
  have hg : g < W.heap.size := by simpa using World.block_lt_of_cell? W _ hc0
  obtain ⟨n, hnn⟩ : ∃ n, n = (x :: xs).length := ⟨_, rfl⟩
  have hn0 : 0 < n := by rw [hnn]; simp
  obtain ⟨L, hLL⟩ : ∃ L, L = x :: xs := ⟨_, rfl⟩
  rw [← hLL] at hA hL hn hnn ⊢
  rw [← hnn] at hn ⊢
  obtain ⟨s, hs⟩ : ∃ s, s = X.s := ⟨_, rfl⟩
  rw [← hs]
  have HS := Lib.hid hs
  have HLL := Lib.hid hLL
  have HNN := Lib.hid hnn
  have H := Lib.hid h
  have HA := Lib.hid hA
  have HL := Lib.hid hL
  clear h hA hL hs hLL hnn
  refine (callsIn_wide (n := 20)).1 ?_
  refine callsIn_of_wp_marks Tryz.func27 rfl trivial ?_ rfl
  simp only [Tryz.ntmps27, List.size_toArray, List.length_cons, List.length_nil, Nat.reduceAdd, Nat.reduceSub, Array.replicate_succ, Array.replicate_zero, List.push_toArray, List.append_toArray, List.nil_append, List.cons_append]
  refine wpIn_wide.2 ?_
  have hc1 : (((W.alloc (.cells #[.pointer (some ⟨s, 0, none⟩)] 53)).alloc (.cells #[.slice (some ⟨g, 0, none⟩) n c] 55)).alloc (.cells #[.bool false] 4)).cell? ⟨g, 0, none⟩ = some (.int .i64 x) := by
    rw [World.cell?_alloc_lt _ _ _ (by simp; omega), World.cell?_alloc_lt _ _ _ (by simp; omega), World.cell?_alloc_lt _ _ _ (by simpa using hg)]
    exact hc0
  go_wp2_with fail
  obtain ⟨w2, hw2⟩ : ∃ w2, w2 = (((W.alloc (.cells #[.pointer (some ⟨s, 0, none⟩)] 53)).alloc (.cells #[.slice (some ⟨g, 0, none⟩) n c] 55)).alloc (.cells #[.bool false] 4)).alloc (.cells #[.int .i64 (-x)] 3) := ⟨_, rfl⟩
  have hb2 : Below W.heap.size W w2 := by rw [hw2]; exact ((((Below.refl _ _).alloc (Nat.le_refl _) _).alloc (by simp) _).alloc (by simp; omega) _).alloc (by simp; omega) _
  have hs2 : w2.heap.size = W.heap.size + 4 := by rw [hw2]; simp
  have K0 := Lib.hid (show Blk w2 W.heap.size 53 #[.pointer (some ⟨s, 0, none⟩)] by rw [hw2]; exact (((Blk.new W _ _).alloc _).alloc _).alloc _)
  have K1 := Lib.hid (show Blk w2 (W.heap.size + 1) 55 #[.slice (some ⟨g, 0, none⟩) n c] by rw [hw2]; simpa using ((Blk.new (W.alloc (.cells #[.pointer (some ⟨s, 0, none⟩)] 53)) 55 #[.slice (some ⟨g, 0, none⟩) n c]).alloc (.cells #[.bool false] 4)).alloc (.cells #[.int .i64 (-x)] 3))
  have K2 := Lib.hid (show Blk w2 (W.heap.size + 1 + 1) 4 #[.bool false] by rw [hw2]; simpa using (Blk.new ((W.alloc (.cells #[.pointer (some ⟨s, 0, none⟩)] 53)).alloc (.cells #[.slice (some ⟨g, 0, none⟩) n c] 55)) 4 #[.bool false]).alloc (.cells #[.int .i64 (-x)] 3))
  have K3 := Lib.hid (show Blk w2 (W.heap.size + 1 + 1 + 1) 3 #[.int .i64 (-x)] by rw [hw2]; simpa using Blk.new (((W.alloc (.cells #[.pointer (some ⟨s, 0, none⟩)] 53)).alloc (.cells #[.slice (some ⟨g, 0, none⟩) n c] 55)).alloc (.cells #[.bool false] 4)) 3 #[.int .i64 (-x)])
  rw [← hw2]
  clear hw2 hc0 hc1
  refine (with_at8 s (-x) w2).mono ?_
  rintro e w3 ⟨rfl, hw3⟩
  have hb23 : Below w2.heap.size w2 w3 := by rw [hw3]; exact ((Below.refl _ _).alloc (Nat.le_refl _) _).alloc (by simp) _
  have hs3 : w3.heap.size = W.heap.size + 6 := by rw [hw3]; simp; omega
  have K4 := Lib.hid (show Blk w3 w2.heap.size 53 #[.pointer (some ⟨s, 0, none⟩)] by rw [hw3]; exact (Blk.new w2 _ _).alloc _)
  have K5 := Lib.hid (show Blk w3 (w2.heap.size + 1) 3 #[.int .i64 (-x)] by rw [hw3]; simpa using Blk.new (w2.alloc (.cells #[.pointer (some ⟨s, 0, none⟩)] 53)) 3 #[.int .i64 (-x)])
  clear hw3
  have hbW3 : Below W.heap.size W w3 := hb2.trans (hb23.mono (by omega))
  have K0 := Lib.hid (K0.out.below hb23 K0.out.lt)
  have K1 := Lib.hid (K1.out.below hb23 K1.out.lt)
  have K2 := Lib.hid (K2.out.below hb23 K2.out.lt)
  have K3 := Lib.hid (K3.out.below hb23 K3.out.lt)
  have H3 := Lib.hid (H.out.below hbW3)
  have HA3 := Lib.hid (HA.out.under hbW3)
  have HBW := Lib.hid hbW3
  have hxf : X.fb < W.heap.size := H.out.sto.fol.lt
  have hxv : ∀ q, X.fv.ownBlock = some q → q < W.heap.size := fun q hq => (H.out.sto.fnd.lt q hq).2
  have HXV := Lib.hid hxv
  have hnum : ∀ p, p ∈ X.ps → (X.C p).num ≤ 1000000000 := fun p hp => by have := H.out.shelf.numlt p hp; omega
  have HSEQ := Lib.hid (with_seq base X (-x) w2.heap.size (w2.heap.size + 1) w3 hnum 19 (by omega))
  obtain ⟨T, hT⟩ : ∃ T, T = (X.hits (-x)).length := ⟨_, rfl⟩
  have hTL : (X.told (-x)).length = T := by rw [hT]; simp [SX.told]
  rw [← hT] at HSEQ
  have HTL := Lib.hid hTL
  clear hb2 hb23 hbW3 hxv hnum hT hTL
  go_wp2_with fail
  refine (wpIn_wide (n := 20)).1 ?_
  have HENT := enters_of Tryz.func68 (by kernel_rfl) rfl
  refine range_it (gf := 68) (lb := #[.pointer (some ⟨w2.heap.size, 0, none⟩), .pointer (some ⟨w2.heap.size + 1, 0, none⟩)]) (N := T) (Arg := Arg7 X (-x)) (Rd := Rd7 base X (-x) w2.heap.size (w2.heap.size + 1)) ?hg HENT HSEQ.out rfl
    (fun k V => w3.heap.size ≤ V.heap.size ∧ ∃ (Y : SX) (fy : List Bool), SameR X Y ∧ Rest7 V base Y fy ∧ Later7 w3 X Y ∧ Tn base X w3 V ∧ ∀ j, j < k → Clash X.cs (negs (combo x ((X.told (-x)).getD j []) L)))
    (fun cd V => cd = .ret ∧ ∃ (Y : SX) (fy : List Bool), SameR X Y ∧ Rest7 V base Y fy ∧ Later7 W X Y ∧ Tn base X W V ∧ Blk V (W.heap.size + 1 + 1) 4 #[.bool false] ∧ ¬ ByP X.cs L) ?hI ?hIx ?hsz ⟨Nat.le_refl _, X, fo, SameR.refl X, H3.out, Later7.refl _ _, Tn.refl _ _ _, fun j hj => absurd hj (by omega)⟩ ?hrd ?a1 ?hassign ?hbody ?hdone ?hstop
  case hg => simp [Act.eval]
  case hassign =>
    intro b v V K hK
    gi_wp2
    exact hK
  case hI => exact fun k V V' ⟨h1, Y, fy, h2, h3, h4, h5, h6⟩ hr => ⟨Nat.le_trans h1 hr.below.size, Y, fy, h2, h3.d8 hr.d8, h4, h5.low hr.below (by omega), h6⟩
  case hIx => exact fun cd V V' ⟨h1, Y, fy, h2, h3, h4, h5, h6, h7⟩ hr => ⟨h1, Y, fy, h2, h3.d8 hr.d8, h4, h5.low (hr.below.mono (by omega)) hB, hr.d8.blk h6, h7⟩
  case hsz => exact fun k V h => h.1
  case hrd =>
    rintro k V ⟨_, Y, fy, h2, h3, h4, h5, _⟩
    refine ⟨?_, ?_, Y, fy, h2, h3⟩
    · rw [← HS.out]
      exact (h5.blk _ _ _ K4.out (by decide) (by decide) (by decide) (by decide) (by omega) (fun e => by have := HXV.out _ e.symm; omega)).cell 0
    · exact (h5.blk _ _ _ K5.out (by decide) (by decide) (by decide) (by decide) (by omega) (fun e => by have := HXV.out _ e.symm; omega)).cell 0
  case hbody =>
    rintro bb k v V0 V1 V ⟨hz0, Y, fy, h2, h3, h4, h5, h6⟩ hk hb1 ⟨Ac, cc, rfl, hown⟩ hr9 _
    obtain ⟨D, hDD⟩ : ∃ D, D = (X.told (-x)).getD k [] := ⟨_, rfl⟩
    have hDm : D ∈ X.told (-x) := by
      have hkl : k < (X.told (-x)).length := by rw [HTL.out]; exact hk
      rw [hDD]; simp [List.getD, hkl]
    obtain ⟨hDc, hDx⟩ := told_mem.1 hDm
    obtain ⟨hD1, hD2⟩ : (∀ y, y ∈ D → Lt7 X.V y) ∧ Rising D := by
      obtain ⟨p, hp, rfl⟩ := List.mem_map.1 hDc
      have hp := (SX.mem_live.1 hp).1
      exact ⟨(H.out.wf.cl p hp).lt, H.out.shelf.norm p hp⟩
    have hDl := rising_len8 hD2 hD1
    have hD0 : 0 < D.length := List.length_pos_of_mem hDx
    rw [← hDD] at hown ⊢
    have hD8 : D8 V0 V := (D8.of_below hb1).trans hr9.d8
    have hsz1 := hb1.size
    have hsz := hr9.below.size
    have hownV := hr9.d8.own hown
    have k0 : Blk V W.heap.size 53 #[.pointer (some ⟨s, 0, none⟩)] := hD8.blk (h5.blk _ _ _ K0.out (by decide) (by decide) (by decide) (by decide) (by omega) (fun e => by have := HXV.out _ e.symm; omega))
    have k1 : Blk V (W.heap.size + 1) 55 #[.slice (some ⟨g, 0, none⟩) n c] := hD8.blk (h5.blk _ _ _ K1.out (by decide) (by decide) (by decide) (by decide) (by omega) (fun e => by have := HXV.out _ e.symm; omega))
    have k2 : Blk V (W.heap.size + 1 + 1) 4 #[.bool false] := hD8.blk (h5.blk _ _ _ K2.out (by decide) (by decide) (by decide) (by decide) (by omega) (fun e => by have := HXV.out _ e.symm; omega))
    have k3 : Blk V (W.heap.size + 1 + 1 + 1) 3 #[.int .i64 (-x)] := hD8.blk (h5.blk _ _ _ K3.out (by decide) (by decide) (by decide) (by decide) (by omega) (fun e => by have := HXV.out _ e.symm; omega))
    have c3 : V.cell? ⟨W.heap.size + 1 + 1 + 1, 0, none⟩ = some (.int .i64 (-x)) := k3.cell 0
    have HDEL := Lib.hid (del8_any hownV hD0 (by omega) c3 (by omega))
    have HR0 := Lib.hid h3
    have HAP0 := Lib.hid (HA3.out.turn H3.out.sto h5 h4)
    obtain ⟨i0, hi, hz0, hz1, hz2⟩ := info_parts Tryz.infoInt3
    have HV2 := Lib.hid h2
    have HV4 := Lib.hid h4
    have HV5 := Lib.hid h5
    have HV6 := Lib.hid h6
    have HD8 := Lib.hid hD8
    have HDX := Lib.hid (And.intro hDD (And.intro hD1 (And.intro hD2 (And.intro hDc hDx))))
    have HOW := Lib.hid hownV
    have HK0 := Lib.hid k0
    have HK1 := Lib.hid k1
    have HK2 := Lib.hid k2
    have HTV := Lib.hid (show Below base V0 V from (hb1.mono (by omega)).trans (hr9.below.mono (by omega)))
    have HRC : Hid (Recs w3 V) := Lib.hid ((h5.recs.trans (Recs.of_below hb1)).low hr9.below (Nat.le_refl _))
    clear h2 h3 h4 h5 h6 hb1 hown hr9 hDm hDc hDx hD1 hD2 hDD hD8 hownV k0 k1 k2 k3
    obtain ⟨E, hE⟩ : ∃ E, E = D.filter fun z => !(z == -x) := ⟨_, rfl⟩
    rw [← hE] at HDEL
    have hEl : E.length ≤ D.length := by rw [hE]; exact List.length_filter_le _ _
    have HE := Lib.hid hE
    clear hE
    gi_wp2_with fail
    refine ⟨trivial, CallsIn.inRound _ ((callsIn_wide.2 HDEL.out).mono ?_)⟩
    rintro e V4 ⟨c4, rfl, ho4, hb4, hrec4⟩
    have HO4 := Lib.hid ho4
    have HB4 := Lib.hid hb4
    have HRE4 := Lib.hid hrec4
    have hsz4 := hb4.size
    have b0' : V4.cell? ⟨W.heap.size, 0, none⟩ = some (.pointer (some ⟨s, 0, none⟩)) := (HK0.out.below hb4 (by omega)).cell 0
    have b1' : V4.cell? ⟨W.heap.size + 1, 0, none⟩ = some (.slice (some ⟨g, 0, none⟩) n c) := (HK1.out.below hb4 (by omega)).cell 0
    clear ho4 hb4 hrec4 HDEL
    have hownL : V4.ownsRow b0 3 1 (.slice (some ⟨g, 0, none⟩) L.length c) L.length (L.map (Value.int .i64)) := own_below (HD8.out.own HAP0.out.own) HB4.out fun q hq => (by have e : g = q := (by simpa [Value.ownBlock] using hq); omega)
    have hcl := cells_of_own hownL (.int .i64 0)
    rw [← HNN.out] at hcl
    have HCL := Lib.hid hcl
    have HOL := Lib.hid hownL
    have hEn : E.length ≤ 200000 := by omega
    clear hownL hcl
    gi_wp2
    refine region_round (fun w' => w'.cell? ⟨W.heap.size, 0, none⟩ = some (.pointer (some ⟨s, 0, none⟩)) ∧ w'.cell? ⟨W.heap.size + 1, 0, none⟩ = some (.slice (some ⟨g, 0, none⟩) n c)) (by kernel_rfl) (by kernel_rfl) ⟨b0', b1'⟩ (fun hHeld => ?_)
    refine wpAnyH_take (i := 0) (oi := { dst := some 26, op := Op.load 53 (Operand.tmp 2), type := 53, pos := "check.go:31", after := #[], guard := none }) (v := .pointer (some ⟨s, 0, none⟩)) rfl (by kernel_rfl) (by kernel_rfl) (by kernel_rfl) (fun _ _ _ h => h) (Or.inl ⟨by rfl, ?_⟩) (by assumption) ?_
    · (intro w99 hSw; obtain ⟨s1, s2⟩ := hSw; go_simp)
    try simp only [Act.put, List.setIfInBounds_toArray, List.set_cons_zero, List.set_cons_succ]
    refine wpAnyH_take (i := 1) (oi := { dst := some 27, op := Op.move (Operand.tmp 7), type := 55, pos := "check.go:31", after := #[], guard := none }) (v := .slice Ac E.length c4) rfl (by kernel_rfl) (by kernel_rfl) (by kernel_rfl) (fun _ _ _ h => h) (Or.inl ⟨by rfl, ?_⟩) (by assumption) ?_
    · (intro w99 hSw; obtain ⟨s1, s2⟩ := hSw; go_simp)
    try simp only [Act.put, List.setIfInBounds_toArray, List.set_cons_zero, List.set_cons_succ]
    refine wpAnyH_take (i := 2) (oi := { dst := some 28, op := Op.load 55 (Operand.tmp 3), type := 55, pos := "check.go:31", after := #[], guard := none }) (v := .slice (some ⟨g, 0, none⟩) n c) rfl (by kernel_rfl) (by kernel_rfl) (by kernel_rfl) (fun _ _ _ h => h) (Or.inl ⟨by rfl, ?_⟩) (by assumption) ?_
    · (intro w99 hSw; obtain ⟨s1, s2⟩ := hSw; go_simp)
    try simp only [Act.put, List.setIfInBounds_toArray, List.set_cons_zero, List.set_cons_succ]
    refine wpAnyH_ready (rs := [3]) (by kernel_rfl) (by simp) ?_
    refine AllReadyH.cons (o := { dst := some 29, op := Op.call { callee := Callee.builtin Builtin.append, args := #[Operand.tmp 27, Operand.tmp 28], argTypes := #[55, 55] }, type := 55, pos := "check.go:31", after := #[{ on := 1, ground := Ground.data }, { on := 2, ground := Ground.data }], guard := none }) rfl (fun K hK => ?_) AllReadyH.nil
    refine step_append_cells rfl (.tmp 27) (.tmp 28) 55 rfl V0.heap.size 3 i0 (.int .i64 0) 8 Tryz.underlying55 hi hz0 hz1 hz2 rfl (.slice Ac E.length c4) E.length _ rfl (show V4.drew.ownsRow V0.heap.size 3 1 (.slice Ac E.length c4) E.length (E.map (Value.int .i64)) from HO4.out) V4.heap.size (some ⟨g, 0, none⟩) n c _ rfl (show Cells V4.drew V4.heap.size (some ⟨g, 0, none⟩) n _ from HCL.out) (fun j hj => ?_) (by unfold maxLen; omega) (by omega) (by show V0.heap.size ≤ V4.heap.size; omega) ?_
    · have hjl : j < L.length := by rw [← HNN.out]; exact hj
      simp [List.getD, hjl]
      rfl
    intro v' V5 hown5 hg5 _
    obtain ⟨A5, c5, rfl, hc5, _⟩ := own_slice hown5
    have hcomb : combo x D L = E ++ L := by unfold combo; rw [HE.out]
    have hlist : E.map (Value.int .i64) ++ (List.range n).map (fun j => (L.map (Value.int .i64)).getD j (.int .i64 0)) = (combo x D L).map (Value.int .i64) := by
      rw [hcomb, List.map_append, HNN.out]
      congr 1
      apply List.ext_getElem
      · simp
      · intro j h1 h2
        have hjl : j < L.length := by simpa using h2
        simp [List.getD, hjl]
    have hlen : (combo x D L).length = E.length + n := by rw [hcomb, List.length_append, HNN.out]
    rw [hlist, ← hlen] at hown5
    have hb45 : Below V0.heap.size V4 V5 := ((below_drewN (Below.refl V0.heap.size V4) 1).grown hg5 (by show V0.heap.size ≤ V4.heap.size; omega) fun q hq => (HO4.out.lt q hq).1)
    have hd85 : D8 V0 V5 := (HD8.out.low HB4.out).low hb45
    have hsz5 := hb45.size
    have k0 : Blk V5 W.heap.size 53 #[.pointer (some ⟨s, 0, none⟩)] := (HK0.out.below HB4.out (by omega)).below hb45 (by omega)
    have k1 : Blk V5 (W.heap.size + 1) 55 #[.slice (some ⟨g, 0, none⟩) n c] := (HK1.out.below HB4.out (by omega)).below hb45 (by omega)
    have k2 : Blk V5 (W.heap.size + 1 + 1) 4 #[.bool false] := (HK2.out.below HB4.out (by omega)).below hb45 (by omega)
    have hrest5 := HR0.out.d8 hd85
    have hlt : ∀ y, y ∈ combo x D L → Lt7 X.V y := fun y hy => by
      rcases mem_combo.1 hy with ⟨h, _⟩ | h
      · exact HDX.out.2.1 y h
      · exact HL.out y h
    have hap : Apart V5 Y V0.heap.size A5 c5 (combo x D L) := ⟨hown5, fun q hq e => by
      have h1 := (hown5.lt q hq).1
      have h2 := (HR0.out.sto.fnd.lt q e).2
      omega⟩
    have HIM := Lib.hid (implied_any7 hrest5 hap (fun y hy => by obtain ⟨a1, a2, a3⟩ := hlt y hy; omega) (by rw [hlen]; omega))
    rw [hlen, HV2.out.s, ← HS.out] at HIM
    have HFO : Hid (foreign7 Y.V (combo x D L) = false) := Lib.hid ((foreign7_yes (by rw [HV2.out.V]; exact hvb)).2 (by rw [HV2.out.V]; exact hlt))
    have HD85 := Lib.hid hd85
    have HB45 := Lib.hid hb45
    have HRE5 := Lib.hid (HRE4.out.trans (show Recs V4 V5 from (Recs.drewN V4 1).trans (Recs.grown_row hg5 (show V4.drew.ownsRow V0.heap.size 3 1 (.slice Ac E.length c4) E.length (E.map (Value.int .i64)) from HO4.out))))
    have HT5 := Lib.hid (HV5.out.d8 hd85 ((HTV.out.trans (HB4.out.mono (by omega))).trans (hb45.mono (by omega))) (((HRC.out.low HB4.out (by omega))).low hb45 (by omega)))
    have HQ0 := Lib.hid k0
    have HQ1 := Lib.hid k1
    have HQ2 := Lib.hid k2
    refine hK.out _ _ ⟨k0.cell 0, k1.cell 0⟩ (fun hHeld2 => ?_)
    clear hK hown5 hg5 hc5 hlist hb45 hd85 k0 k1 k2 hrest5 hap hlt
    try simp only [Act.put, List.setIfInBounds_toArray, List.set_cons_zero, List.set_cons_succ]
    refine wpAnyH_ready (rs := [4]) (by kernel_rfl) (by simp) ?_
    refine AllReadyH.cons (o := { dst := some 30, op := Op.call { callee := Callee.value (Operand.func 45), args := #[Operand.tmp 26, Operand.tmp 29], argTypes := #[53, 55] }, type := 4, pos := "check.go:31", after := #[{ on := 0, ground := Ground.data }, { on := 3, ground := Ground.data }, { on := 3, ground := Ground.chain }], guard := none }) rfl (fun K hK => ?_) AllReadyH.nil
    go_simp
    refine HIM.out.mono ?_
    rintro e V6 ⟨Z, fz, b, rfl, r1, r2, r3, r4, r5⟩
    have k0 : Blk V6 W.heap.size 53 #[.pointer (some ⟨s, 0, none⟩)] := r2.blk _ _ _ HQ0.out (by decide) (by decide) (by decide) (by decide) (by rw [HV2.out.fb]; omega) (fun e => ?_)
    have k1 : Blk V6 (W.heap.size + 1) 55 #[.slice (some ⟨g, 0, none⟩) n c] := r2.blk _ _ _ HQ1.out (by decide) (by decide) (by decide) (by decide) (by rw [HV2.out.fb]; omega) (fun e => ?_)
    have k2 : Blk V6 (W.heap.size + 1 + 1) 4 #[.bool false] := r2.blk _ _ _ HQ2.out (by decide) (by decide) (by decide) (by decide) (by rw [HV2.out.fb]; omega) (fun e => ?_)
    all_goals first | (rcases HV4.out.2 with h | h; (rw [h] at e; have := HXV.out _ e.symm; omega); (have := h _ e.symm; omega)) | skip
    have hS6 := And.intro (k0.cell 0) (k1.cell 0)
    refine hK.out _ _ hS6 (fun hHeld3 => ?_)
    clear hK
    try simp only [Act.put, List.setIfInBounds_toArray, List.set_cons_zero, List.set_cons_succ]
    refine wpAnyH_take (i := 5) (oi := { dst := some 31, op := Op.unOp UnOp.not 4 (Operand.tmp 30), type := 4, pos := "check.go:31", after := #[{ on := 4, ground := Ground.data }], guard := none }) (v := .bool (!b)) rfl (by kernel_rfl) (by kernel_rfl) (by kernel_rfl) (fun _ _ _ h => h) (Or.inl ⟨by rfl, ?_⟩) (by assumption) ?_
    · (intro w99 hSw; obtain ⟨s1, s2⟩ := hSw; go_simp)
    try simp only [Act.put, List.setIfInBounds_toArray, List.set_cons_zero, List.set_cons_succ]
    refine wpAnyH_done (by kernel_rfl) ?_ _
    dsimp only [Calm]
    have HZ := Lib.hid r1
    have HTZ := Lib.hid (HT5.out.trans r2 HV4.out)
    have HLZ := Lib.hid (HV4.out.trans r3 (by omega))
    have HSZ := Lib.hid (HV2.out.trans r4)
    have HRZ := Lib.hid (HRE5.out.trans r2.recs)
    have HAN : Hid (b = true ↔ Clash X.cs (negs (combo x D L))) := Lib.hid (by rw [← HV2.out.cs]; exact r5.trans ⟨fun e => e.2, fun e => ⟨HFO.out, e⟩⟩)
    have hsz6 := r2.below.size
    have HK2' := Lib.hid k2
    have f2 := k2.frozen 0
    have q2 := k2.cell 0
    simp at f2 q2
    clear r1 r2 r3 r4 r5 k0 k1 k2 hHeld hHeld2 hHeld3 hS6 hlen hcomb
    rcases b with _ | _
    · gi_wp2
      refine ⟨HRZ.out.trans (Recs.set _ _ _), rfl, Z, fz, HSZ.out, ?_, ?_, ?_, ?_, ?_⟩
      · exact ⟨HZ.out.sto.box HK2'.out (by rw [HSZ.out.fb]; omega) 0 (.bool false), HZ.out.wf, HZ.out.fw, HZ.out.fd, HZ.out.short, HZ.out.shelf⟩
      · exact HLZ.out.from_ (by omega)
      · exact ((Tn.of_below HBW.out hB).trans HTZ.out (Later7.refl _ _)).low ((Below.refl _ _).setCell (by simp; omega) _) hB
      · simpa using HK2'.out.set_ 0 (.bool false)
      · rintro ⟨y, ys, e, hall⟩
        rw [HLL.out] at e
        injection e with e1 e2
        subst e1
        obtain ⟨_, _, _, hDc, hDx⟩ := HDX.out
        have := HAN.out.2 (hall D hDc hDx)
        cases this
    · gi_wp2
      refine ⟨HRZ.out, by omega, Z, HSZ.out, ⟨fz, HZ.out⟩, HLZ.out, HTZ.out, fun j hj => ?_⟩
      by_cases hjk : j < k
      · have := HV6.out j hjk
        simpa [List.getD] using this
      · obtain rfl : j = k := by omega
        have := HAN.out.1 (by simp)
        rw [HDX.out.1] at this
        simpa [List.getD] using this
  case hdone =>
    rintro D V hD ⟨hz, Y, fy, h2, h3, h4, h5, h6⟩ hdf
    have hr : Blk V (W.heap.size + 1 + 1) 4 #[.bool false] := h5.blk _ _ _ K2.out (by decide) (by decide) (by decide) (by decide) (by omega) (fun e => by have := HXV.out _ e.symm; omega)
    have hne : W.heap.size + 1 + 1 ≠ Y.fb := by rw [h2.fb]; omega
    have HR1 := Lib.hid (show Rest7 (V.setCell ⟨W.heap.size + 1 + 1, 0, none⟩ (.bool true)) base Y fy from ⟨h3.sto.box hr hne 0 (.bool true), h3.wf, h3.fw, h3.fd, h3.short, h3.shelf⟩)
    have HT1 := Lib.hid (show Tn base X W (V.setCell ⟨W.heap.size + 1 + 1, 0, none⟩ (.bool true)) from ((Tn.of_below HBW.out hB).trans h5 (Later7.refl _ _)).low ((Below.refl _ _).setCell (by simp; omega) _) hB)
    have HL1 := Lib.hid (h4.from_ (W := W) (by omega))
    have HS1 := Lib.hid h2
    have HBY : Hid (ByP X.cs L) := Lib.hid ⟨x, xs, HLL.out, fun d hd hxd => by
      have hm : d ∈ X.told (-x) := told_mem.2 ⟨hd, hxd⟩
      obtain ⟨j, hj, rfl⟩ := List.getElem_of_mem hm
      have := h6 j (by rw [HTL.out] at hj; exact hj)
      simpa [List.getD, hj] using this⟩
    have HK9 := Lib.hid ((hr.set_ 0 (.bool true)).cell 0)
    have HD1 := Lib.hid (show (V.setCell ⟨W.heap.size + 1 + 1, 0, none⟩ (.bool true)).heap[D]? = some (.deferred (some [])) from (Below.heap_setCell _ ⟨W.heap.size + 1 + 1, 0, none⟩ _ D (by show D ≠ W.heap.size + 1 + 1; omega)).trans hdf)
    have r0 := hr.cell 0
    have rf := hr.frozen 0
    simp at r0 rf
    clear h2 h3 h4 h5 h6 hr hdf
    go_wp2_with fail
    refine ⟨by simp, .inl ⟨_, _, rfl, run_takeDeferred HD1.out, ?_⟩⟩
    have hbp := rows9_put (B := w3.heap.size) (V.setCell ⟨W.heap.size + 1 + 1, 0, none⟩ (.bool true)) D (.deferred none) _ HD1.out (by rintro (⟨_, _, _, h⟩ | ⟨_, _, h⟩) <;> cases h) hD
    have hfin := (hbp.below.cell (p := ⟨W.heap.size + 1 + 1, 0, none⟩) (by show W.heap.size + 1 + 1 < _; omega)).trans (show _ = some (Value.bool true) by simpa using HK9.out)
    exact ⟨_, results_cell8 rfl rfl (load_bool8 hfin), Y, fy, true, rfl, HR1.out.d8 hbp.d8, HT1.out.low (hbp.below.mono (by omega)) hB, HL1.out, HS1.out, ⟨fun _ => HBY.out, fun _ => rfl⟩⟩
  case hstop =>
    rintro D cd V hD ⟨rfl, Y, fy, h2, h3, h4, h5, h6, h7⟩ hdf
    gi_wp2_with fail
    refine ⟨by simp, .inl ⟨_, _, rfl, run_takeDeferred hdf, ?_⟩⟩
    have hbp := rows9_put (B := w3.heap.size) V D (.deferred none) _ hdf (by rintro (⟨_, _, _, h⟩ | ⟨_, _, h⟩) <;> cases h) hD
    exact ⟨_, results_cell8 rfl rfl (load_bool8 ((hbp.d8.blk h6).cell 0)), Y, fy, false, rfl, h3.d8 hbp.d8, h5.low (hbp.below.mono (by omega)) hB, h4, h2, ⟨fun h => (by cases h), fun h => absurd h h7⟩⟩
end Go.Proofs.YthcpfaahcncfjaaGreatDoor

namespace Go.Proofs.YthcpfaahcncfjaaGreatDoor
open Go.RowKit
set_option linter.unusedVariables false
set_option linter.unusedSimpArgs false

theorem by_any8 {W : World} {base b0 c : Nat} {X : SX} {fo : List Bool} {L : List Int} {A : Option Addr} (h : Rest7 W base X fo) (hA : Apart W X b0 A c L) (hL : ∀ y, y ∈ L → Lt7 X.V y) (hn : L.length ≤ 1000000) (had : X.added ≤ 1000000000) :
    Calls Tryz.prog 27 #[.pointer (some ⟨X.s, 0, none⟩), .slice A L.length c] W (ByAns base X W (ByP X.cs L)) := by
  rcases L with _ | ⟨x, xs⟩
  · exact by_none8 h A c
  · exact by_some8 h hA hL hn had

set_option maxHeartbeats 1000000 in
theorem may_any8 {W : World} {base b0 c : Nat} {X : SX} {fo : List Bool} {L : List Int} {A : Option Addr} (h : Rest7 W base X fo) (hA : Apart W X b0 A c L) (hL : ∀ y, y ∈ L → Lt7 X.V y) (hn : L.length ≤ 1000000) (had : X.added ≤ 1000000000) :
    Calls Tryz.prog 26 #[.pointer (some ⟨X.s, 0, none⟩), .slice A L.length c] W (ByAns base X W (MayP X.cs L)) := by
  have HI := Lib.hid (implied_any7 h hA (lt7_wide h.sto.vb hL) (by omega))
  have hfo := (foreign7_yes h.sto.vb).2 hL
  have hbase : base ≤ W.heap.size := by have := h.sto.lo.1; have := h.sto.st.lt; omega
  have HBY : Hid (∀ W' (X' : SX) (fo' : List Bool), Rest7 W' base X' fo' → Tn base X W W' → Later7 W X X' → SameR X X' → Calls Tryz.prog 27 #[.pointer (some ⟨X.s, 0, none⟩), .slice A L.length c] W' (ByAns base X' W' (ByP X.cs L))) := Lib.hid fun W' X' fo' r1 r2 r3 r4 => by
    have := by_any8 r1 (hA.turn h.sto r2 r3) (fun y hy => by rw [r4.V]; exact hL y hy) hn (by rw [r4.more.1]; exact had)
    rw [r4.s, r4.cs] at this
    exact this
  have HFO := Lib.hid hfo
  obtain ⟨n, hnn⟩ : ∃ n, n = L.length := ⟨_, rfl⟩
  obtain ⟨s, hs⟩ : ∃ s, s = X.s := ⟨_, rfl⟩
  rw [← hnn, ← hs] at HI HBY ⊢
  clear h hA hL hfo hnn hs
  go_enter Tryz.func26, Tryz.ntmps26
  go_wp2_with fail
  refine HI.out.mono ?_
  rintro e W1 ⟨X1, fo1, b1, rfl, r1, r2, r3, r4, r5⟩
  have HR1 := Lib.hid r1
  have HT1 := Lib.hid r2
  have HL1 := Lib.hid r3
  have HS1 := Lib.hid r4
  have h5 : b1 = true ↔ Clash X.cs (negs L) := r5.trans ⟨fun e => e.2, fun e => ⟨HFO.out, e⟩⟩
  have H5 := Lib.hid h5
  have HB1 := Lib.hid (HBY.out W1 X1 fo1 r1 r2 r3 r4)
  clear r1 r2 r3 r4 r5 h5
  rcases b1 with _ | _
  · go_wp2_with fail
    refine HB1.out.mono ?_
    rintro e W2 ⟨X2, fo2, b2, rfl, q1, q2, q3, q4, q5⟩
    have HR2 := Lib.hid q1
    have HT2 := Lib.hid (HT1.out.trans q2 HL1.out)
    have HL2 := Lib.hid (HL1.out.trans q3 HT1.out.below.size)
    have HS2 := Lib.hid (HS1.out.trans q4)
    have HQ := Lib.hid q5
    clear q1 q2 q3 q4 q5
    go_wp2
    go_ret
    refine ⟨X2, fo2, b2, rfl, HR2.out, HT2.out, HL2.out, HS2.out, HQ.out.trans ⟨fun h => .inr h, fun h => h.resolve_left fun hc => ?_⟩⟩
    have := H5.out.2 hc
    cases this
  · go_wp2
    go_ret
    exact ⟨X1, fo1, true, rfl, HR1.out, HT1.out, HL1.out, HS1.out, ⟨fun _ => .inl (H5.out.1 (by simp)), fun _ => rfl⟩⟩

/-- rows of one's own; two may be the same -/
def ORows (w : World) (B b0 : Nat) (vs : List Value) (cs : List (List Int)) : Prop :=
  ∀ j, j < cs.length → ∃ Aj cj, vs[j]? = some (.slice Aj (cs.getD j []).length cj) ∧ w.ownsRow b0 3 1 (.slice Aj (cs.getD j []).length cj) (cs.getD j []).length ((cs.getD j []).map (Value.int .i64)) ∧ ∀ g, (Value.slice Aj (cs.getD j []).length cj).ownBlock = some g → g < B
theorem ORows.below {w w' : World} {B B' b0 : Nat} {vs : List Value} {cs : List (List Int)} (h : ORows w B b0 vs cs) (hb : Below B' w w') (hB : B ≤ B') : ORows w' B b0 vs cs := fun j hj => by
  obtain ⟨Aj, cj, e, ho, hl⟩ := h j hj
  exact ⟨Aj, cj, e, own_below ho hb fun g hg => Nat.lt_of_lt_of_le (hl g hg) hB, hl⟩

set_option maxRecDepth 100000 in
set_option maxHeartbeats 1000000 in
theorem store8_any (V : Nat) (cs : List (List Int)) (vs : List Value) (b0 b1 : Nat) (A : Option Addr) (c : Nat) (w : World) (hV : V ≤ 100000) (hn : cs.length ≤ 1000000) (hl : ∀ d, d ∈ cs → d.length ≤ 1000000 ∧ ∀ x, x ∈ d → Lt7 V x)
    (ho : w.ownsRow b1 55 1 (.slice A cs.length c) cs.length vs) (hr : ORows w w.heap.size b0 vs cs) (hT : Tab7 w) :
    Calls Tryz.prog 32 #[.agg #[.int .i64 V, .slice A cs.length c]] w fun e w' => ∃ (s : Nat) (X : SX), e = .returned (.pointer (some ⟨s, 0, none⟩)) ∧ Sx w' (w.heap.size + 1) s V (cs.map normOf) cs.length X ∧ Below w.heap.size w w' := by
  have HO := Lib.hid ho
  have HR := Lib.hid hr
  have HL := Lib.hid hl
  have HT := Lib.hid hT.b
  obtain ⟨n, hnn⟩ : ∃ n, n = cs.length := ⟨_, rfl⟩
  have HN := Lib.hid hnn
  rw [← hnn] at hn ⊢
  obtain ⟨w1, hw1⟩ : ∃ w1, w1 = w.alloc (.cells #[.int .i64 V, .slice A n c] 31) := ⟨_, rfl⟩
  have hB1 : Below w.heap.size w w1 := by rw [hw1]; exact (Below.refl _ _).alloc (Nat.le_refl _) _
  have hs1 : w1.heap.size = w.heap.size + 1 := by rw [hw1]; simp
  have hf1 : Blk w1 w.heap.size 31 #[.int .i64 V, .slice A n c] := by rw [hw1]; exact Blk.new w _ _
  have HB1 := Lib.hid hB1
  have HF1 := Lib.hid hf1
  have HNEW := Lib.hid (new_any7 V hV w1)
  have HW1 := Lib.hid hw1
  clear ho hr hl hT hnn hB1 hf1 hw1
  go_enter Tryz.func32, Tryz.ntmps32
  go_wp2_with (go_at_call 42; rw [← HW1.out]; refine HNEW.out.mono ?_; rintro e2 w2 ⟨s, m, fb, wb, rfl, hrest, hb2⟩; have f1 := (HF1.out.below hb2 (by omega)).cell 1; have HB2 := Lib.hid hb2; have HRE := Lib.hid hrest; clear hrest hb2)
  go_loopg [12] (n + 1) (fun gk i wr => ∃ (k : Nat) (Y : SX) (fy : List Bool), k ≤ n ∧ gk = n - k + 1 ∧ i = .int .i64 k ∧ Hid (Rest7 wr w1.heap.size Y fy) ∧ Hid (Y.s = s ∧ Y.V = V ∧ Y.cs = (cs.take k).map normOf ∧ Y.ps.length ≤ k ∧ Y.added ≤ k ∧ Y.tk ≤ k) ∧ Hid (Below w1.heap.size w1 wr))
  case atStart => exact ⟨0, _, _, by omega, by omega, rfl, HRE, Lib.hid ⟨rfl, rfl, rfl, Nat.le_refl _, Nat.le_refl _, Nat.le_refl _⟩, HB2⟩
  case round =>
    obtain ⟨k, Y, fy, hk, rfl, rfl, HY, HQ, HB⟩ := hrel
    have HBW := Lib.hid (HB1.out.trans (HB.out.mono (by omega)))
    by_cases hlt : k < n
    · obtain ⟨Aj, cj, hvj, hoj, hgj⟩ := HR.out k (by rw [← HN.out]; exact hlt)
      have hob := own_below HO.out HBW.out fun g hg => (HO.out.lt g hg).2
      have hcell : ∃ g, A = some ⟨g, 0, none⟩ ∧ wr.cell? ⟨g, k, none⟩ = some (.slice Aj (cs.getD k []).length cj) := by
        obtain ⟨g, rfl, _, _⟩ := own_addr hob (by have := HN.out; omega)
        exact ⟨g, rfl, by rw [World.ownsRow.cellAt hob k (by have := HN.out; omega)]; exact hvj⟩
      obtain ⟨g, rfl, hc⟩ := hcell
      have hmem : cs.getD k [] ∈ cs := rows_row (by rw [← HN.out]; exact hlt)
      obtain ⟨hd1, hd2⟩ := HL.out _ hmem
      have htk : cs.take (k + 1) = cs.take k ++ [cs.getD k []] := by
        have h2 : k < cs.length := by rw [← HN.out]; exact hlt
        rw [List.take_succ_eq_append_getElem h2]; simp [List.getD, h2]
      obtain ⟨d, hdd⟩ : ∃ d, d = cs.getD k [] := ⟨_, rfl⟩
      rw [← hdd] at hc hoj hd1 hd2 htk hgj
      obtain ⟨q1, q2, q3, q4, q5, q6⟩ := HQ.out
      have hap : Apart wr Y b0 Aj cj d := HY.out.sto.apart_low (own_below hoj HBW.out fun g hg => (hoj.lt g hg).2) fun g hg => by have := (hoj.lt g hg).2; omega
      have HAD := Lib.hid (add_any7 HY.out hap (fun x hx => by obtain ⟨a1, a2, a3⟩ := hd2 x hx; omega) hd1 ((HT.out.on HBW.out).mono (by omega)) (by omega) (by omega) (by omega))
      have HFO : Hid (foreign7 Y.V d = false) := Lib.hid ((foreign7_yes (by omega)).2 (by rw [q2]; exact hd2))
      rw [q1] at HAD
      have HTK := Lib.hid htk
      clear hvj hoj hob hmem hd2 htk hdd hap q1 q2 q3 q4 q5 q6 hgj
      go_wp2_with (go_at_call 34; refine HAD.out.mono ?_; rintro e3 w3 ⟨X', fo', b, rfl, hr3, ht3, hl3, hs3, hb3, hy3, -⟩; obtain rfl := hb3.2 HFO.out; have HR3 := Lib.hid hr3; have HT3 := Lib.hid ht3; have HS3 := Lib.hid hs3; have HY3 := Lib.hid (hy3 rfl); clear hr3 ht3 hl3 hs3 hb3 hy3)
      go_roundg (n - k)
      case measure => omega
      case rel =>
        obtain ⟨q1, q2, q3, q4, q5, q6⟩ := HQ.out
        obtain ⟨p1, p2⟩ := HS3.out
        obtain ⟨r1, r2, r3, r4⟩ := HY3.out
        refine ⟨k + 1, X', fo', by omega, by omega, by go_num, HR3, Lib.hid ⟨p1.trans q1, p2.trans q2, ?_, by omega, by omega, by omega⟩, Lib.hid (HB.out.trans HT3.out.below)⟩
        rw [r1, q3, HTK.out, List.map_append]
        rfl
    · obtain rfl : k = n := by omega
      go_wp2
      go_ret
      obtain ⟨q1, q2, q3, q4, q5, q6⟩ := HQ.out
      rw [HN.out, List.take_length] at q3
      have hY := HY.out
      rw [hs1] at hY
      exact ⟨s, Y, rfl, ⟨q1, q2, q3, q4, q5, q6, fy, hY⟩, HBW.out⟩
end Go.Proofs.YthcpfaahcncfjaaGreatDoor
