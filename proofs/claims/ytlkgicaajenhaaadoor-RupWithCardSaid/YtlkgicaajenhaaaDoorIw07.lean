/- How things stand between two rounds of the loop over what With yields. -/
import Derived.Test.YtlkgicaajenhaaaDoorWith07
import Derived.Test.YtlkgicaajenhaaaDoorDoor7
import Derived.Test.YtlkgicaajenhaaaDoorRangeIt7
namespace Go.Proofs.YtlkgicaajenhaaaDoor
open Go.RowKit Go.Shelf
attribute [local go_sem] Oper.semAt_some
set_option linter.unusedVariables false
set_option linter.unusedSimpArgs false

theorem results_cell0 {P : Program} {fn : Func} {c : Tmp} {T : TypeId} (h : fn.results = #[.cell c T]) {tmps : Array Value} {w : World} {v0 : Value} {ad : Addr} (hc : tmps.getD c undef = .pointer (some ad)) (hl : (loadVar T ad).run P w = .ok v0 w) : (results fn tmps).run P w = .ok v0 w := by
  rw [Array.getD_eq_getD_getElem?] at hc
  simp [results, h, hc, hl, asAddr]

theorem load_bool {b : Nat} {x : Bool} {w : World} (h0 : w.cell? ⟨b, 0, none⟩ = some (.bool x)) : (loadVar 4 ⟨b, 0, none⟩).run Tryd.prog w = .ok (.bool x) w := by
  have hu := Tryd.underlying4
  go_simp

theorem with_any (s : Nat) (l : Int) (w : World) : Calls Tryd.prog 27 #[.pointer (some ⟨s, 0, none⟩), .int .i64 l] w fun e w' => e = .returned (.func (.func 40) #[] #[.pointer (some ⟨w.heap.size, 0, none⟩), .pointer (some ⟨w.heap.size + 1, 0, none⟩)]) ∧ w' = (w.alloc (.cells #[.pointer (some ⟨s, 0, none⟩)] 32)).alloc (.cells #[.int .i64 l] 3) := by
  go_enter Tryd.func27, Tryd.ntmps27
  go_wp2
  go_ret
  exact ⟨rfl, rfl⟩
/-- where the first clauses stand that have the literal -/
def hitsAt (l : Int) (cs : List (List Int)) (k : Nat) : List Nat := (List.range k).filter fun j => decide (l ∈ cs.getD j [])
theorem hitsAt_succ (l : Int) (cs : List (List Int)) (k : Nat) : hitsAt l cs (k + 1) = if l ∈ cs.getD k [] then hitsAt l cs k ++ [k] else hitsAt l cs k := by
  unfold hitsAt
  rw [List.range_succ, List.filter_append, List.filter_cons]
  by_cases h : l ∈ cs.getD k []
  · rw [if_pos h, if_pos (by simpa using h)]; rfl
  · rw [if_neg h, if_neg (by simpa using h)]; simp
theorem hitsAt_len (l : Int) (cs : List (List Int)) (k : Nat) : (hitsAt l cs k).length ≤ k := by
  have := List.length_filter_le (fun j => decide (l ∈ cs.getD j [])) (List.range k)
  simpa [hitsAt] using this

theorem wrap64_k7 {k : Nat} (h : k < 1000) : wrap64 ((k : Int) + 1) = (k : Int) + 1 := by unfold wrap64; omega
theorem wrap64_k8 {k : Nat} (h : k < 1000) : wrap64 ((k : Int) + 1 - 1) = (k : Int) := by unfold wrap64; omega
theorem told_at {X : SX} {cs : List (List Int)} (l : Int) (h : X.cs = cs.map normOf) : X.told l = (hitsAt l cs cs.length).map fun j => normOf (cs.getD j []) := by
  have e : cs = (List.range cs.length).map fun j => cs.getD j [] := by
    apply List.ext_getElem
    · simp
    · intro i h1 h2
      simp [List.getD, h1]
  have e2 : X.told l = (cs.filter fun c => decide (l ∈ c)).map normOf := by
    unfold SX.told
    rw [SX.hits_cs, h, List.filter_map]
    congr 1
    apply List.filter_congr
    intro c _
    simp [mem_normOf]
  rw [e2]
  conv => lhs; rw [e]
  rw [List.filter_map, List.map_map]
  rfl
theorem Rows9.blk {B : Nat} {W W' : World} (h : Rows9 B W W') {g : Nat} {t : TypeId} {cs : Array Value} (hb : Blk W g t cs) : Blk W' g t cs := h.data g _ hb (.inl ⟨_, _, _, rfl⟩)
theorem Rows9.own {B base n : Nat} {W W' : World} {e : TypeId} {v : Value} {xs : List Value} (h : Rows9 B W W') (ho : W.ownsRow base e 1 v n xs) : W'.ownsRow base e 1 v n xs := by
  refine ⟨ho.1, ?_⟩
  rcases ho.2 with hn | ⟨g, cap, cur, rfl, hg, hgg, rest⟩
  · exact .inl hn
  · exact .inr ⟨g, cap, cur, rfl, hg, h.data g _ hgg (.inl ⟨_, _, _, rfl⟩), rest⟩
/-- how things stand between two rounds -/
structure Iw (w6 : World) (bS bW bK bs bl gl : Nat) (s : Nat) (l : Int) (H : Nat) (Al : Value) (ls : List Value) (Ah : Option Addr) (ch : Nat) (hs : List Value) (k : Nat) (W : World) : Prop where
  low : Below w6.heap.size w6 W
  sB : Blk W bS 32 #[.pointer (some ⟨s, 0, none⟩)]
  wB : Blk W bW 28 #[.slice Ah hs.length ch]
  own : W.ownsRow H 34 1 (.slice Ah hs.length ch) hs.length hs
  kB : Blk W bK 3 #[.int .i64 k]
  lB : ∃ cur, Blk W gl 3 cur ∧ cur[0]? = some (.int .i64 l)
  s2 : Blk W bs 32 #[.pointer (some ⟨s, 0, none⟩)]
  l2 : Blk W bl 3 #[.int .i64 l]
  o0 : w6.heap.size ≤ bK
  o1 : gl < bK
  o2 : bK < bl
section
variable {w6 W W' : World} {bS bW bK bs bl gl s H ch k : Nat} {l : Int} {Al : Value} {ls hs : List Value} {Ah : Option Addr}
theorem Iw.rows {B : Nat} (h : Iw w6 bS bW bK bs bl gl s l H Al ls Ah ch hs k W) (hr : Rows9 B W W') (hB : w6.heap.size ≤ B) : Iw w6 bS bW bK bs bl gl s l H Al ls Ah ch hs k W' := by
  obtain ⟨cur, h1, h2⟩ := h.lB
  exact ⟨h.low.trans (hr.below.mono hB), hr.blk h.sB, hr.blk h.wB, hr.own h.own, hr.blk h.kB, ⟨cur, hr.blk h1, h2⟩, hr.blk h.s2, hr.blk h.l2, h.o0, h.o1, h.o2⟩
theorem Iw.below (h : Iw w6 bS bW bK bs bl gl s l H Al ls Ah ch hs k W) (hb : Below W.heap.size W W') : Iw w6 bS bW bK bs bl gl s l H Al ls Ah ch hs k W' :=
  h.rows (Rows9.of_below hb h.low.size) (Nat.le_refl _)
theorem Iw.lt (h : Iw w6 bS bW bK bs bl gl s l H Al ls Ah ch hs k W) : bl < W.heap.size := h.l2.lt
theorem Iw.setk (h : Iw w6 bS bW bK bs bl gl s l H Al ls Ah ch hs k W) : Iw w6 bS bW bK bs bl gl s l H Al ls Ah ch hs (k + 1) (W.setCell ⟨bK, 0, none⟩ (.int .i64 ((k : Int) + 1))) := by
  obtain ⟨cur, h1, h2⟩ := h.lB
  have hk := h.kB
  have o0 := h.o0
  have o1 := h.o1
  have o2 := h.o2
  exact ⟨h.low.setCell (by simpa using o0) _, h.sB.far (h.sB.ne_ hk (by decide)) _, h.wB.far (h.wB.ne_ hk (by decide)) _, own_setCell h.own _ (own_blk_ne h.own hk (by decide)), by simpa using hk.set_ 0 (.int .i64 ((k : Int) + 1)), ⟨cur, h1.far (by simp; omega) _, h2⟩, h.s2.far (h.s2.ne_ hk (by decide)) _, h.l2.far (by simp; omega) _, o0, o1, o2⟩
theorem Iw.far (h : Iw w6 bS bW bK bs bl gl s l H Al ls Ah ch hs k W) {q : Nat} {cq : Array Value} (hq : Blk W q 3 cq) (hlt : bl < q) (i : Nat) (v : Value) : Iw w6 bS bW bK bs bl gl s l H Al ls Ah ch hs k (W.setCell ⟨q, i, none⟩ v) := by
  obtain ⟨cur, h1, h2⟩ := h.lB
  have o0 := h.o0
  have o1 := h.o1
  have o2 := h.o2
  exact ⟨h.low.setCell (by show w6.heap.size ≤ q; omega) _, h.sB.far (h.sB.ne_ hq (by decide)) _, h.wB.far (h.wB.ne_ hq (by decide)) _, own_setCell h.own _ (own_blk_ne h.own hq (by decide)), h.kB.far (by show bK ≠ q; omega) _, ⟨cur, h1.far (by show gl ≠ q; omega) _, h2⟩, h.s2.far (h.s2.ne_ hq (by decide)) _, h.l2.far (by show bl ≠ q; omega) _, o0, o1, o2⟩
end
end Go.Proofs.YtlkgicaajenhaaaDoor
