/- Rows of bytes, and rows of steps: pairs of a bool and a row of ints. No program is named here. -/
import Derived.Test.YthcpfaahcncfjaaGreatDoorOwnRows
import Derived.Test.YthcpfaahcncfjaaGreatDoorDratMath
import Derived.Lib.UnsafeStr
namespace Go.Proofs.YthcpfaahcncfjaaGreatDoor
open Go.RowKit
set_option linter.unusedSimpArgs false
set_option linter.unusedVariables false

/-- a row of bytes that reads as a list -/
def Bytes (w : World) (B : Nat) (A : Option Addr) (bs : List UInt8) : Prop := Cells w B A bs.length fun j => .int .u8 ((bs.getD j 0).toNat : Int)
theorem byteCells_append (l m : List UInt8) : Lib.byteCells (l ++ m) = Lib.byteCells l ++ Lib.byteCells m := by simp [Lib.byteCells]
theorem byteCells_one (b : UInt8) : Lib.byteCells [b] = [.int .u8 (b.toNat : Int)] := rfl
theorem bytes_of_own {w : World} {base e c : Nat} {A : Option Addr} {bs : List UInt8} (h : w.ownsRow base e 1 (.slice A bs.length c) bs.length (Lib.byteCells bs)) : Bytes w w.heap.size A bs := by
  refine (cells_of_own h (.int .u8 0)).congr fun j hj => ?_
  simp [List.getD, Lib.byteCells, hj]

/-- an append to a row of one's own, behind an allocation, leaves a block of another type as it was -/
theorem blk_kept {w w3 : World} {o : Obj} {v : Value} {base e n g t : Nat} {xs : List Value} {cs : Array Value} (hg : (w.alloc o).grownBy w3 v.ownBlock) (hown : w.ownsRow base e 1 v n xs) (hb : Blk w g t cs) (hne : e ≠ t) : Blk w3 g t cs :=
  (hb.alloc o).grown hg (own_blk_ne (hown.alloc o) (hb.alloc o) hne)

/-- append of one value of several cells that has just been laid in a block of its own -/
theorem wpList_append_el {P : Program} (w : World) {ops : Array Oper} {rest : List Oper} {o : Oper} {a : Act} {Q : Exit → Act → World → Prop} (hgd : o.guard = none) (s x : Operand) (t : TypeId)
    (ho : o.op = .call { callee := .builtin .append, args := #[s, x], argTypes := #[t, t] })
    (base : Nat) (e : TypeId) (i : TypeInfo) (z : Value) (size bytes : Nat) (ht : P.underlying t = some (.slice e)) (hi : P.info? e = some i) (hz : i.zero = some z)
    (hsize : i.size = size) (hby : i.bytes = bytes) (hzs : z.cells.size = size) (hpos : 0 < size)
    (v : Value) (n : Nat) (xs : List Value) (hs : a.eval s = v) (hown : w.ownsRow base e size v n xs)
    (us : List Value) (hl : us.length = size) (g : Nat) (hx : a.eval x = .slice (some ⟨g, 0, none⟩) 1 1) (hc : ∀ j u, us[j]? = some u → w.cell? ⟨g, j, none⟩ = some u) (h1 : ∀ u ∈ us, u.oneCell' = true)
    (h63 : n + 1 ≤ maxLen) (hbytes : (n + 1) * bytes ≤ 140737488355328) (hbase : base ≤ w.heap.size)
    (h : ∀ v' w', w'.ownsRow base e size v' (n + 1) (xs ++ us) → w.grownBy w' v.ownBlock → (v'.ownBlock = v.ownBlock ∨ v'.ownBlock = some w.heap.size) → wpList P ops Q rest (a.put o.dst v') w') : wpList P ops Q (o :: rest) a w := by
  obtain ⟨v', w', hrun, h2, h3, _, h4⟩ := run_append_own_at (P := P) w base t o.type e i z size bytes ht hi hz hsize hby hzs hpos v n xs hown ⟨g, 0, none⟩ 1 1 us (by omega)
    (by intro j u hu; rw [show (Addr.mk g 0 none).add j = ⟨g, j, none⟩ by unfold Addr.add; split <;> simp_all]; exact hc j u hu) h1 h63 hbytes hbase
  refine wpList_plain hgd fun _ hK => ?_
  unfold Oper.wp execOp
  simp only [ho, resolve, invoke, builtin, Sem.run_bind, Sem.run_pure, Result.andThen_ok, List.map_toArray, List.map_cons, List.map_nil, hs, hx, hrun]
  exact hK _ _ (h v' w' h2 h3 h4)
theorem own_belowK {w w' : World} {B base e size n : Nat} {v : Value} {xs : List Value} (h : w.ownsRow base e size v n xs) (hb : Below B w w') (hB : w.heap.size ≤ B) : w'.ownsRow base e size v n xs := by
  refine ⟨h.1, ?_⟩
  rcases h.2 with hn | ⟨g, cap, cur, rfl, hg, hgg, rest⟩
  · exact .inl hn
  · exact .inr ⟨g, cap, cur, rfl, hg, by rw [hb.block g (Nat.lt_of_lt_of_le (Array.getElem?_eq_some_iff.1 hgg).1 hB)]; exact hgg, rest⟩
/-- two cells of a block known whole -/
theorem two_cells {w : World} {g t : Nat} {x y : Value} (h : Blk w g t #[x, y]) : ∀ j u, ([x, y] : List Value)[j]? = some u → w.cell? ⟨g, j, none⟩ = some u := by
  intro j u hu
  match j, hu with
  | 0, hu => rw [h.cell]; simpa using hu
  | 1, hu => rw [h.cell]; simpa using hu

abbrev stp0 : Stp := (false, [])
/-- a row of steps that reads as a list; its literals are of any kind -/
def KSteps (k : IntKind) (w : World) (B : Nat) (A : Option Addr) (ps : List Stp) : Prop :=
  0 < ps.length → ∃ b off, A = some ⟨b, off, none⟩ ∧ b < B ∧ ∀ j, j < ps.length → ∃ Aj cj, w.cell? ⟨b, off + j * 2, none⟩ = some (.bool (ps.getD j stp0).1) ∧
    w.cell? ⟨b, off + j * 2 + 1, none⟩ = some (.slice Aj (ps.getD j stp0).2.length cj) ∧ KInts k w B Aj (ps.getD j stp0).2
abbrev Steps := KSteps .i64
section
variable {k : IntKind} {w w' : World} {B B' : Nat} {A : Option Addr} {ps : List Stp}
theorem KSteps.nil_ : KSteps k w B A [] := fun h => absurd h (by simp)
theorem KSteps.at_ {j : Nat} (h : KSteps k w B A ps) (hk : j < ps.length) : ∃ b off Aj cj, A = some ⟨b, off, none⟩ ∧ b < B ∧ w.cell? ⟨b, off + j * 2, none⟩ = some (.bool (ps.getD j stp0).1) ∧
    w.cell? ⟨b, off + j * 2 + 1, none⟩ = some (.slice Aj (ps.getD j stp0).2.length cj) ∧ KInts k w B Aj (ps.getD j stp0).2 := by
  obtain ⟨b, off, e, hb, hc⟩ := h (by omega)
  obtain ⟨Aj, cj, h1, h2, h3⟩ := hc j hk
  exact ⟨b, off, Aj, cj, e, hb, h1, h2, h3⟩
theorem KSteps.keep (h : KSteps k w B A ps) (hk : ∀ p : Addr, p.block < B → w'.cell? p = w.cell? p) : KSteps k w' B A ps := fun hn => by
  obtain ⟨b, off, e, hb, hc⟩ := h hn
  refine ⟨b, off, e, hb, fun j hj => ?_⟩
  obtain ⟨Aj, cj, h1, h2, h3⟩ := hc j hj
  exact ⟨Aj, cj, (hk _ hb).trans h1, (hk _ hb).trans h2, Cells.keep h3 hk⟩
theorem KSteps.more (h : KSteps k w B A ps) (hB : B ≤ B') : KSteps k w B' A ps := fun hn => by
  obtain ⟨b, off, e, hb, hc⟩ := h hn
  refine ⟨b, off, e, by omega, fun j hj => ?_⟩
  obtain ⟨Aj, cj, h1, h2, h3⟩ := hc j hj
  exact ⟨Aj, cj, h1, h2, Cells.more h3 hB⟩
theorem KSteps.below (h : KSteps k w B A ps) (hb : Below B w w') : KSteps k w' B A ps := h.keep fun _ hp => hb.cell hp
theorem KSteps.alloc (h : KSteps k w B A ps) (hB : B ≤ w.heap.size) (o : Obj) : KSteps k (w.alloc o) B A ps := h.keep fun p hp => World.cell?_alloc_lt w o p (by omega)
end

/-- rows of steps of one's own: the outer row, and each step's row of literals -/
structure StpRows (w : World) (base : Nat) (ei : TypeId) (vs : List Value) (ps : List Stp) : Prop where
  each : ∀ j, j < ps.length → ∃ Aj cj, vs[j * 2]? = some (.bool (ps.getD j stp0).1) ∧ vs[j * 2 + 1]? = some (.slice Aj (ps.getD j stp0).2.length cj) ∧
    w.ownsRow base ei 1 (.slice Aj (ps.getD j stp0).2.length cj) (ps.getD j stp0).2.length ((ps.getD j stp0).2.map (Value.int .i64))
section
variable {w w' : World} {base base' : Nat} {ei eo : TypeId} {vs : List Value} {ps : List Stp}
theorem StpRows.nil_ : StpRows w base ei vs [] := ⟨fun _ h => absurd h (by simp)⟩
theorem StpRows.more (h : StpRows w base ei vs ps) (hb : base' ≤ base) : StpRows w base' ei vs ps := ⟨fun j hj => by
  obtain ⟨Aj, cj, h1, h2, h3⟩ := h.each j hj
  exact ⟨Aj, cj, h1, h2, own_more h3 hb⟩⟩
theorem StpRows.below {B : Nat} (h : StpRows w base ei vs ps) (hb : Below B w w') (hB : w.heap.size ≤ B) : StpRows w' base ei vs ps := ⟨fun j hj => by
  obtain ⟨Aj, cj, h1, h2, h3⟩ := h.each j hj
  exact ⟨Aj, cj, h1, h2, own_below h3 hb fun g hg => Nat.lt_of_lt_of_le (h3.lt g hg).2 hB⟩⟩
/-- what is done to the outer row, or to a block of another type, touches no inner one -/
theorem StpRows.outer {n : Nat} {v : Value} {xs : List Value} (h : StpRows w base ei vs ps) (ho : w.ownsRow base' eo 2 v n xs) (hne : ei ≠ eo) (hg : w.grownBy w' v.ownBlock) : StpRows w' base ei vs ps := ⟨fun j hj => by
  obtain ⟨Aj, cj, h1, h2, h3⟩ := h.each j hj
  refine ⟨Aj, cj, h1, h2, h3.kept hg ?_⟩
  rcases ho.2 with ⟨rfl, _⟩ | ⟨g', cap, cur, rfl, _, hh, _⟩
  · rcases hb : (Value.slice Aj (ps.getD j stp0).2.length cj).ownBlock with _ | g
    · exact .inl rfl
    · exact .inr (by simp [Value.ownBlock])
  · rcases hb : (Value.slice Aj (ps.getD j stp0).2.length cj).ownBlock with _ | g
    · exact .inl rfl
    · refine .inr fun he => ?_
      exact own_blk_ne h3 (show Blk w g' eo cur from hh) hne (by rw [hb]; exact he.symm)⟩
/-- one more -/
theorem StpRows.snoc {A : Option Addr} {c : Nat} {d : Bool} {xs : List Int} (h : StpRows w base ei vs ps) (hv : vs.length = ps.length * 2)
    (h2 : w.ownsRow base ei 1 (.slice A xs.length c) xs.length (xs.map (Value.int .i64))) : StpRows w base ei (vs ++ [.bool d, .slice A xs.length c]) (ps ++ [(d, xs)]) := ⟨fun j hj => by
  simp at hj
  rcases Nat.lt_or_ge j ps.length with hlt | hge
  · obtain ⟨Aj, cj, h3, h4, h5⟩ := h.each j hlt
    have e : (ps ++ [(d, xs)]).getD j stp0 = ps.getD j stp0 := by simp [List.getD, List.getElem?_append_left hlt]
    rw [e]
    exact ⟨Aj, cj, by rw [List.getElem?_append_left (by omega)]; exact h3, by rw [List.getElem?_append_left (by omega)]; exact h4, h5⟩
  · obtain rfl : j = ps.length := by omega
    have e : (ps ++ [(d, xs)]).getD ps.length stp0 = (d, xs) := by simp [List.getD]
    rw [e]
    refine ⟨A, c, ?_, ?_, h2⟩
    · rw [List.getElem?_append_right (by omega), hv]; simp
    · rw [List.getElem?_append_right (by omega), hv, show ps.length * 2 + 1 - ps.length * 2 = 1 by omega]; rfl⟩
/-- such rows read -/
theorem StpRows.steps {A : Option Addr} {c : Nat} (h : StpRows w base ei vs ps) (ho : w.ownsRow base' eo 2 (.slice A ps.length c) ps.length vs) : Steps w w.heap.size A ps := by
  intro hn
  rcases ho.2 with ⟨hv, h0⟩ | ⟨g, cap, cur, hv, hb, hg, h1, h2, h3, h4⟩
  · omega
  · injection hv with hA _ _
    subst hA
    refine ⟨g, 0, rfl, (Array.getElem?_eq_some_iff.1 hg).1, fun j hj => ?_⟩
    obtain ⟨Aj, cj, e1, e2, e3⟩ := h.each j hj
    have cellAt : ∀ i u, vs[i]? = some u → w.cell? ⟨g, 0 + i, none⟩ = some u := fun i u hu => by
      have hb2 : Blk w g eo cur := hg
      rw [hb2.cell, Nat.zero_add]
      rw [← h4, List.getElem?_take] at hu
      split at hu
      · simpa using hu
      · cases hu
    refine ⟨Aj, cj, cellAt _ _ e1, ?_, ?_⟩
    · have := cellAt _ _ e2
      rwa [show 0 + (j * 2 + 1) = 0 + j * 2 + 1 by omega] at this
    · refine (cells_of_own e3 (.int .i64 0)).congr fun i hi => ?_
      simp [List.getD]
end
end Go.Proofs.YthcpfaahcncfjaaGreatDoor
