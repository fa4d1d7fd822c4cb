/- local's state: what it answers. -/
import Derived.Test.YtllgepabjglnaaaLocMem
import Derived.Test.YtllgepabjglnaaaLit
import Derived.Test.YtllgepabjglnaaaClone
namespace Go.Proofs.Ytllgepabjglnaaa
open Go.RowKit
set_option linter.unusedVariables false
set_option linter.unusedSimpArgs false

theorem ints_map (c : List Int) : (List.range c.length).map (fun j => Value.int .i64 (c.getD j 0)) = c.map (Value.int .i64) := by
  apply List.ext_getElem
  · simp
  · intro j h1 h2
    simp only [List.length_map] at h2
    simp [List.getD, h2]
theorem bools_map (c : List Bool) : (List.range c.length).map (fun j => Value.bool (c.getD j false)) = c.map Value.bool := by
  apply List.ext_getElem
  · simp
  · intro j h1 h2
    simp only [List.length_map] at h2
    simp [List.getD, h2]
theorem bools_cells {w : World} {base : Nat} {t : TypeId} {A : Option Addr} {c : Nat} {zs : List Bool} (h2 : w.ownsRow base t 1 (.slice A zs.length c) zs.length (zs.map .bool)) : Cells w w.heap.size A zs.length fun j => .bool (zs.getD j false) :=
  (cells_of_own h2 (.bool false)).congr fun j hj => by simp [List.getD, hj]

/-- a variable's value -/
def valZ (z : List Bool) (v : Int) : Bool := decide (1 ≤ v ∧ v ≤ z.length) && z.getD (v - 1).toNat false
def isVar (n : Nat) (v : Int) : Bool := decide (1 ≤ v ∧ v ≤ n)
section
variable {w : World} {ρ : Nat → Nat} {p : Lx} {m : MS}
theorem isvar_any (h : LM w ρ p m) (hz : m.z.length ≤ 1000) (v : Int) (hv : -9223372036854775808 ≤ v ∧ v ≤ 9223372036854775807) :
    Calls Try.prog 39 #[.pointer (some ⟨p.g, 0, none⟩), .int .i64 v] w fun e w' => e = .returned (.bool (isVar m.z.length v)) ∧ w = w' := by
  have c0 := h.cells.1
  have HR := Lib.hid (fun w => right_any v m.z.length w hv.1 hv.2 (by omega) (by omega))
  have hb : 0 < v → litRight v m.z.length = isVar m.z.length v := fun h0 => by
    unfold litRight isVar
    exact decide_eq_decide.2 ⟨fun _ => by omega, fun _ => by omega⟩
  have hb0 : ¬ 0 < v → isVar m.z.length v = false := fun h0 => by
    unfold isVar
    exact decide_eq_false (by omega)
  obtain ⟨n, hn⟩ : ∃ n, m.z.length = n := ⟨_, rfl⟩
  obtain ⟨x, hx⟩ : ∃ x, isVar n v = x := ⟨_, rfl⟩
  rw [hn] at c0 HR hz hb hb0 ⊢
  rw [hx] at hb hb0 ⊢
  clear h hn hx
  by_cases h0 : 0 < v
  · rw [hb h0] at HR
    clear hb hb0
    go_enter Try.func39, Try.ntmps39
    go_wp2_with fail
    refine (HR.out _).mono ?_
    rintro e w1 ⟨rfl, rfl⟩
    go_wp2
    go_ret
    exact ⟨rfl, rfl⟩
  · rw [hb0 h0]
    clear hb hb0
    go_enter Try.func39, Try.ntmps39
    go_wp2
    go_ret
    exact ⟨rfl, rfl⟩

theorem value_loc (h : LM w ρ p m) (hz : m.z.length ≤ 1000) (v : Int) (hv : -9223372036854775808 ≤ v ∧ v ≤ 9223372036854775807) :
    Calls Try.prog 53 #[.pointer (some ⟨p.g, 0, none⟩), .int .i64 v] w fun e w' => e = .returned (.bool (valZ m.z v)) ∧ w = w' := by
  have c0 := h.cells.1
  have HR := Lib.hid (isvar_any h hz v hv)
  by_cases h0 : isVar m.z.length v = true
  · have h1 : 1 ≤ v ∧ v ≤ m.z.length := of_decide_eq_true h0
    have hx : valZ m.z v = m.z.getD (v - 1).toNat false := by unfold valZ; rw [decide_eq_true h1]; rfl
    rw [hx]
    obtain ⟨k, rfl⟩ : ∃ k : Nat, v = (k : Int) + 1 := ⟨(v - 1).toNat, by omega⟩
    rw [show ((k : Int) + 1 - 1).toNat = k by omega]
    obtain ⟨b, hA, _, _, hc, hcell, _⟩ := h.vs.at_ (by omega)
    have hk := hcell k (by omega)
    rw [show (m.z.map Value.bool)[k]? = some (.bool (m.z.getD k false)) by simp [List.getD, show k < m.z.length by omega]] at hk
    rw [h0] at HR
    rw [hA] at c0
    obtain ⟨x, hx⟩ : ∃ x, m.z.getD k false = x := ⟨_, rfl⟩
    obtain ⟨n, hn⟩ : ∃ n, m.z.length = n := ⟨_, rfl⟩
    rw [hn] at c0 h1 hz
    have hkn : (k : Int) < (n : Int) := by omega
    rw [hx] at hk ⊢
    clear h h0 hx hn hcell hc hA h1
    go_enter Try.func53, Try.ntmps53
    go_wp2_with fail
    refine HR.out.mono ?_
    rintro e w1 ⟨rfl, rfl⟩
    go_wp2
    go_ret
    exact ⟨rfl, rfl⟩
  · have hx : valZ m.z v = false := by
      unfold valZ
      rw [show decide (1 ≤ v ∧ v ≤ (m.z.length : Int)) = false from Bool.eq_false_iff.2 h0]
      rfl
    rw [hx]
    rw [Bool.eq_false_iff.2 h0] at HR
    clear h h0 hx
    go_enter Try.func53, Try.ntmps53
    go_wp2_with fail
    refine HR.out.mono ?_
    rintro e w1 ⟨rfl, rfl⟩
    go_wp2
    go_ret
    exact ⟨rfl, rfl⟩

theorem holder_any (h : LM w ρ p m) (hz : m.z.length ≤ 1000) {v : Nat} (h1 : 1 ≤ v) (h2 : v ≤ m.z.length) :
    Calls Try.prog 34 #[.pointer (some ⟨p.g, 0, none⟩), .int .i64 (v : Nat)] w fun e w' => e = .returned (.int .i64 (holder m.z v)) ∧ w = w' := by
  have HR := Lib.hid (value_loc h hz v (by omega))
  have hx : valZ m.z v = m.z.getD (v - 1) false := by
    unfold valZ
    rw [decide_eq_true (by omega), show ((v : Int) - 1).toNat = v - 1 by omega]
    rfl
  have hh : holder m.z v = if m.z.getD (v - 1) false = true then (v : Int) else -(v : Int) := rfl
  rw [hx] at HR
  rw [hh]
  obtain ⟨x, hx'⟩ : ∃ x, m.z.getD (v - 1) false = x := ⟨_, rfl⟩
  rw [hx'] at HR ⊢
  clear h hx hh hx'
  cases x
  all_goals
    go_enter Try.func34, Try.ntmps34
    go_wp2_with fail
    refine HR.out.mono ?_
    rintro e w1 ⟨rfl, rfl⟩
    go_wp2
    go_ret
    first | exact ⟨rfl, rfl⟩ | exact ⟨by simp, rfl⟩

theorem unsat_any (h : LM w ρ p m) : Calls Try.prog 16 #[.pointer (some ⟨p.g, 0, none⟩)] w fun e w' => e = .returned (.int .i64 (m.row.length : Nat)) ∧ w = w' := by
  have c0 := h.cells.2.2.2.1
  obtain ⟨n, hn⟩ : ∃ n, m.row.length = n := ⟨_, rfl⟩
  rw [hn] at c0 ⊢
  clear h hn
  go_enter Try.func16, Try.ntmps16
  go_wp2
  go_ret
  exact ⟨rfl, rfl⟩

theorem isclause_any (h : LM w ρ p m) (i : Int) : Calls Try.prog 36 #[.pointer (some ⟨p.g, 0, none⟩), .int .i64 i] w fun e w' => e = .returned (.bool (decide (0 ≤ i ∧ i < m.cls.length))) ∧ w = w' := by
  have c0 := h.cells.2.1
  obtain ⟨n, hn⟩ : ∃ n, m.cls.length = n := ⟨_, rfl⟩
  rw [hn] at c0 ⊢
  clear h hn
  by_cases h0 : 0 ≤ i
  · rw [show decide (0 ≤ i ∧ i < (n : Int)) = decide (i < (n : Int)) from decide_eq_decide.2 ⟨fun h => h.2, fun h => ⟨h0, h⟩⟩]
    go_enter Try.func36, Try.ntmps36
    go_wp2
    go_ret
    exact ⟨rfl, rfl⟩
  · rw [show decide (0 ≤ i ∧ i < (n : Int)) = false from decide_eq_false (fun h => h0 h.1)]
    go_enter Try.func36, Try.ntmps36
    go_wp2
    go_ret
    exact ⟨rfl, rfl⟩

/-- the row's number at a place -/
def rowAt (r : List Nat) (i : Int) : Int := if 0 ≤ i ∧ i < r.length then (r.getD i.toNat 0 : Nat) else -1
theorem row_any (h : LM w ρ p m) (hm : m.row.length ≤ 1000) (i : Int) :
    Calls Try.prog 18 #[.pointer (some ⟨p.g, 0, none⟩), .int .i64 i] w fun e w' => e = .returned (.int .i64 (rowAt m.row i)) ∧ w = w' := by
  have c0 := h.cells.2.2.2.1
  by_cases h0 : 0 ≤ i ∧ i < m.row.length
  · rw [show rowAt m.row i = (m.row.getD i.toNat 0 : Nat) from if_pos h0]
    obtain ⟨k, rfl⟩ : ∃ k : Nat, i = k := ⟨i.toNat, by omega⟩
    rw [Int.toNat_natCast]
    obtain ⟨b, hA, _, _, hc, hcell, _⟩ := h.rw_.at_ (by omega)
    have hk := hcell k (by omega)
    rw [show (natsV m.row)[k]? = some (.int .i64 (m.row.getD k 0 : Nat)) by simp [natsV, List.getD, show k < m.row.length by omega]] at hk
    rw [hA] at c0
    obtain ⟨x, hx'⟩ : ∃ x, m.row.getD k 0 = x := ⟨_, rfl⟩
    obtain ⟨n, hn⟩ : ∃ n, m.row.length = n := ⟨_, rfl⟩
    rw [hn] at c0 h0 hm
    have hkn : (k : Int) < (n : Int) := by omega
    rw [hx'] at hk ⊢
    clear h h0 hn hcell hc hA hx'
    go_enter Try.func18, Try.ntmps18
    go_wp2
    go_ret
    exact ⟨rfl, rfl⟩
  · rw [show rowAt m.row i = -1 from if_neg h0]
    obtain ⟨n, hn⟩ : ∃ n, m.row.length = n := ⟨_, rfl⟩
    rw [hn] at c0 h0 hm
    clear h hn
    go_enter Try.func18, Try.ntmps18
    by_cases h1 : i < 0
    · clear h0
      go_wp2
      go_ret
      exact ⟨rfl, rfl⟩
    · have h2 : (n : Int) ≤ i := by omega
      clear h0
      go_wp2
      go_ret
      exact ⟨rfl, rfl⟩

theorem break_any (h : LM w ρ p m) (hz : m.z.length ≤ 1000) (v : Int) (hv : -9223372036854775808 ≤ v ∧ v ≤ 9223372036854775807) :
    Calls Try.prog 20 #[.pointer (some ⟨p.g, 0, none⟩), .int .i64 v] w fun e w' => e = .returned (.int .i64 (if 1 ≤ v ∧ v ≤ m.z.length then (m.bk v.toNat : Nat) else 0)) ∧ w = w' := by
  have c0 := h.cells.2.2.2.2.1
  have HR := Lib.hid (isvar_any h hz v hv)
  by_cases h0 : 1 ≤ v ∧ v ≤ m.z.length
  · rw [if_pos h0]
    rw [show isVar m.z.length v = true from decide_eq_true h0] at HR
    obtain ⟨k, rfl⟩ : ∃ k : Nat, v = (k : Int) + 1 := ⟨(v - 1).toNat, by omega⟩
    rw [show ((k : Int) + 1).toNat = k + 1 by omega]
    obtain ⟨b, hA, _, _, hc, hcell, _⟩ := h.kw.at_ (by omega)
    have hk := hcell k (by omega)
    rw [show (bkV m.z.length m.bk)[k]? = some (.int .i64 (m.bk (k + 1) : Nat)) by simp [bkV, show k < m.z.length by omega]] at hk
    rw [hA] at c0
    obtain ⟨x, hx'⟩ : ∃ x, m.bk (k + 1) = x := ⟨_, rfl⟩
    obtain ⟨n, hn⟩ : ∃ n, m.z.length = n := ⟨_, rfl⟩
    rw [hn] at c0 h0 hz
    have hkn : (k : Int) < (n : Int) := by omega
    rw [hx'] at hk ⊢
    clear h h0 hn hcell hc hA hx'
    go_enter Try.func20, Try.ntmps20
    go_wp2_with fail
    refine HR.out.mono ?_
    rintro e w1 ⟨rfl, rfl⟩
    go_wp2
    go_ret
    exact ⟨rfl, rfl⟩
  · rw [if_neg h0]
    rw [show isVar m.z.length v = false from decide_eq_false h0] at HR
    clear h h0
    go_enter Try.func20, Try.ntmps20
    go_wp2_with fail
    refine HR.out.mono ?_
    rintro e w1 ⟨rfl, rfl⟩
    go_wp2
    go_ret
    exact ⟨rfl, rfl⟩

/-- a copy of a clause -/
theorem clause_loc (h : LM w ρ p m) (hm : m.cls.length ≤ 1000) (hl : ∀ i, (m.cls.getD i []).length ≤ 1000) (i : Int) :
    Calls Try.prog 17 #[.pointer (some ⟨p.g, 0, none⟩), .int .i64 i] w fun e w' => ∃ A c, e = .returned (.slice A (if 0 ≤ i ∧ i < m.cls.length then (m.cls.getD i.toNat []).length else 0) c) ∧
      w'.ownsRow w.heap.size 3 1 (.slice A (if 0 ≤ i ∧ i < m.cls.length then (m.cls.getD i.toNat []).length else 0) c) (if 0 ≤ i ∧ i < m.cls.length then (m.cls.getD i.toNat []).length else 0) ((if 0 ≤ i ∧ i < m.cls.length then m.cls.getD i.toNat [] else []).map (Value.int .i64)) ∧ Below w.heap.size w w' := by
  have c0 := h.cells.2.1
  have HR := Lib.hid (isclause_any h i)
  by_cases h0 : 0 ≤ i ∧ i < m.cls.length
  · simp only [if_pos h0]
    rw [decide_eq_true h0] at HR
    obtain ⟨k, rfl⟩ : ∃ k : Nat, i = k := ⟨i.toNat, by omega⟩
    rw [Int.toNat_natCast]
    obtain ⟨xs, hx, hv⟩ := h.cs
    obtain ⟨b, hA, _, _, hc, hcell, _⟩ := hx.at_ (by omega)
    have hk := hcell (k * 4) (by omega)
    obtain ⟨l1, l2⟩ := h.lc k (by omega)
    obtain ⟨Al, cl, e1, e2⟩ := h.ls.at_ l1
    rw [hv.c0 k (by omega), List.getD, e1, l2, Option.getD_some] at hk
    rw [l2] at e2
    rw [hA] at c0
    have HC := Lib.hid (cloneI _ _ _ Al cl w (by have := hl k; omega) (fun j _ => rfl) (ints_of_own e2.1) (Nat.le_refl _))
    have hmap := ints_map (m.cls.getD k [])
    rw [hmap] at HC
    obtain ⟨c, hcc⟩ : ∃ c, m.cls.getD k [] = c := ⟨_, rfl⟩
    obtain ⟨n, hn⟩ : ∃ n, m.cls.length = n := ⟨_, rfl⟩
    rw [hn] at c0 h0 hm
    have hkn : (k : Int) < (n : Int) := by omega
    rw [hcc] at hk HC ⊢
    clear h h0 hx hn hcell hc hA hv hcc hmap hl e1 e2 l1 l2
    go_enter Try.func17, Try.ntmps17
    go_wp2_with fail
    refine HR.out.mono ?_
    rintro e w1 ⟨rfl, rfl⟩
    go_wp2_with fail
    refine HC.out.mono ?_
    rintro e w1 ⟨A', c', rfl, ho, hb⟩
    have HO := Lib.hid (And.intro ho hb)
    clear ho hb
    go_wp2
    go_ret
    exact ⟨_, _, rfl, HO.out.1, HO.out.2⟩
  · simp only [if_neg h0]
    rw [decide_eq_false h0] at HR
    clear h h0
    go_enter Try.func17, Try.ntmps17
    go_wp2_with fail
    refine HR.out.mono ?_
    rintro e w1 ⟨rfl, rfl⟩
    go_wp2
    go_ret
    exact ⟨_, _, rfl, World.ownsRow_nil _ _ _ _, Below.refl _ _⟩

/-- a copy of the assignment -/
theorem assignment_any (h : LM w ρ p m) (hz : m.z.length ≤ 1000) : Calls Try.prog 27 #[.pointer (some ⟨p.g, 0, none⟩)] w fun e w' => ∃ A c, e = .returned (.slice A m.z.length c) ∧
      w'.ownsRow w.heap.size 4 1 (.slice A m.z.length c) m.z.length (m.z.map .bool) ∧ Below w.heap.size w w' := by
  have c0 := h.cells.1
  have HC := Lib.hid (cloneB _ _ _ p.vA p.vc w (by omega) (fun j _ => rfl) (bools_cells h.vs.1) (Nat.le_refl _))
  have hmap := bools_map m.z
  rw [hmap] at HC
  obtain ⟨z, hzz⟩ : ∃ z, m.z = z := ⟨_, rfl⟩
  rw [hzz] at c0 HC ⊢
  clear h hmap hzz hz
  go_enter Try.func27, Try.ntmps27
  go_wp2_with fail
  refine HC.out.mono ?_
  rintro e w1 ⟨A', c', rfl, ho, hb⟩
  have HO := Lib.hid (And.intro ho hb)
  clear ho hb
  go_wp2
  go_ret
  exact ⟨_, _, rfl, HO.out.1, HO.out.2⟩
end
end Go.Proofs.Ytllgepabjglnaaa
