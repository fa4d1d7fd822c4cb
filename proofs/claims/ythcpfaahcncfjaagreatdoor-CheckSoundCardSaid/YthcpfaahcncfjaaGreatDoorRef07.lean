/- The small helpers of the seventh layer's statements. -/
import Derived.Test.YthcpfaahcncfjaaGreatDoorLit
import Derived.Test.YthcpfaahcncfjaaGreatDoorCnf3
import Derived.Test.YthcpfaahcncfjaaGreatDoorNormMath
import Derived.Test.YthcpfaahcncfjaaGreatDoorRawForm
namespace Go.Proofs.YthcpfaahcncfjaaGreatDoor
open Go.RowKit
set_option linter.unusedVariables false

theorem take_snoc7 {xs : List Int} {k : Nat} (h : k < xs.length) : xs.take (k + 1) = xs.take k ++ [xs.getD k 0] ∧ xs.getD k 0 ∈ xs := by
  refine ⟨by rw [List.take_succ_eq_append_getElem h]; simp [List.getD, h], ?_⟩
  rw [show xs.getD k 0 = xs[k] by simp [List.getD, h]]
  exact List.getElem_mem h
/-- literals that a program can negate -/
def Mid (xs : List Int) : Prop := xs.length ≤ 1099511627776 ∧ ∀ x, x ∈ xs → -1000000 ≤ x ∧ x ≤ 1000000
theorem Mid.getD {xs : List Int} (h : Mid xs) (k : Nat) : -1000000 ≤ xs.getD k 0 ∧ xs.getD k 0 ≤ 1000000 := by
  by_cases hk : k < xs.length
  · exact h.2 _ (take_snoc7 hk).2
  · rw [List.getD, List.getElem?_eq_none (by omega)]; decide

theorem in_any07 (xs : List Int) (B : Nat) (A : Option Addr) (c : Nat) (x : Int) (w : World) (hx : xs.length ≤ 1099511627776) (h : Ints w B A xs) :
    Calls Tryz.prog 43 #[.slice A xs.length c, .int .i64 x] w fun e w' => e = .returned (.bool (decide (x ∈ xs))) ∧ w = w' := by
  have H := Lib.hid h
  clear h
  go_enter Tryz.func43, Tryz.ntmps43
  go_wp2
  go_loopg [5] (xs.length + 1) (fun gk i wr => ∃ k : Nat, k ≤ xs.length ∧ gk = xs.length - k + 1 ∧ i = .int .i64 k ∧ w = wr ∧ Hid (∀ y, y ∈ xs.take k → y ≠ x))
  case atStart => exact ⟨0, by omega, by omega, rfl, rfl, Lib.hid (by simp)⟩
  case round =>
    obtain ⟨k, hk, rfl, rfl, rfl, hn⟩ := hrel
    by_cases hlt : k < xs.length
    · obtain ⟨b, off, rfl, _, hc⟩ := Cells.at_ H.out hlt
      obtain ⟨htk, hm⟩ := take_snoc7 hlt
      obtain ⟨y, hy⟩ : ∃ y, y = xs.getD k 0 := ⟨_, rfl⟩
      rw [← hy] at hc htk hm
      have HTK := Lib.hid htk
      have HM := Lib.hid hm
      clear hy htk hm
      by_cases he : y = x
      · have HD : Hid (decide (x ∈ xs) = true) := Lib.hid (by rw [decide_eq_true_eq, ← he]; exact HM.out)
        go_wp2
        go_ret
        exact ⟨by rw [HD.out]; rfl, rfl⟩
      · have HE := Lib.hid he
        go_wp2
        go_roundg (xs.length - k)
        case measure => omega
        case rel =>
          refine ⟨k + 1, by omega, by omega, by go_num, rfl, Lib.hid ?_⟩
          rw [HTK.out]
          intro z hz
          rcases List.mem_append.1 hz with hz | hz
          · exact hn.out z hz
          · rw [List.mem_singleton.1 hz]; exact HE.out
    · obtain rfl : k = xs.length := by omega
      have HD : Hid (decide (x ∈ xs) = false) := Lib.hid (by rw [decide_eq_false_iff_not]; intro h; exact hn.out x (by rw [List.take_length]; exact h) rfl)
      go_wp2
      go_ret
      exact ⟨by rw [HD.out]; rfl, rfl⟩

/-- just the same literals -/
def SameL (xs ys : List Int) : Prop := ∀ z, z ∈ xs ↔ z ∈ ys
theorem same_any07 (xs ys : List Int) (B B' : Nat) (A A' : Option Addr) (c c' : Nat) (w : World) (hx : xs.length ≤ 1099511627776) (hy : ys.length ≤ 1099511627776) (h : Ints w B A xs) (h' : Ints w B' A' ys) :
    Calls Tryz.prog 52 #[.slice A xs.length c, .slice A' ys.length c'] w fun e w' => ∃ s : Bool, e = .returned (.bool s) ∧ (s = true ↔ SameL xs ys) ∧ w = w' := by
  have H := Lib.hid h
  have H' := Lib.hid h'
  have HI := Lib.hid (fun x => in_any07 xs B A c x w hx h)
  have HI' := Lib.hid (fun x => in_any07 ys B' A' c' x w hy h')
  clear h h'
  go_enter Tryz.func52, Tryz.ntmps52
  go_wp2
  go_loopg [5] (xs.length + 1) (fun gk i wr => ∃ k : Nat, k ≤ xs.length ∧ gk = xs.length - k + 1 ∧ i = .int .i64 k ∧ w = wr ∧ Hid (∀ y, y ∈ xs.take k → y ∈ ys))
  case atStart => exact ⟨0, by omega, by omega, rfl, rfl, Lib.hid (by simp)⟩
  case round =>
    obtain ⟨k, hk, rfl, rfl, rfl, hn⟩ := hrel
    by_cases hlt : k < xs.length
    · obtain ⟨b, off, rfl, _, hc⟩ := Cells.at_ H.out hlt
      obtain ⟨htk, hm⟩ := take_snoc7 hlt
      obtain ⟨y, hy⟩ : ∃ y, y = xs.getD k 0 := ⟨_, rfl⟩
      rw [← hy] at hc htk hm
      have HTK := Lib.hid htk
      have HM := Lib.hid hm
      clear hy htk hm
      go_wp2_with fail
      refine (HI'.out y).mono ?_
      rintro e w1 ⟨rfl, rfl⟩
      by_cases he : y ∈ ys
      · have HE := Lib.hid he
        rw [decide_eq_true he]
        clear he
        go_wp2
        go_roundg (xs.length - k)
        case measure => omega
        case rel =>
          refine ⟨k + 1, by omega, by omega, by go_num, rfl, Lib.hid ?_⟩
          rw [HTK.out]
          intro z hz
          rcases List.mem_append.1 hz with hz | hz
          · exact hn.out z hz
          · rw [List.mem_singleton.1 hz]; exact HE.out
      · have HE := Lib.hid he
        rw [decide_eq_false he]
        clear he
        go_wp2
        go_ret
        exact ⟨false, rfl, ⟨fun h => (by cases h), fun h => absurd ((h y).1 HM.out) HE.out⟩, rfl⟩
    · obtain rfl : k = xs.length := by omega
      rw [List.take_length] at hn
      go_wp2
      go_loopg [6] (ys.length + 1) (fun gk i wr => ∃ k : Nat, k ≤ ys.length ∧ gk = ys.length - k + 1 ∧ i = .int .i64 k ∧ w = wr ∧ Hid (∀ y, y ∈ ys.take k → y ∈ xs))
      case atStart => exact ⟨0, by omega, by omega, rfl, rfl, Lib.hid (by simp)⟩
      case round =>
        obtain ⟨k, hk, rfl, rfl, rfl, hn2⟩ := hrel
        by_cases hlt2 : k < ys.length
        · obtain ⟨b, off, rfl, _, hc⟩ := Cells.at_ H'.out hlt2
          obtain ⟨htk, hm⟩ := take_snoc7 hlt2
          obtain ⟨y, hy⟩ : ∃ y, y = ys.getD k 0 := ⟨_, rfl⟩
          rw [← hy] at hc htk hm
          have HTK := Lib.hid htk
          have HM := Lib.hid hm
          clear hy htk hm
          go_wp2_with fail
          refine (HI.out y).mono ?_
          rintro e w1 ⟨rfl, rfl⟩
          by_cases he : y ∈ xs
          · have HE := Lib.hid he
            rw [decide_eq_true he]
            clear he
            go_wp2
            go_roundg (ys.length - k)
            case measure => omega
            case rel =>
              refine ⟨k + 1, by omega, by omega, by go_num, rfl, Lib.hid ?_⟩
              rw [HTK.out]
              intro z hz
              rcases List.mem_append.1 hz with hz | hz
              · exact hn2.out z hz
              · rw [List.mem_singleton.1 hz]; exact HE.out
          · have HE := Lib.hid he
            rw [decide_eq_false he]
            clear he
            go_wp2
            go_ret
            exact ⟨false, rfl, ⟨fun h => (by cases h), fun h => absurd ((h y).2 HM.out) HE.out⟩, rfl⟩
        · obtain rfl : k = ys.length := by omega
          rw [List.take_length] at hn2
          go_wp2
          go_ret
          exact ⟨true, rfl, ⟨fun _ z => ⟨hn.out z, hn2.out z⟩, fun _ => rfl⟩, rfl⟩

/-- the literals that the statements make of raw numbers -/
def lits07 (F : Nat) (ns : List Int) : List Int := if F = 0 then [] else ns.map (rawLit F)
theorem lits07_bd {F : Nat} {ns : List Int} {l : Int} (h : l ∈ lits07 F ns) : l ≠ 0 ∧ -(F : Int) ≤ l ∧ l ≤ F := by
  unfold lits07 at h
  split at h
  · simp at h
  · obtain ⟨n, _, rfl⟩ := List.mem_map.1 h
    exact rawLit_bd (by omega) n
theorem lits07_len (F : Nat) (ns : List Int) : (lits07 F ns).length ≤ ns.length := by unfold lits07; split <;> simp
theorem lits07_any (F : Nat) (ns : List Int) (B : Nat) (A : Option Addr) (c : Nat) (w : World) (hF : F ≤ 1000000) (hn : ns.length ≤ 1099511627776) (hb : ∀ k, -32768 ≤ ns.getD k 0 ∧ ns.getD k 0 ≤ 32767) (h : KInts .i16 w B A ns) (hB : B ≤ w.heap.size) :
    Calls Tryz.prog 23 #[.slice A ns.length c, .int .i64 F] w fun e w' => ∃ A' c', e = .returned (.slice A' (lits07 F ns).length c') ∧ w'.ownsRow w.heap.size 3 1 (.slice A' (lits07 F ns).length c') (lits07 F ns).length ((lits07 F ns).map (Value.int .i64)) ∧ Below w.heap.size w w' := by
  have H := Lib.hid h
  have HN := Lib.hid hb
  obtain ⟨i0, hi, hz0, hz1, hz2⟩ := info_parts Tryz.infoInt3
  clear h hb
  go_enter Tryz.func23, Tryz.ntmps23
  go_wp2
  go_loopg [5, 11] (ns.length + 1) (fun gk d i wr => ∃ (j : Nat) (Ad : Option Addr) (cd : Nat), j ≤ ns.length ∧ gk = ns.length - j + 1 ∧ i = .int .i64 j ∧ d = .slice Ad j cd ∧ (F = 0 → j = 0) ∧
    wr.ownsRow w.heap.size 3 1 (.slice Ad j cd) j (((ns.take j).map (rawLit F)).map (Value.int .i64)) ∧ Below w.heap.size w wr)
  case atStart => exact ⟨0, none, 0, by omega, by omega, rfl, rfl, fun _ => rfl, World.ownsRow_nil _ _ _ _, Below.refl _ _⟩
  case round =>
    obtain ⟨j, Ad, cd, hj, rfl, rfl, rfl, hF0, hown, hbe⟩ := hrel
    have HOWd := Lib.hid hown
    have HBd := Lib.hid hbe
    have HF0 := Lib.hid hF0
    clear hown hbe hF0
    have hszd := HBd.out.size
    by_cases hjl : j < ns.length
    · obtain ⟨b', off', rfl, hb', hcj⟩ := (Cells.below H.out (HBd.out.mono hB)).at_ hjl
      obtain ⟨n1, n2⟩ := HN.out j
      obtain ⟨htj, _⟩ := take_snoc7 hjl
      obtain ⟨n, hnn⟩ : ∃ n, n = ns.getD j 0 := ⟨_, rfl⟩
      rw [← hnn] at hcj n1 n2 htj
      clear hnn
      have HTJ := Lib.hid htj
      clear htj
      by_cases hFz : F = 0
      · have hq : ((F : Int) == 0) = true := by simp; omega
        have hj0 : j = 0 := HF0.out hFz
        have HFz := Lib.hid hFz
        have HJ0 := Lib.hid hj0
        clear hFz hj0
        go_wp2
        go_ret
        have e : lits07 F ns = [] := by unfold lits07; rw [if_pos HFz.out]
        have hj := HJ0.out
        subst hj
        rw [e]
        exact ⟨Ad, cd, rfl, by simpa using HOWd.out, HBd.out⟩
      · have hq : ((F : Int) == 0) = false := by simp; omega
        have hFp : 0 < F := by omega
        clear hFz
        have hu := u16_wrap n
        have hrl : rawLit F n = if n % 2 = 1 then -(1 + n % 65536 / 2 % F) else 1 + n % 65536 / 2 % F := rfl
        have hq0 : 0 ≤ n % 65536 / 2 % (F : Int) := Int.emod_nonneg _ (by omega)
        have hq1 : n % 65536 / 2 % (F : Int) < F := Int.emod_lt_of_pos _ (by omega)
        have ha := i16_and_1 n
        obtain ⟨m, hm⟩ : ∃ m, m = n % 65536 := ⟨_, rfl⟩
        have hm0 : 0 ≤ m := by omega
        have hm1 : m ≤ 65535 := by omega
        rw [← hm] at hu hrl hq0 hq1
        clear hm
        obtain ⟨q, hqq⟩ : ∃ q, q = m / 2 % (F : Int) := ⟨_, rfl⟩
        rw [← hqq] at hrl hq0 hq1
        have hqq' := hqq.symm
        clear hqq
        rcases Int.emod_two_eq n with hp | hp
        · rw [hp] at ha hrl
          have HRL := Lib.hid hrl
          clear hrl hp
          go_wp2_with (at_builtin; refine wpList_append1 _ rfl _ _ 55 rfl w.heap.size 3 i0 (.int .i64 0) 8 Tryz.underlying55 hi hz0 hz1 hz2 rfl _ _ _ rfl (HOWd.out.alloc _) (.int .i64 (1 + q)) wr.heap.size rfl (by go_cell) rfl (by unfold maxLen; omega) (by omega) (by simp; omega) ?_)
          intro v' w3 hown3 hg3 hob3
          obtain ⟨A3, c3, hv3, _⟩ := own_slice hown3
          subst hv3
          have HO3 := Lib.hid hown3
          have HB3 := Lib.hid ((HBd.out.alloc (by omega) _).grown hg3 (by simp; omega) (fun g hg => (HOWd.out.lt g hg).1))
          clear hown3 hg3 hob3
          go_wp2
          go_roundg (ns.length - j)
          case measure => omega
          case rel =>
            refine ⟨j + 1, A3, c3, by omega, by omega, by go_num, rfl, fun h => by omega, ?_, HB3.out⟩
            have := HO3.out
            rw [HTJ.out, List.map_append, List.map_append]
            simp only [List.map_cons, List.map_nil]
            rw [HRL.out]
            simpa using this
        · rw [hp] at ha hrl
          have HRL := Lib.hid hrl
          clear hrl hp
          go_wp2_with (at_builtin; refine wpList_append1 _ rfl _ _ 55 rfl w.heap.size 3 i0 (.int .i64 0) 8 Tryz.underlying55 hi hz0 hz1 hz2 rfl _ _ _ rfl (HOWd.out.alloc _) (.int .i64 (-(1 + q))) wr.heap.size rfl (by go_cell) rfl (by unfold maxLen; omega) (by omega) (by simp; omega) ?_)
          intro v' w3 hown3 hg3 hob3
          obtain ⟨A3, c3, hv3, _⟩ := own_slice hown3
          subst hv3
          have HO3 := Lib.hid hown3
          have HB3 := Lib.hid ((HBd.out.alloc (by omega) _).grown hg3 (by simp; omega) (fun g hg => (HOWd.out.lt g hg).1))
          clear hown3 hg3 hob3
          go_wp2
          go_roundg (ns.length - j)
          case measure => omega
          case rel =>
            refine ⟨j + 1, A3, c3, by omega, by omega, by go_num, rfl, fun h => by omega, ?_, HB3.out⟩
            have := HO3.out
            rw [HTJ.out, List.map_append, List.map_append]
            simp only [List.map_cons, List.map_nil]
            rw [HRL.out]
            simpa using this
    · obtain rfl : j = ns.length := by omega
      go_wp2
      go_ret
      by_cases hFz : F = 0
      · have hj := HF0.out hFz
        have e : lits07 F ns = [] := by unfold lits07; rw [if_pos hFz]
        rw [e]
        have ho := HOWd.out
        rw [hj] at ho
        refine ⟨Ad, cd, by rw [hj]; rfl, by simpa using ho, HBd.out⟩
      · have e : lits07 F ns = ns.map (rawLit F) := by unfold lits07; rw [if_neg hFz]
        have ho := HOWd.out
        rw [List.take_length] at ho
        rw [e, List.length_map]
        exact ⟨Ad, cd, rfl, ho, HBd.out⟩
end Go.Proofs.YthcpfaahcncfjaaGreatDoor
