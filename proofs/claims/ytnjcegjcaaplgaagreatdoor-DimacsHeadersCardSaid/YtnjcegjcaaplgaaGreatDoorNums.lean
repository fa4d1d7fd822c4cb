/- Numbers, items and the header of a text: what the reader's functions on words answer. -/
import Derived.Test.YtnjcegjcaaplgaaGreatDoorRunes
namespace Go.Proofs.YtnjcegjcaaplgaaGreatDoor
open Go.RowKit
set_option linter.unusedSimpArgs false
set_option linter.unusedVariables false

/-- a number, and whether it is one, as values -/
def pairOf (o : Option Int) : Value := .tuple #[.int .i64 (o.getD 0), .bool o.isSome]
theorem all_take {rs : List Int} {k : Nat} (hk : k < rs.length) : (rs.take (k + 1)).all (fun c => decide (48 ≤ c ∧ c ≤ 57)) = ((rs.take k).all (fun c => decide (48 ≤ c ∧ c ≤ 57)) && decide (48 ≤ rs.getD k 0 ∧ rs.getD k 0 ≤ 57)) := by
  rw [List.take_succ_eq_append_getElem hk, List.all_append]
  simp [List.getD, hk]
theorem charVal_take {rs : List Int} {k : Nat} (hk : k < rs.length) : charVal (rs.take (k + 1)) = 10 * charVal (rs.take k) + (rs.getD k 0 - 48) := by
  rw [List.take_succ_eq_append_getElem hk, charVal_snoc]
  simp [List.getD, hk]
theorem charNum_out {rs : List Int} {k : Nat} (hk : k < rs.length) (h : ¬ (48 ≤ rs.getD k 0 ∧ rs.getD k 0 ≤ 57)) : numR rs = none := by
  have : rs.all (fun c => decide (48 ≤ c ∧ c ≤ 57)) = false := by
    rw [List.all_eq_false]
    refine ⟨rs[k], List.getElem_mem hk, ?_⟩
    have e : rs.getD k 0 = rs[k] := by simp [List.getD, hk]
    rw [e] at h
    simpa using h
  unfold numR charNum
  rw [this, Bool.and_false]; rfl
theorem charNum_in {rs : List Int} (h1 : 1 ≤ rs.length) (h2 : rs.length ≤ 9) (h3 : rs.length = 1 ∨ rs.getD 0 0 ≠ 48) (h : rs.all (fun c => decide (48 ≤ c ∧ c ≤ 57)) = true) : numR rs = some (charVal rs) := by
  unfold numR charNum
  rw [h, decide_eq_true ⟨h1, h2, h3⟩]; rfl
theorem charNum_zero {rs : List Int} (h1 : 1 < rs.length) (h : rs.getD 0 0 = 48) : numR rs = none := by
  unfold numR charNum
  rw [decide_eq_false (by omega)]; rfl

set_option maxRecDepth 100000 in
set_option maxHeartbeats 1600000 in
theorem number_any (rs : List Int) (B : Nat) (A : Option Addr) (c : Nat) (w : World) (hl : rs.length ≤ 1099511627776) (h : Cells w B A rs.length fun j => .int .i32 (rs.getD j 0)) :
    Calls Tryz.prog 60 #[.slice A rs.length c] w fun e w' => e = .returned (pairOf (numR rs)) ∧ w = w' := by
  rcases Nat.eq_zero_or_pos rs.length with h0 | h0
  · have hq : ((rs.length : Int) == 0) = true := by simp; exact List.eq_nil_of_length_eq_zero h0
    have hn : Hid (numR rs = none) := by
      have : rs = [] := List.eq_nil_of_length_eq_zero h0
      subst this; rfl
    clear h0 h
    go_enter Tryz.func60, Tryz.ntmps60
    go_wp2
    go_ret2
    exact ⟨by rw [hn.out]; rfl, rfl⟩
  · have hq : ((rs.length : Int) == 0) = false := by simp; intro e; subst e; simp at h0
    by_cases h9 : 9 < rs.length
    · have hn := Lib.hid (numR_long h9)
      clear h
      go_enter Tryz.func60, Tryz.ntmps60
      go_wp2
      go_ret2
      exact ⟨by rw [hn.out]; rfl, rfl⟩
    · have h9' : rs.length ≤ 9 := by omega
      obtain ⟨b, off, rfl, _, hc⟩ := h h0
      have HC := Lib.hid hc
      have hc0 : w.cell? ⟨b, off, none⟩ = some (.int .i32 (rs.getD 0 0)) := by have := hc 0 h0; simpa using this
      clear hc h h9
      by_cases hz : 1 < rs.length ∧ rs.getD 0 0 = 48
      · obtain ⟨hz1, hz2⟩ := hz
        have hn := Lib.hid (charNum_zero hz1 hz2)
        rw [hz2] at hc0
        clear hz2
        go_enter Tryz.func60, Tryz.ntmps60
        go_wp2
        go_ret2
        exact ⟨by rw [hn.out]; rfl, rfl⟩
      · have hz' : rs.length = 1 ∨ rs.getD 0 0 ≠ 48 := by omega
        have HZ := Lib.hid hz'
        have hz3 : 1 < rs.length → (rs.getD 0 0 == 48) = false := fun h1 => beq_false_of_ne (by omega)
        generalize rs.getD 0 0 = r0 at hc0 hz3
        clear hz hz'
        by_cases h1 : 1 < rs.length
        all_goals
          first
          | (have hz4 := hz3 h1; clear hz3; have h1' : 1 < rs.length := h1)
          | clear hz3
          go_enter Tryz.func60, Tryz.ntmps60
          go_wp2
          go_loopg [4, 28] (rs.length + 1) (fun gk n i w' => ∃ k : Nat, w = w' ∧ k ≤ rs.length ∧ gk = rs.length - k + 1 ∧ i = .int .i64 k ∧ n = .int .i64 (charVal (rs.take k)) ∧ (rs.take k).all (fun c => decide (48 ≤ c ∧ c ≤ 57)) = true)
          case atStart => exact ⟨0, rfl, by omega, by omega, rfl, rfl, rfl⟩
          case round =>
            obtain ⟨k, rfl, hk, rfl, rfl, rfl, hall⟩ := hrel
            have hv := charVal_nine hall (by simp; omega)
            have HALL := Lib.hid hall
            clear hall
            by_cases hlt : k < rs.length
            · have hcell := HC.out k hlt
              have ht := all_take hlt
              have hvt := charVal_take hlt
              have hout := charNum_out hlt
              generalize rs.getD k 0 = ch at hcell ht hvt hout
              have HT := Lib.hid ht
              have HVT := Lib.hid hvt
              have HO := Lib.hid hout
              clear ht hvt hout
              by_cases hd : 48 ≤ ch ∧ ch ≤ 57
              · obtain ⟨hd1, hd2⟩ := hd
                have HVV := Lib.hid (show (rs.take (k+1)).all (fun c => decide (48 ≤ c ∧ c ≤ 57)) = true by rw [HT.out, HALL.out, decide_eq_true ⟨hd1, hd2⟩]; rfl)
                generalize charVal (rs.take k) = n at hv HVT
                obtain ⟨hv1, hv2⟩ := hv
                go_wp2
                go_roundg (rs.length - k)
                case measure => omega
                case rel => exact ⟨k + 1, rfl, by omega, by omega, by go_num, by rw [HVT.out], HVV.out⟩
              · have hn := Lib.hid (HO.out hd)
                clear hv
                by_cases hd1 : ch < 48
                · go_wp2
                  go_ret2
                  exact ⟨by rw [hn.out]; rfl, rfl⟩
                · have hd2 : 57 < ch := by omega
                  go_wp2
                  go_ret2
                  exact ⟨by rw [hn.out]; rfl, rfl⟩
            · have hke : k = rs.length := by omega
              have hall2 := HALL.out
              rw [hke, List.take_length] at hall2
              have hn := Lib.hid (charNum_in h0 h9' HZ.out hall2)
              have HT := Lib.hid (show rs.take k = rs from by rw [hke, List.take_length])
              clear hall2 hv
              generalize hgn : charVal (rs.take k) = n
              have HG := Lib.hid hgn
              clear hgn hke
              go_wp2
              go_ret2
              exact ⟨by rw [hn.out, ← HG.out, HT.out]; rfl, rfl⟩
end Go.Proofs.YtnjcegjcaaplgaaGreatDoor
