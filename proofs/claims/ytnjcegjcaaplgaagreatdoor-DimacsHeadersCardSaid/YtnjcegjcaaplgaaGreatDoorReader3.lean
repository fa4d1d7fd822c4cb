/- The header of a text, taken. -/
import Derived.Test.YtnjcegjcaaplgaaGreatDoorReader2
namespace Go.Proofs.YtnjcegjcaaplgaaGreatDoor
open Go.RowKit
set_option linter.unusedSimpArgs false
set_option linter.unusedVariables false
set_option linter.unnecessarySimpa false

/-- the numbers of a header, within their bounds -/
theorem headerOf_bd {ws : List (List UInt8)} {v k : Int} (h : headerOf ws = some (v, k)) : 0 ≤ v ∧ v ≤ 999999999 ∧ 0 ≤ k ∧ k ≤ 999999999 := by
  have hn : ∀ (w : List UInt8) (n : Int), numOf w = some n → 0 ≤ n ∧ n ≤ 999999999 := fun w n h => by rw [← numR_map] at h; exact numR_bd h
  unfold headerOf at h
  split at h
  · split at h
    · split at h
      · rename_i _ _ _ a b _ _ _ v' k' h1 h2
        have h3 := hn _ _ h1
        have h4 := hn _ _ h2
        injection h with h
        injection h with h5 h6
        omega
      · cases h
    · cases h
  · cases h

set_option maxRecDepth 100000 in
set_option maxHeartbeats 2000000 in
theorem takeHeader_any (r : Rd) (l : List UInt8) (base b : Nat) (w : World) (hr : RdAt w base b r) (hs : l.length ≤ 1099511627776) :
    Calls Tryz.prog 31 #[.pointer (some ⟨b, 0, none⟩), .string ⟨l.toArray⟩] w (ItemPost base b (takeHeader r (wordsOf l)) w) := by
  have HR := Lib.hid hr
  have HH := Lib.hid (header_any l w hs)
  have hrl := hr.lt
  have hT : Hid (takeHeader r (wordsOf l) = match headerOf (wordsOf l) with | none => (r, 2) | some (v, k) => if 100000 < v ∨ 200000 < k then (r, 8) else ({ r with begun := true, stated := k, vars := v }, 0)) := by
    show takeHeader r (wordsOf l) = _
    unfold takeHeader; rfl
  clear hr
  rcases hh : headerOf (wordsOf l) with _ | ⟨v, k⟩
  · rw [hh] at HH hT
    clear hh
    go_enter Tryz.func31, Tryz.ntmps31
    go_wp2_with (go_at_call 45; refine HH.out.mono ?_; rintro e w1 ⟨rfl, hb1⟩; clear HH; rw [show tripleOf none = .tuple #[.int .i64 0, .int .i64 0, .bool false] from rfl])
    have HB := Lib.hid hb1
    clear hb1
    go_ret
    rw [hT.out]
    exact ⟨rfl, HR.out.below HB.out (Nat.le_refl _), HB.out.mono (Nat.le_of_lt hrl)⟩
  · obtain ⟨v0, v1, k0, k1⟩ := headerOf_bd hh
    rw [hh] at HH hT
    clear hh
    by_cases hlim : 100000 < v ∨ 200000 < k
    · have hT2 : Hid (takeHeader r (wordsOf l) = (r, 8)) := by
        have h1 := hT.out
        simp only [if_pos hlim] at h1
        exact h1
      clear hT
      by_cases hv : 100000 < v
      all_goals
        first
        | skip
        have hk : 100000 < v ∨ 200000 < k := hlim
        clear hlim
        go_enter Tryz.func31, Tryz.ntmps31
        first
        | (have hk2 : 200000 < k := by omega
           clear hk
           go_wp2_with (go_at_call 45; refine HH.out.mono ?_; rintro e w1 ⟨rfl, hb1⟩; clear HH; rw [show tripleOf (some (v, k)) = .tuple #[.int .i64 v, .int .i64 k, .bool true] from rfl]))
        | (clear hk
           go_wp2_with (go_at_call 45; refine HH.out.mono ?_; rintro e w1 ⟨rfl, hb1⟩; clear HH; rw [show tripleOf (some (v, k)) = .tuple #[.int .i64 v, .int .i64 k, .bool true] from rfl]))
        have HB := Lib.hid hb1
        clear hb1
        go_wp2
        go_ret
        rw [hT2.out]
        exact ⟨rfl, HR.out.below HB.out (Nat.le_refl _), HB.out.mono (Nat.le_of_lt hrl)⟩
    · have hT2 : Hid (takeHeader r (wordsOf l) = ({ r with begun := true, stated := k, vars := v }, 0)) := by
        have h1 := hT.out
        simp only [if_neg hlim] at h1
        exact h1
      have hv : ¬ 100000 < v := by omega
      have hk : ¬ 200000 < k := by omega
      clear hT hlim
      go_enter Tryz.func31, Tryz.ntmps31
      go_wp2_with (go_at_call 45; refine HH.out.mono ?_; rintro e w1 ⟨rfl, hb1⟩; clear HH; rw [show tripleOf (some (v, k)) = .tuple #[.int .i64 v, .int .i64 k, .bool true] from rfl]; obtain ⟨Af, cf, vs, Ao, co, mid, h1, h2, h3, h4, h5, h6, h7⟩ := HR.out.below hb1 (Nat.le_refl _); have g0 := h1.cell 0; have f0 := h1.frozen 0; have k1' := h1.set_ 0 (.bool true); simp at k1' g0; have g1 := k1'.cell 1; have f1 := k1'.frozen 1; have k2' := k1'.set_ 1 (.int .i64 k); simp at k2' g1; have g2 := k2'.cell 2; have f2 := k2'.frozen 2; have k3' := k2'.set_ 2 (.int .i64 v); simp at k3' g2; have HB := Lib.hid hb1; have K1 := Lib.hid h1; have K2 := Lib.hid k1'; have K3 := Lib.hid k2'; have K4 := Lib.hid k3'; have H2 := Lib.hid h2; have H3 := Lib.hid h3; have H6 := Lib.hid h6; have H7 := Lib.hid h7; clear hb1 h1 h2 h3 h6 h7 k1' k2' k3')
      go_wp2
      go_ret
      rw [hT2.out]
      have o1 := own_setCell H2.out (.bool true) (p := ⟨b, 0, none⟩) (own_blk_ne H2.out K1.out (by decide))
      have o2 := own_setCell o1 (.int .i64 k) (p := ⟨b, 1, none⟩) (own_blk_ne o1 K2.out (by decide))
      have o3 := own_setCell o2 (.int .i64 v) (p := ⟨b, 2, none⟩) (own_blk_ne o2 K3.out (by decide))
      have p1 := own_setCell H7.out (.bool true) (p := ⟨b, 0, none⟩) (own_blk_ne H7.out K1.out (by decide))
      have p2 := own_setCell p1 (.int .i64 k) (p := ⟨b, 1, none⟩) (own_blk_ne p1 K2.out (by decide))
      have p3 := own_setCell p2 (.int .i64 v) (p := ⟨b, 2, none⟩) (own_blk_ne p2 K3.out (by decide))
      have q1 := H3.out.kept (grown_setCell _ ⟨b, 0, none⟩ (.bool true)) (H3.out.ne_blk K1.out (by decide))
      have q2 := q1.kept (grown_setCell _ ⟨b, 1, none⟩ (.int .i64 k)) (q1.ne_blk K2.out (by decide))
      have q3 := q2.kept (grown_setCell _ ⟨b, 2, none⟩ (.int .i64 v)) (q2.ne_blk K3.out (by decide))
      exact ⟨rfl, ⟨Af, cf, vs, Ao, co, mid, K4.out, o3, q3, h4, by simpa using h5, H6.out, p3⟩, (((HB.out.mono (Nat.le_of_lt hrl)).setCell (by simp) _).setCell (by simp) _).setCell (by simp) _⟩
end Go.Proofs.YtnjcegjcaaplgaaGreatDoor
