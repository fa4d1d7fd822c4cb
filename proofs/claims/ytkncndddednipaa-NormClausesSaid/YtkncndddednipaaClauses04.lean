/- The statement that a clause in one form has just the clause's literals, rising, each once: the walk. -/
import Derived.Test.YtkncndddednipaaTwice04
namespace Go.Proofs.Ytkncndddednipaa
open Go.RowKit

theorem same_all (xs ys : List Int) : (xs.all (fun y => ys.contains y) && ys.all (fun y => xs.contains y)) = (normOf xs == normOf ys) := by
  rw [Bool.eq_iff_iff]
  simp only [Bool.and_eq_true, List.all_eq_true, List.contains_iff_mem, beq_iff_eq]
  rw [norm_eq_iff]
  exact ⟨fun ⟨h1, h2⟩ y => ⟨h1 y, h2 y⟩, fun h => ⟨fun y => (h y).1, fun y => (h y).2⟩⟩
theorem any_take {p : Int → Bool} {xs : List Int} {k : Nat} (h : k < xs.length) : (xs.take (k + 1)).any p = ((xs.take k).any p || p (xs.getD k 0)) := by
  rw [List.take_succ_eq_append_getElem h, List.any_append]; simp [List.getD, h]
theorem all_take {p : Int → Bool} {xs : List Int} {k : Nat} (h : k < xs.length) : (xs.take (k + 1)).all p = ((xs.take k).all p && p (xs.getD k 0)) := by
  rw [List.take_succ_eq_append_getElem h, List.all_append]; simp [List.getD, h]
theorem getD_mem {xs : List Int} {k : Nat} (h : k < xs.length) : xs.getD k 0 ∈ xs := by simp [List.getD, h]

set_option maxRecDepth 100000 in
set_option maxHeartbeats 1600000 in
theorem clauses_any (ns ms : List Int) (B B' : Nat) (A A' : Option Addr) (c c' : Nat) (w : World) (hn : ns.length ≤ 140737488355328) (hm : ms.length ≤ 140737488355328) (hb : ∀ k, -128 ≤ ns.getD k 0 ∧ ns.getD k 0 ≤ 127) (hbm : ∀ k, -128 ≤ ms.getD k 0 ∧ ms.getD k 0 ≤ 127)
    (h : KInts .i8 w B A ns) (h' : KInts .i8 w B' A' ms) (hB : B ≤ w.heap.size) (hB' : B' ≤ w.heap.size) :
    Calls Try.prog 3 #[.slice A ns.length c, .slice A' ms.length c'] w fun e w' => e = .returned (.bool true) ∧ Below w.heap.size w w' := by
  have H := Lib.hid h
  have H' := Lib.hid h'
  have HBD := Lib.hid hb
  have HBM := Lib.hid hbm
  clear h h' hb hbm
  go_enter Try.func3, Try.ntmps3
  go_wp2_with fail
  refine (fit04_any _).mono ?_
  rintro e w1 ⟨rfl, hb1⟩
  have HB1 := Lib.hid hb1
  have hs1 := hb1.size
  clear hb1
  by_cases h60 : 100 < ns.length + ms.length
  · go_wp2
    go_ret
    exact ⟨rfl, HB1.out⟩
  · go_wp2_with fail
    refine (clause_law_any ns B A c w1 (by omega) HBD.out (Cells.keep H.out fun p hp => HB1.out.cell (by omega)) (by omega)).mono ?_
    rintro e w2 ⟨Ac, cc, rfl, hown, hb⟩
    have hLx := clauseOf_lits (ns := ns) (by omega) HBD.out
    have hxl := clauseOf_len ns
    obtain ⟨xs, hxs⟩ : ∃ xs, xs = clauseOf ns := ⟨_, rfl⟩
    rw [← hxs] at hown hLx hxl ⊢
    have hx60 : xs.length ≤ 100 := by omega
    have HI2 : Hid (Ints w2 w2.heap.size Ac xs) := Lib.hid (ints_of_own hown)
    have HL := Lib.hid hLx
    have HB2 := Lib.hid (HB1.out.trans (hb.mono HB1.out.size))
    have hs2 := HB2.out.size
    clear hown hb hxs hLx hxl
    go_wp2_with fail
    refine (clause_law_any ms B' A' c' w2 (by omega) HBM.out (Cells.keep H'.out fun p hp => HB2.out.cell (by omega)) (by omega)).mono ?_
    rintro e w3 ⟨Ad, cd, rfl, hown, hb⟩
    have hLx := clauseOf_lits (ns := ms) (by omega) HBM.out
    have hxl := clauseOf_len ms
    obtain ⟨ds, hds⟩ : ∃ ds, ds = clauseOf ms := ⟨_, rfl⟩
    rw [← hds] at hown hLx hxl ⊢
    have hd60 : ds.length ≤ 100 := by omega
    have HD3 : Hid (Ints w3 w3.heap.size Ad ds) := Lib.hid (ints_of_own hown)
    have HI3 : Hid (Ints w3 w2.heap.size Ac xs) := Lib.hid (Cells.below HI2.out hb)
    have HLD := Lib.hid hLx
    have HB3 := Lib.hid (HB2.out.trans (hb.mono HB2.out.size))
    have hs3 := hb.size
    clear hown hb hds hLx hxl HI2
    go_wp2_with fail
    refine (norm_clause_any xs w2.heap.size Ac cc w3 HL.out HI3.out (by omega)).mono ?_
    rintro e w4 ⟨Ax, cx, rfl, hown, hb⟩
    have hnl := norm_len xs
    have hLn := HL.out.norm
    have hme : ∀ y, y ∈ normOf xs ↔ y ∈ xs := fun y => mem_normOf
    have hri := rising_normOf xs
    have hsx : (normOf xs == normOf (normOf xs)) = true := by rw [norm_norm]; simp
    obtain ⟨yn, hyn⟩ : ∃ yn, yn = normOf xs := ⟨_, rfl⟩
    rw [← hyn] at hown hnl hLn hme hri ⊢
    have hsy : (normOf xs == normOf yn) = true := by rw [hyn]; exact hsx
    have HME := Lib.hid hme
    have HRI := Lib.hid hri
    have HSX := Lib.hid hsy
    have HLN := Lib.hid hLn
    have HX4 : Hid (Ints w4 w4.heap.size Ax yn) := Lib.hid (ints_of_own hown)
    have HI4 : Hid (Ints w4 w2.heap.size Ac xs) := Lib.hid (Cells.below HI3.out (hb.mono hs3))
    have HD4 : Hid (Ints w4 w3.heap.size Ad ds) := Lib.hid (Cells.below HD3.out hb)
    have HB4 := Lib.hid (HB3.out.trans (hb.mono HB3.out.size))
    have hs4 := hb.size
    clear hown hb hyn hLn hme hri hsx hsy HI3 HD3
    go_wp2
    go_loopg [32] (yn.length + 1) (fun g i w' => ∃ k : Nat, w4 = w' ∧ k ≤ yn.length ∧ g = yn.length - k + 1 ∧ i = .int .i64 k)
    case atStart => exact ⟨0, rfl, by omega, by omega, rfl⟩
    case round =>
      obtain ⟨k, hw, hk, rfl, rfl⟩ := hrel
      subst hw
      by_cases hlt : k < yn.length
      · obtain ⟨b1, o1, hA1, _, hc1⟩ := Cells.at_ HX4.out hlt
        have hin : xs.contains (yn.getD k 0) = true := List.contains_iff_mem.2 ((HME.out _).1 (getD_mem hlt))
        obtain ⟨y, hy⟩ : ∃ y, y = yn.getD k 0 := ⟨_, rfl⟩
        rw [← hy] at hc1 hin
        have HIN := Lib.hid hin
        subst hA1
        clear hy hin
        go_wp2_with (go_at_call 11; refine (in_any xs _ _ Ac cc _ (by omega) HI4.out).mono ?_; rintro e w' ⟨rfl, rfl⟩; rw [HIN.out])
        go_roundg (yn.length - k)
        case measure => omega
        case rel => exact ⟨k + 1, rfl, by omega, by omega, by go_num⟩
      · go_wp2
        clear hk hlt
        go_loopg [8, 9, 43] (xs.length + 1) (fun g b1 b2 i w' => ∃ (k : Nat) (p q : Bool), w4 = w' ∧ k ≤ xs.length ∧ g = xs.length - k + 1 ∧ i = .int .i64 k ∧ b1 = .bool p ∧ b2 = .bool q ∧ Hid (p = (xs.take k).any fun y => xs.contains (-y)) ∧ Hid (q = (xs.take k).all fun y => ds.contains y))
        case atStart => exact ⟨0, false, true, rfl, by omega, by omega, rfl, rfl, rfl, Lib.hid rfl, Lib.hid rfl⟩
        case round =>
          obtain ⟨k, p, q, hw, hk, rfl, rfl, rfl, rfl, HP, HQ⟩ := hrel
          subst hw
          by_cases hlt : k < xs.length
          · obtain ⟨b1, o1, hA1, _, hc1⟩ := Cells.at_ HI4.out hlt
            have hyb := HL.out.getD k
            have hin : yn.contains (xs.getD k 0) = true := List.contains_iff_mem.2 ((HME.out _).2 (getD_mem hlt))
            have hp' := any_take (p := fun y => xs.contains (-y)) hlt
            have hq' := all_take (p := fun y => ds.contains y) hlt
            rw [← HP.out] at hp'
            rw [← HQ.out] at hq'
            obtain ⟨y, hy⟩ : ∃ y, y = xs.getD k 0 := ⟨_, rfl⟩
            rw [← hy] at hc1 hin hp' hq' hyb
            obtain ⟨hy1, hy2⟩ := hyb
            have HIN := Lib.hid hin
            have HAC := Lib.hid hA1
            obtain ⟨r1, hr1⟩ : ∃ r1, r1 = xs.contains (-y) := ⟨_, rfl⟩
            obtain ⟨r2, hr2⟩ : ∃ r2, r2 = ds.contains y := ⟨_, rfl⟩
            simp only [← hr1] at hp'
            simp only [← hr2] at hq'
            have HR1 := Lib.hid hr1
            have HR2 := Lib.hid hr2
            have HP' := Lib.hid hp'
            have HQ' := Lib.hid hq'
            have HIs := HI4
            subst hA1
            clear hy hin hr1 hr2 hp' hq' HP HQ
            rcases p with _ | _
            · rcases q with _ | _
              · go_wp2_with fail
                refine (in_any yn y _ Ax cx _ (by omega) HX4.out).mono ?_
                rintro e w' ⟨rfl, rfl⟩
                rw [HIN.out]
                go_wp2_with fail
                refine (in_any xs (-y) _ _ cc _ (by omega) HIs.out).mono ?_
                rintro e w' ⟨rfl, rfl⟩
                rw [← HR1.out]
                go_wp2
                go_roundg (xs.length - k)
                case measure => omega
                case rel => exact ⟨k + 1, _, _, rfl, by omega, by omega, by go_num, rfl, rfl, Lib.hid HP'.out.symm, Lib.hid HQ'.out.symm⟩
              · go_wp2_with fail
                refine (in_any yn y _ Ax cx _ (by omega) HX4.out).mono ?_
                rintro e w' ⟨rfl, rfl⟩
                rw [HIN.out]
                go_wp2_with fail
                refine (in_any xs (-y) _ _ cc _ (by omega) HIs.out).mono ?_
                rintro e w' ⟨rfl, rfl⟩
                rw [← HR1.out]
                go_wp2_with fail
                refine (in_any ds y _ Ad cd _ (by omega) HD4.out).mono ?_
                rintro e w' ⟨rfl, rfl⟩
                rw [← HR2.out]
                go_wp2
                go_roundg (xs.length - k)
                case measure => omega
                case rel => exact ⟨k + 1, _, _, rfl, by omega, by omega, by go_num, rfl, rfl, Lib.hid HP'.out.symm, Lib.hid HQ'.out.symm⟩
            · rcases q with _ | _
              · go_wp2_with fail
                refine (in_any yn y _ Ax cx _ (by omega) HX4.out).mono ?_
                rintro e w' ⟨rfl, rfl⟩
                rw [HIN.out]
                go_wp2
                go_roundg (xs.length - k)
                case measure => omega
                case rel => exact ⟨k + 1, _, _, rfl, by omega, by omega, by go_num, rfl, rfl, Lib.hid HP'.out.symm, Lib.hid HQ'.out.symm⟩
              · go_wp2_with fail
                refine (in_any yn y _ Ax cx _ (by omega) HX4.out).mono ?_
                rintro e w' ⟨rfl, rfl⟩
                rw [HIN.out]
                go_wp2_with fail
                refine (in_any ds y _ Ad cd _ (by omega) HD4.out).mono ?_
                rintro e w' ⟨rfl, rfl⟩
                rw [← HR2.out]
                go_wp2
                go_roundg (xs.length - k)
                case measure => omega
                case rel => exact ⟨k + 1, _, _, rfl, by omega, by omega, by go_num, rfl, rfl, Lib.hid HP'.out.symm, Lib.hid HQ'.out.symm⟩
          · obtain rfl : k = xs.length := by omega
            have hp := HP.out
            have hq := HQ.out
            rw [List.take_of_length_le (Nat.le_refl _)] at hp hq
            have hp2 : p = tautOf xs := hp
            have HP2 := Lib.hid hp2
            have HQ2 := Lib.hid hq
            clear hp hq hp2 HP HQ
            go_wp2
            clear hk hlt
            go_loopg [9, 67] (ds.length + 1) (fun g b2 i w' => ∃ (k : Nat) (r : Bool), w4 = w' ∧ k ≤ ds.length ∧ g = ds.length - k + 1 ∧ i = .int .i64 k ∧ b2 = .bool r ∧ Hid (r = (q && (ds.take k).all fun y => xs.contains y)))
            case atStart => exact ⟨0, q, rfl, by omega, by omega, rfl, rfl, Lib.hid (by simp)⟩
            case round =>
              obtain ⟨k, r, hw, hk, rfl, rfl, rfl, HR⟩ := hrel
              subst hw
              by_cases hlt : k < ds.length
              · obtain ⟨b1, o1, hA1, _, hc1⟩ := Cells.at_ HD4.out hlt
                have hyb := HLD.out.getD k
                have hq' := all_take (p := fun y => xs.contains y) hlt
                obtain ⟨y, hy⟩ : ∃ y, y = ds.getD k 0 := ⟨_, rfl⟩
                rw [← hy] at hc1 hq' hyb
                obtain ⟨hy1, hy2⟩ := hyb
                obtain ⟨r2, hr2⟩ : ∃ r2, r2 = xs.contains y := ⟨_, rfl⟩
                simp only [← hr2] at hq'
                have hqq : (q && (ds.take (k + 1)).all fun y => xs.contains y) = (r && r2) := by rw [hq', HR.out, Bool.and_assoc]
                have HR2 := Lib.hid hr2
                have HQQ := Lib.hid hqq
                subst hA1
                clear hy hr2 hq' hqq HR
                rcases r with _ | _
                · go_wp2
                  go_roundg (ds.length - k)
                  case measure => omega
                  case rel => exact ⟨k + 1, _, rfl, by omega, by omega, by go_num, rfl, Lib.hid (by rw [HQQ.out]; rfl)⟩
                · go_wp2_with fail
                  refine (in_any xs y _ Ac cc _ (by omega) HI4.out).mono ?_
                  rintro e w' ⟨rfl, rfl⟩
                  rw [← HR2.out]
                  go_wp2
                  go_roundg (ds.length - k)
                  case measure => omega
                  case rel => exact ⟨k + 1, _, rfl, by omega, by omega, by go_num, rfl, Lib.hid (by rw [HQQ.out]; rfl)⟩
              · obtain rfl : k = ds.length := by omega
                have hr := HR.out
                rw [List.take_of_length_le (Nat.le_refl _), HQ2.out, same_all] at hr
                have HR3 := Lib.hid hr
                clear hr HR HQ2
                go_wp2_with fail
                refine (form_any yn _ Ax cx w4 (by omega) HLN.out.getD HRI.out HX4.out).mono ?_
                rintro e w5 ⟨rfl, m, rfl⟩
                have HX5 : Hid (Ints (w4.drewN m) w4.heap.size Ax yn) := HX4
                have HI5 : Hid (Ints (w4.drewN m) w2.heap.size Ac xs) := HI4
                have HD5 : Hid (Ints (w4.drewN m) w3.heap.size Ad ds) := HD4
                have HB5 : Hid (Below w.heap.size w (w4.drewN m)) := Lib.hid (below_drewN HB4.out m)
                obtain ⟨w5, hw5⟩ : ∃ w5, w5 = w4.drewN m := ⟨_, rfl⟩
                have hs5 : w4.heap.size ≤ w5.heap.size := by rw [hw5]; exact Nat.le_refl _
                rw [← hw5] at HX5 HI5 HD5 HB5 ⊢
                clear hw5
                go_wp2_with fail
                have hr := tautology_any xs _ Ac cc w5 HL.out HI5.out (by omega)
                rw [← HP2.out] at hr
                refine hr.mono ?_
                clear hr
                rintro e w6 ⟨rfl, hb⟩
                have HX6 : Hid (Ints w6 w4.heap.size Ax yn) := Lib.hid (Cells.below HX5.out (hb.mono hs5))
                have HI6 : Hid (Ints w6 w2.heap.size Ac xs) := Lib.hid (Cells.below HI5.out (hb.mono (by omega)))
                have HD6 : Hid (Ints w6 w3.heap.size Ad ds) := Lib.hid (Cells.below HD5.out (hb.mono (by omega)))
                have HB6 := Lib.hid (HB5.out.trans (hb.mono HB5.out.size))
                have hs6 := hb.size
                clear hb HX5 HI5 HD5 HB5
                go_wp2_with fail
                have hr := same_norm_any xs ds _ _ Ac Ad cc cd w6 HL.out HLD.out HI6.out HD6.out (by omega) (by omega)
                rw [← HR3.out] at hr
                refine hr.mono ?_
                clear hr
                rintro e w7 ⟨rfl, hb⟩
                have HX7 : Hid (Ints w7 w4.heap.size Ax yn) := Lib.hid (Cells.below HX6.out (hb.mono (by omega)))
                have HI7 : Hid (Ints w7 w2.heap.size Ac xs) := Lib.hid (Cells.below HI6.out (hb.mono (by omega)))
                have HB7 := Lib.hid (HB6.out.trans (hb.mono HB6.out.size))
                have hs7 := hb.size
                clear hb HX6 HI6 HD6 HB6
                go_wp2_with fail
                have hr := same_norm_any xs yn _ _ Ac Ax cc cx w7 HL.out HLN.out HI7.out HX7.out (by omega) (by omega)
                rw [HSX.out] at hr
                refine hr.mono ?_
                clear hr
                rintro e w8 ⟨rfl, hb⟩
                have HB8 := Lib.hid (HB7.out.trans (hb.mono HB7.out.size))
                clear hb
                go_wp2
                go_ret
                exact ⟨rfl, HB8.out⟩

theorem clauses_raw (a a' : Option Addr) (len cap len' cap' : Nat) (z z' : Nat → Int) (W : World) (h : IsInts .i8 W a len cap z) (h' : IsInts .i8 W a' len' cap' z') (hs : cap * 1 ≤ 140737488351232) (hs' : cap' * 1 ≤ 140737488351232) :
    Calls Try.prog 3 #[.slice a len cap, .slice a' len' cap'] W fun e w' => e = .returned (.bool true) ∧ Below W.heap.size W w' := by
  have hl := h.1
  have hl' := h'.1
  obtain ⟨ns, rfl, _, hk, hw⟩ := kints_of h
  obtain ⟨ms, rfl, _, hk', hw'⟩ := kints_of h'
  exact clauses_any ns ms _ _ a a' cap cap' W (by omega) (by omega) (i8_bounds hw) (i8_bounds hw') hk hk' (Nat.le_refl _) (Nat.le_refl _)
end Go.Proofs.Ytkncndddednipaa
