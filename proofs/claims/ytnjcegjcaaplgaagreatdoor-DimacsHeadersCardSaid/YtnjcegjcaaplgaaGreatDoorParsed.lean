/- A text's formula, or its first error, as the statements read it. -/
import Derived.Test.YtnjcegjcaaplgaaGreatDoorParsedStep
import Derived.Test.YtnjcegjcaaplgaaGreatDoorSlices
namespace Go.Proofs.YtnjcegjcaaplgaaGreatDoor
open Go.RowKit
set_option linter.unusedSimpArgs false
set_option linter.unusedVariables false
set_option linter.unnecessarySimpa false

set_option maxRecDepth 100000 in
set_option maxHeartbeats 16000000 in
theorem parsed_any (s : List UInt8) (m : Int) (w : World) (hs : s.length ≤ 100000) (hE : Env m w) (hX : NumErrs w) :
    Calls Tryz.prog 8 #[.string ⟨s.toArray⟩] w (GPost (parseOf s) w) := by
  have HE := Lib.hid hE
  have NU := Lib.hid (fun (x : List UInt8) (w' : World) (hx : x.length ≤ 100000) (hb : Below w.heap.size w w') => number_any03 x m w' hx (hE.same hb) (hX.same hb))
  obtain ⟨i0', hi', hz0', hz1', hz2'⟩ := info_parts Tryz.infoInt3r
  obtain ⟨i0'', hi'', hz0'', hz1'', hz2''⟩ := info_parts Tryz.infoIntsr
  clear hE hX
  go_enter Tryz.func8, Tryz.ntmps8
  obtain ⟨w2, hw2⟩ : ∃ w2, w2 = (w.alloc (.cells #[.int .i64 0, .slice none 0 0] 28)).alloc (.cells #[.int .i64 0, .slice none 0 0] 28) := ⟨_, rfl⟩
  have hz2 : w2.heap.size = w.heap.size + 2 := by rw [hw2]; simp
  have hbr2 : Blk w2 w.heap.size 28 #[.int .i64 0, .slice none 0 0] := by rw [hw2]; exact (Blk.new w _ _).alloc _
  have hsa : (w.alloc (.cells #[.int .i64 0, .slice none 0 0] 28)).heap.size = w.heap.size + 1 := by simp
  have hbf2 : Blk w2 (w.heap.size + 1) 28 #[.int .i64 0, .slice none 0 0] := by rw [hw2, ← hsa]; exact Blk.new _ _ _
  have hb02 : Below w.heap.size w w2 := by rw [hw2]; exact ((Below.refl _ _).alloc (Nat.le_refl _) _).alloc (by simp) _
  have LA := Lib.hid (lines_any s w2 hs)
  have HW2 := Lib.hid hw2
  rw [hw2] at LA
  clear hw2 hsa
  go_wp2_with (go_at_call 19; refine LA.out.mono ?_)
  rw [← HW2.out]
  rintro e wl ⟨A, c, vss, rfl, hsr, hbl⟩
  have hLm : ∀ ws ∈ linesW s, (∀ x ∈ ws, x ≠ []) ∧ ws.length ≤ 100000 ∧ ∀ x ∈ ws, x.length ≤ 100000 := fun ws hm => ⟨linesW_ne hm, by have := (linesW_len hm).1; omega, fun x hx => by have := (linesW_len hm).2 x hx; omega⟩
  have hLc := linesW_count s
  have hst : RTxt s (linesW s) 0 Rd.start := ⟨by rw [parseW_of]; rfl, fun h => (by cases h), by decide⟩
  generalize linesW s = L at hsr hLm hLc hst
  rw [hz2] at hsr
  have hzl := hbl.size
  have hP0 : PAt w wl wl Rd.start none 0 := ⟨none, 0, [], wl.heap.size, hbf2.below hbl (by omega), hbr2.below hbl (by omega), World.ownsRow_nil _ _ _ _, OwnList.nil_, Nat.le_refl _, Nat.le_refl _, fun j g hj => by simp [Rd.start] at hj, World.ownsRow_nil _ _ _ _, hb02.trans (hbl.mono hb02.size), fun _ _ _ => rfl, by omega⟩
  have HSR := Lib.hid hsr
  have HLM := Lib.hid hLm
  have HST := Lib.hid hst
  have HP0 := Lib.hid hP0
  have HZL := Lib.hid (show w.heap.size + 2 ≤ wl.heap.size from by omega)
  clear hsr hLm hst hP0 hbl hb02 hbf2 hbr2 hzl hz2 LA
  go_wp2
  go_loopg [6, 7, 8, 20] (L.length + 1) (fun gk cla li op i wr => ∃ (k : Nat) (r : Rd) (Ao : Option Addr) (co : Nat), k ≤ L.length ∧ gk = L.length - k + 1 ∧ i = .int .i64 k ∧ cla = .int .i64 (clOf r) ∧ li = .int .i64 r.lits ∧ op = .slice Ao r.opn.length co ∧ PAt w wl wr r Ao co ∧ RTxt s L k r ∧ r.lits ≤ 1000000)
  case atStart => exact ⟨0, Rd.start, none, 0, by omega, by omega, rfl, rfl, rfl, rfl, HP0.out, HST.out, by decide⟩
  case round =>
    obtain ⟨k, r, Ao, co, hk, rfl, rfl, rfl, rfl, rfl, hP, hR, hlits⟩ := hrel
    obtain ⟨wo, rfl⟩ : ∃ wo : World, wo = wr := ⟨_, rfl⟩
    have HP := Lib.hid hP
    have HR := Lib.hid hR
    have hrs := hR.size
    clear HP0 HST
    by_cases hlt : k < L.length
    · rename (∀ (a : Act) (w : World), Code.wp Tryz.prog _ _ a w → _) => hKX
      clear hKX
      have hmem : L.getD k [] ∈ L := by rw [List.getD, List.getElem?_eq_getElem hlt]; exact List.getElem_mem hlt
      obtain ⟨hne, hwl, hxl⟩ := HLM.out _ hmem
      have hsw := HSR.out wo (by obtain ⟨_, _, _, _, hpm⟩ := hP; exact hpm.2.2.2.2.2.2.2.2.2.1)
      obtain ⟨b, off, rfl, hbB, hrow⟩ := hsw (by omega)
      obtain ⟨Ak, ck, hvk, hck, hws⟩ := hrow k hlt
      have KEEP := Lib.hid (show ∀ w', (∀ g, w.heap.size + 2 ≤ g → g < wl.heap.size → w'.heap[g]? = wl.heap[g]?) → Strs w' wl.heap.size Ak (L.getD k []) from fun w' hw' => by
        obtain ⟨b', off', _, _, hrow'⟩ := HSR.out w' hw' (by omega)
        obtain ⟨Ak', ck', hvk', _, hws'⟩ := hrow' k hlt
        rw [hvk] at hvk'
        injection hvk' with hvk'
        injection hvk' with hA
        rw [hA]; exact hws')
      have hsk := fun h => HR.out.skip hlt h
      have hbad := fun r' E => HR.out.bad (r' := r') (E := E) hlt
      have hgood := fun r' => HR.out.good (r' := r') hlt
      generalize L.getD k [] = ws at hne hwl hxl hck hws hsk hbad hgood KEEP
      have HSK := Lib.hid hsk
      have HBAD := Lib.hid hbad
      have HGOOD := Lib.hid hgood
      clear hsk hbad hgood hmem hsw hP hR hvk hrow
      rcases ws with _ | ⟨x0, tl⟩
      · clear hne hwl hxl hws KEEP
        have HRN := Lib.hid (HSK.out rfl)
        go_wp2
        go_roundg (L.length - k)
        case measure => omega
        case rel => exact ⟨k + 1, r, Ao, co, by omega, by omega, by go_num, rfl, rfl, rfl, HP.out, HRN.out, hlits⟩
      · have hx0 := hne x0 (by simp)
        have hl0 : 0 < x0.length := List.length_pos_iff.2 hx0
        have hsz0 : 0 < (⟨x0.toArray⟩ : ByteArray).size := by show 0 < x0.toArray.size; simpa using hl0
        have hx00 : (⟨x0.toArray⟩ : ByteArray)[0]'hsz0 = x0.getD 0 0 := by
          cases x0 with
          | nil => exact absurd rfl hx0
          | cons a t => rfl
        obtain ⟨b2, off2, rfl, hb2, hcs⟩ := hws (by simp)
        have y0 : wo.cell? ⟨b2, off2, none⟩ = some (.string ⟨x0.toArray⟩) := hcs 0 (by simp)
        by_cases h99 : x0.getD 0 0 = 99
        · have e99 : ((((⟨x0.toArray⟩ : ByteArray)[0]'hsz0).toNat : Int) == 99) = true := by rw [hx00, h99]; rfl
          have HRN := Lib.hid (HSK.out (by show (x0.getD 0 0 == 99) = true; rw [h99]; rfl))
          clear hne hwl hxl hcs hx0 h99 hx00 KEEP
          go_wp2
          go_roundg (L.length - k)
          case measure => omega
          case rel => exact ⟨k + 1, r, Ao, co, by omega, by omega, by go_num, rfl, rfl, rfl, HP.out, HRN.out, hlits⟩
        · have e99 : ((((⟨x0.toArray⟩ : ByteArray)[0]'hsz0).toNat : Int) == 99) = false := by
            rw [hx00]
            apply beq_false_of_ne
            intro e
            exact h99 (UInt8.toNat_inj.1 (by show (x0.getD 0 0).toNat = 99; omega))
          have hsk2 : skipLine (x0 :: tl) = false := by show (x0.getD 0 0 == 99) = false; exact beq_false_of_ne h99
          have HSK2 := Lib.hid hsk2
          clear HSK hsk2 hx0 h99 hx00
          rcases hbg : r.begun with _ | _
          · have hcl : clOf r = -1 := by unfold clOf; rw [hbg]; rfl
            rw [hcl]
            clear hcl
            have HTH := Lib.hid (show ∀ l, takeLine r l = takeHeader r l from fun l => by unfold takeLine; rw [hbg]; rfl)
            by_cases h4 : tl.length = 3
            · rcases tl with _ | ⟨x1, _ | ⟨x2, _ | ⟨x3, _ | ⟨x4, tl⟩⟩⟩⟩
              · simp at h4
              · simp at h4
              · simp at h4
              · have y1 : wo.cell? ⟨b2, off2 + 1, none⟩ = some (.string ⟨x1.toArray⟩) := hcs 1 (by simp)
                have y2 : wo.cell? ⟨b2, off2 + 2, none⟩ = some (.string ⟨x2.toArray⟩) := hcs 2 (by simp)
                have y3 : wo.cell? ⟨b2, off2 + 3, none⟩ = some (.string ⟨x3.toArray⟩) := hcs 3 (by simp)
                have hl2 := hxl x2 (by simp)
                have hl3 := hxl x3 (by simp)
                have hbo := HP.out.callee (Below.refl _ _)
                have hpz : wl.heap.size ≤ wo.heap.size := by obtain ⟨_, _, _, _, hpm⟩ := HP.out; have h1 := hpm.2.2.2.2.1; have h2 := hpm.2.2.2.2.2.1; omega
                have hb0 : Below w.heap.size w wo := by obtain ⟨_, _, _, _, hpm⟩ := HP.out; exact hpm.2.2.2.2.2.2.2.2.1
                have HB0 := Lib.hid hb0
                have NB := Lib.hid (NU.out x2 wo hl2 hb0)
                have NC := Lib.hid (fun w' (hb : Below w.heap.size w w') => NU.out x3 w' hl3 hb)
                clear hne hwl hxl hcs hbo h4 hb0
                by_cases hp : x0 = [112]
                · have hpb : (x0 == [112]) = true := by rw [hp]; rfl
                  by_cases hc : x1 = [99, 110, 102]
                  · have hcb : (x1 == [99, 110, 102]) = true := by rw [hc]; rfl
                    by_cases ha : numG x2 < 0
                    · have HB := Lib.hid (HBAD.out r 2 HSK2.out (by rw [HTH.out]; unfold takeHeader; rw [header_a ha]) (by decide))
                      clear hc hp NC
                      generalize numG x2 = n2 at ha NB
                      go_wp2_with fail
                      refine NB.out.mono ?_
                      rintro e w3 ⟨rfl, hb3'⟩
                      have HP3 := Lib.hid (HP.out.callee hb3')
                      clear hb3'
                      obtain ⟨_, _, _, _, hpm⟩ := HP3.out
                      have hbr := hpm.2.1
                      have hbel := hpm.2.2.2.2.2.2.2.2.1
                      have r0 := hbr.cell 0
                      have r1 := hbr.cell 1
                      have rf := hbr.frozen
                      have hd0 := ((hbr.set_ 0 (.int .i64 0)).set_ 1 (.slice none 0 0)).cell 0
                      have hd1 := ((hbr.set_ 0 (.int .i64 0)).set_ 1 (.slice none 0 0)).cell 1
                      simp at r0 r1 hd0 hd1
                      have HBEL := Lib.hid hbel
                      clear hpm hbr hbel
                      repeat' (first | go_values | go_skip | go_guarded | go_step | go_upon | (simp only [Int.not_lt, Int.not_le] at *; go_simp) | (go_values <;> (try go_simp)) | (go_ite <;> go_prune <;> (try go_simp)) | (split <;> (first | (rename_i hx; exact (hx _ rfl).elim) | go_prune)))
                      (try simp only [Exit.inBlock, Exit.then])
                      refine bodyPost_ret (results_cell2 rfl rfl rfl rfl (load_form hd0 hd1)) rfl ?_
                      rw [HB.out]
                      exact ⟨rfl, (HBEL.out.setCell (by simp) _).setCell (by simp) _⟩
                    · by_cases hb3 : numG x3 < 0
                      · have HB := Lib.hid (HBAD.out r 2 HSK2.out (by rw [HTH.out]; unfold takeHeader; rw [header_b hb3]) (by decide))
                        clear hc hp
                        generalize numG x2 = n2 at ha NB
                        generalize numG x3 = n3 at hb3 NC
                        go_wp2_with fail
                        refine NB.out.mono ?_
                        rintro e w3 ⟨rfl, hb3'⟩
                        have HP3 := Lib.hid (HP.out.callee hb3')
                        have y3' := (hb3'.cell (p := ⟨b2, off2 + 3, none⟩) (by show b2 < _; omega)).trans y3
                        have HB3 := Lib.hid (HB0.out.trans (hb3'.mono HB0.out.size))
                        clear hb3' NB
                        go_wp2_with fail
                        refine (NC.out w3 HB3.out).mono ?_
                        rintro e w4 ⟨rfl, hb4'⟩
                        have HP4 := Lib.hid (HP3.out.callee hb4')
                        clear hb4' NC
                        obtain ⟨_, _, _, _, hpm⟩ := HP4.out
                        have hbr := hpm.2.1
                        have hbel := hpm.2.2.2.2.2.2.2.2.1
                        have r0 := hbr.cell 0
                        have r1 := hbr.cell 1
                        have rf := hbr.frozen
                        have hd0 := ((hbr.set_ 0 (.int .i64 0)).set_ 1 (.slice none 0 0)).cell 0
                        have hd1 := ((hbr.set_ 0 (.int .i64 0)).set_ 1 (.slice none 0 0)).cell 1
                        simp at r0 r1 hd0 hd1
                        have HBEL := Lib.hid hbel
                        clear hpm hbr hbel
                        repeat' (first | go_values | go_skip | go_guarded | go_step | go_upon | (simp only [Int.not_lt, Int.not_le] at *; go_simp) | (go_values <;> (try go_simp)) | (go_ite <;> go_prune <;> (try go_simp)) | (split <;> (first | (rename_i hx; exact (hx _ rfl).elim) | go_prune)))
                        (try simp only [Exit.inBlock, Exit.then])
                        refine bodyPost_ret (results_cell2 rfl rfl rfl rfl (load_form hd0 hd1)) rfl ?_
                        rw [HB.out]
                        exact ⟨rfl, (HBEL.out.setCell (by simp) _).setCell (by simp) _⟩
                      · have HHD := Lib.hid (show headerOf [x0, x1, x2, x3] = some (numG x2, numG x3) from by rw [hp, hc]; exact header_ok (by omega) (by omega))
                        clear hc hp NB
                        have NB2 := Lib.hid (fun w' (hb : Below w.heap.size w w') => NU.out x2 w' hl2 hb)
                        generalize numG x2 = n2 at ha NB2 HHD
                        generalize numG x3 = n3 at hb3 NC HHD
                        have KS := Lib.hid (show ∀ w' : World, (∀ g, w.heap.size + 2 ≤ g → g < wl.heap.size → w'.heap[g]? = wl.heap[g]?) → w'.cell? ⟨b2, off2 + 2, none⟩ = some (.string ⟨x2.toArray⟩) ∧ w'.cell? ⟨b2, off2 + 3, none⟩ = some (.string ⟨x3.toArray⟩) from fun w' hw' => by
                          obtain ⟨b', off', e', _, hcw⟩ := KEEP.out w' hw' (by simp)
                          obtain ⟨rfl, rfl⟩ : b2 = b' ∧ off2 = off' := by injection e' with e'; injection e' with h1 h2; exact ⟨h1, h2⟩
                          exact ⟨hcw 2 (by simp), hcw 3 (by simp)⟩)
                        have CE := Lib.hid (show ∀ w', Below wo.heap.size wo w' → w'.cell? ⟨b2, off2 + 2, none⟩ = some (.string ⟨x2.toArray⟩) ∧ w'.cell? ⟨b2, off2 + 3, none⟩ = some (.string ⟨x3.toArray⟩) from fun w' hb => ⟨(hb.cell (p := ⟨b2, off2 + 2, none⟩) (by show b2 < _; omega)).trans y2, (hb.cell (p := ⟨b2, off2 + 3, none⟩) (by show b2 < _; omega)).trans y3⟩)
                        go_wp2_with fail
                        refine (NB2.out wo HB0.out).mono ?_
                        rintro e w3 ⟨rfl, hb3'⟩
                        have BB3 := Lib.hid hb3'
                        have HP3 := Lib.hid (HP.out.callee hb3')
                        have y3' := (CE.out w3 hb3').2
                        have HB3 := Lib.hid (HB0.out.trans (hb3'.mono HB0.out.size))
                        clear hb3'
                        go_wp2_with fail
                        refine (NC.out w3 HB3.out).mono ?_
                        rintro e w4 ⟨rfl, hb4'⟩
                        have BB4 := Lib.hid (BB3.out.trans (hb4'.mono BB3.out.size))
                        have HP4 := Lib.hid (HP3.out.callee hb4')
                        have HB4 := Lib.hid (HB3.out.trans (hb4'.mono HB3.out.size))
                        clear hb4' y0 y1 y2 y3 y3'
                        obtain ⟨y2, y3⟩ := CE.out w4 BB4.out
                        go_wp2_with fail
                        go_cut [6] (fun s6 w' => s6 = .int .i64 n3 ∧ PAt w wl w' { r with vars := n2 } Ao co)
                        case first =>
                          go_region_held3 (fun w' => w'.cell? ⟨b2, off2 + 2, none⟩ = some (.string ⟨x2.toArray⟩) ∧ w'.cell? ⟨b2, off2 + 3, none⟩ = some (.string ⟨x3.toArray⟩))
                            (first | exact KK7.out | exact KK6.out | exact KK5.out | exact ⟨y2, y3⟩ | go_keep)
                            (first
                              | (go_at_call 20; (with_reducible refine (NB2.out w4.drew HB4.out.drew).mono ?_); rintro e w5 ⟨rfl, hb5'⟩; have HX5 := Lib.hid (below_undrew hb5'); have HP5 := Lib.hid (HP4.out.callee HX5.out); have HB5 := Lib.hid (HB4.out.trans (HX5.out.mono HB4.out.size)); have BB5 := Lib.hid (BB4.out.trans (HX5.out.mono BB4.out.size)); have KK5 := Lib.hid (CE.out w5 BB5.out); clear hb5')
                              | (go_at_call 20; (with_reducible refine (NC.out w5 HB5.out).mono ?_); rintro e w6 ⟨rfl, hb6'⟩; have HP6 := Lib.hid (HP5.out.callee hb6'); have BB6 := Lib.hid (BB5.out.trans (hb6'.mono BB5.out.size)); have KK6 := Lib.hid (CE.out w6 BB6.out); obtain ⟨_, _, _, _, hpm⟩ := HP6.out; have f0 := hpm.1.cell 0; have ff := hpm.1.frozen 0; simp at f0; have KK7 := Lib.hid (KS.out (w6.setCell ⟨w.heap.size + 1, 0, none⟩ (.int .i64 n2)) (fun g h1 h2 => (Below.heap_setCell w6 _ _ g (by simp; omega)).trans (hpm.2.2.2.2.2.2.2.2.2.1 g h1 h2))); clear hpm hb6'))
                          go_wp2_with fail
                          go_meet
                          obtain ⟨_, _, _, _, hpm⟩ := HP6.out
                          exact ⟨rfl, _, _, _, _, hpm.vars n2⟩
                        case rest =>
                          obtain ⟨hs6, hPc⟩ := hcut
                          subst hs6
                          have HPC := Lib.hid hPc
                          obtain ⟨_, _, _, _, hpm⟩ := hPc
                          have f0 := hpm.1.cell 0
                          simp at f0
                          clear hpm y2 y3
                          by_cases hv : 100000 < n2
                          · have HB := Lib.hid (HBAD.out r 8 HSK2.out (by rw [HTH.out]; unfold takeHeader; rw [HHD.out]; simp only; rw [if_pos (Or.inl hv)]) (by decide))
                            obtain ⟨_, _, _, _, hpm⟩ := HPC.out
                            have hbr := hpm.2.1
                            have hbel := hpm.2.2.2.2.2.2.2.2.1
                            have r0 := hbr.cell 0
                            have r1 := hbr.cell 1
                            have rf := hbr.frozen
                            have hd0 := ((hbr.set_ 0 (.int .i64 0)).set_ 1 (.slice none 0 0)).cell 0
                            have hd1 := ((hbr.set_ 0 (.int .i64 0)).set_ 1 (.slice none 0 0)).cell 1
                            simp at r0 r1 hd0 hd1
                            have HBEL := Lib.hid hbel
                            clear hpm hbr hbel
                            repeat' (first | go_values | go_skip | go_guarded | go_step | go_upon | (simp only [Int.not_lt, Int.not_le] at *; go_simp) | (go_values <;> (try go_simp)) | (go_ite <;> go_prune <;> (try go_simp)) | (split <;> (first | (rename_i hx; exact (hx _ rfl).elim) | go_prune)))
                            (try simp only [Exit.inBlock, Exit.then])
                            refine bodyPost_ret (results_cell2 rfl rfl rfl rfl (load_form hd0 hd1)) rfl ?_
                            rw [HB.out]
                            exact ⟨rfl, (HBEL.out.setCell (by simp) _).setCell (by simp) _⟩
                          · by_cases hcn : 200000 < n3
                            · have HB := Lib.hid (HBAD.out r 8 HSK2.out (by rw [HTH.out]; unfold takeHeader; rw [HHD.out]; simp only; rw [if_pos (Or.inr hcn)]) (by decide))
                              obtain ⟨_, _, _, _, hpm⟩ := HPC.out
                              have hbr := hpm.2.1
                              have hbel := hpm.2.2.2.2.2.2.2.2.1
                              have r0 := hbr.cell 0
                              have r1 := hbr.cell 1
                              have rf := hbr.frozen
                              have hd0 := ((hbr.set_ 0 (.int .i64 0)).set_ 1 (.slice none 0 0)).cell 0
                              have hd1 := ((hbr.set_ 0 (.int .i64 0)).set_ 1 (.slice none 0 0)).cell 1
                              simp at r0 r1 hd0 hd1
                              have HBEL := Lib.hid hbel
                              clear hpm hbr hbel
                              repeat' (first | go_values | go_skip | go_guarded | go_step | go_upon | (simp only [Int.not_lt, Int.not_le] at *; go_simp) | (go_values <;> (try go_simp)) | (go_ite <;> go_prune <;> (try go_simp)) | (split <;> (first | (rename_i hx; exact (hx _ rfl).elim) | go_prune)))
                              (try simp only [Exit.inBlock, Exit.then])
                              refine bodyPost_ret (results_cell2 rfl rfl rfl rfl (load_form hd0 hd1)) rfl ?_
                              rw [HB.out]
                              exact ⟨rfl, (HBEL.out.setCell (by simp) _).setCell (by simp) _⟩
                            · have HG := Lib.hid (HGOOD.out { r with begun := true, stated := n3, vars := n2 } HSK2.out (by rw [HTH.out]; unfold takeHeader; rw [HHD.out]; simp only; rw [if_neg (by omega)]) (by simp) (fun _ => ⟨by show 0 ≤ n3; omega, by show 0 ≤ n2; omega⟩))
                              go_wp2
                              go_roundg (L.length - k)
                              case measure => omega
                              case rel => exact ⟨k + 1, { r with begun := true, stated := n3, vars := n2 }, Ao, co, by omega, by omega, by go_num, rfl, rfl, rfl, HPC.out, HG.out, hlits⟩
                  · have hcb : (x1 == [99, 110, 102]) = false := beq_false_of_ne hc
                    have HB := Lib.hid (HBAD.out r 2 HSK2.out (by rw [HTH.out]; unfold takeHeader; rw [header_cnf hc]) (by decide))
                    clear hc hp NB NC
                    obtain ⟨_, _, _, _, hpm⟩ := HP.out
                    have hbr := hpm.2.1
                    have hbel := hpm.2.2.2.2.2.2.2.2.1
                    have r0 := hbr.cell 0
                    have r1 := hbr.cell 1
                    have rf := hbr.frozen
                    have hd0 := ((hbr.set_ 0 (.int .i64 0)).set_ 1 (.slice none 0 0)).cell 0
                    have hd1 := ((hbr.set_ 0 (.int .i64 0)).set_ 1 (.slice none 0 0)).cell 1
                    simp at r0 r1 hd0 hd1
                    have HBEL := Lib.hid hbel
                    clear hpm hbr hbel
                    repeat' (first | go_values | go_skip | go_guarded | go_step | go_upon | (simp only [Int.not_lt, Int.not_le] at *; go_simp) | (go_values <;> (try go_simp)) | (go_ite <;> go_prune <;> (try go_simp)) | (split <;> (first | (rename_i hx; exact (hx _ rfl).elim) | go_prune)))
                    (try simp only [Exit.inBlock, Exit.then])
                    refine bodyPost_ret (results_cell2 rfl rfl rfl rfl (load_form hd0 hd1)) rfl ?_
                    rw [HB.out]
                    exact ⟨rfl, (HBEL.out.setCell (by simp) _).setCell (by simp) _⟩
                · have hpb : (x0 == [112]) = false := beq_false_of_ne hp
                  have HB := Lib.hid (HBAD.out r 2 HSK2.out (by rw [HTH.out]; unfold takeHeader; rw [header_p hp]) (by decide))
                  clear hp NB NC
                  obtain ⟨_, _, _, _, hpm⟩ := HP.out
                  have hbr := hpm.2.1
                  have hbel := hpm.2.2.2.2.2.2.2.2.1
                  have r0 := hbr.cell 0
                  have r1 := hbr.cell 1
                  have rf := hbr.frozen
                  have hd0 := ((hbr.set_ 0 (.int .i64 0)).set_ 1 (.slice none 0 0)).cell 0
                  have hd1 := ((hbr.set_ 0 (.int .i64 0)).set_ 1 (.slice none 0 0)).cell 1
                  simp at r0 r1 hd0 hd1
                  have HBEL := Lib.hid hbel
                  clear hpm hbr hbel
                  repeat' (first | go_values | go_skip | go_guarded | go_step | go_upon | (simp only [Int.not_lt, Int.not_le] at *; go_simp) | (go_values <;> (try go_simp)) | (go_ite <;> go_prune <;> (try go_simp)) | (split <;> (first | (rename_i hx; exact (hx _ rfl).elim) | go_prune)))
                  (try simp only [Exit.inBlock, Exit.then])
                  refine bodyPost_ret (results_cell2 rfl rfl rfl rfl (load_form hd0 hd1)) rfl ?_
                  rw [HB.out]
                  exact ⟨rfl, (HBEL.out.setCell (by simp) _).setCell (by simp) _⟩
              · simp at h4
            · have HB := Lib.hid (HBAD.out r 2 HSK2.out (by rw [HTH.out]; unfold takeHeader; rw [header_four (by simpa using h4)]) (by decide))
              clear hne hwl hxl hcs
              obtain ⟨_, _, _, _, hpm⟩ := HP.out
              have hbr := hpm.2.1
              have hbel := hpm.2.2.2.2.2.2.2.2.1
              have r0 := hbr.cell 0
              have r1 := hbr.cell 1
              have rf := hbr.frozen
              have hd0 := ((hbr.set_ 0 (.int .i64 0)).set_ 1 (.slice none 0 0)).cell 0
              have hd1 := ((hbr.set_ 0 (.int .i64 0)).set_ 1 (.slice none 0 0)).cell 1
              simp at r0 r1 hd0 hd1
              have HBEL := Lib.hid hbel
              clear hpm hbr hbel
              repeat' (first | go_values | go_skip | go_guarded | go_step | go_upon | (simp only [Int.not_lt, Int.not_le] at *; go_simp) | (go_values <;> (try go_simp)) | (go_ite <;> go_prune <;> (try go_simp)) | (split <;> (first | (rename_i hx; exact (hx _ rfl).elim) | go_prune)))
              (try simp only [Exit.inBlock, Exit.then])
              refine bodyPost_ret (results_cell2 rfl rfl rfl rfl (load_form hd0 hd1)) rfl ?_
              rw [HB.out]
              exact ⟨rfl, (HBEL.out.setCell (by simp) _).setCell (by simp) _⟩
          · have hcl : clOf r = r.stated := by unfold clOf; rw [hbg]; rfl
            have hpos := HR.out.pos hbg
            rw [hcl]
            have HTB := Lib.hid (show ∀ l, takeLine r l = takeBody r l from fun l => by unfold takeLine; rw [hbg]; rfl)
            obtain ⟨W, hW⟩ : ∃ W, W = x0 :: tl := ⟨_, rfl⟩
            rw [← hW] at hne hwl hxl hck HSK2 HBAD HGOOD KEEP
            have hW0 : 0 < W.length := by rw [hW]; simp
            have hW1 : ((W.length : Int) == 0) = false := beq_false_of_ne (by omega)
            have HNE := Lib.hid hne
            have HXL := Lib.hid hxl
            have HBG := Lib.hid hbg
            have HSZ := HR.out.size
            have hLk : k ≤ 100001 := by omega
            obtain ⟨hst0, hvr0⟩ := hpos
            clear hcs hW hne hxl hbg hcl
            go_wp2
            clear hck y0 e99
            go_loopg [7, 8, 90] (W.length + 1) (fun gk li op i wr => ∃ (j : Nat) (r' : Rd) (A3 : Option Addr) (c3 : Nat), j ≤ W.length ∧ gk = W.length - j + 1 ∧ i = .int .i64 j ∧ li = .int .i64 r'.lits ∧ op = .slice A3 r'.opn.length c3 ∧ PAt w wl wr r' A3 c3 ∧
              Hid (takeBody r W = takeBody r' (W.drop j)) ∧ Hid (r'.begun = true ∧ r'.stated = r.stated ∧ r'.vars = r.vars) ∧ r'.lits ≤ 1000000 ∧ r'.size ≤ r.size + j)
            case atStart => exact ⟨0, r, Ao, co, by omega, by omega, rfl, rfl, rfl, HP.out, Lib.hid rfl, Lib.hid ⟨HBG.out, rfl, rfl⟩, hlits, by omega⟩
            case round =>
              obtain ⟨j, r', A3, c3, hj, rfl, rfl, rfl, rfl, hP', HBODY, HSAME, hlits', hsize⟩ := hrel
              obtain ⟨wi, rfl⟩ : ∃ wi : World, wi = wr := ⟨_, rfl⟩
              have HPi := Lib.hid hP'
              obtain ⟨nl, hnl⟩ : ∃ nl : Int, nl = (r'.lits : Int) := ⟨_, rfl⟩
              rw [← hnl]
              have hnl0 : 0 ≤ nl := by omega
              have hnl1 : nl ≤ 1000000 := by omega
              have HNL := Lib.hid hnl
              have HLT := Lib.hid hlits'
              clear hP' hnl hlits'
              by_cases hjl : j < W.length
              · rename (∀ (a : Act) (w : World), Code.wp Tryz.prog _ _ a w → _) => hKX
                clear hKX
                have hagree := (show ∀ g, w.heap.size + 2 ≤ g → g < wl.heap.size → wi.heap[g]? = wl.heap[g]? from by obtain ⟨_, _, _, _, hpm⟩ := HPi.out; exact hpm.2.2.2.2.2.2.2.2.2.1)
                obtain ⟨b', off', e', _, hcw⟩ := KEEP.out wi hagree hW0
                obtain ⟨rfl, rfl⟩ : b2 = b' ∧ off2 = off' := by injection e' with e'; injection e' with h1 h2; exact ⟨h1, h2⟩
                have yx : wi.cell? ⟨b2, off2 + j, none⟩ = some (.string ⟨(W.getD j []).toArray⟩) := hcw j hjl
                have hxm : W.getD j [] ∈ W := by rw [List.getD, List.getElem?_eq_getElem hjl]; exact List.getElem_mem hjl
                have hx0 := HNE.out _ hxm
                have hxb := HXL.out _ hxm
                have hbody := HBODY.out
                rw [drop_getD [] W j hjl] at hbody
                generalize W.getD j [] = x at yx hx0 hxb hbody
                have HBD := Lib.hid hbody
                have hbel : Below w.heap.size w wi := by obtain ⟨_, _, _, _, hpm⟩ := HPi.out; exact hpm.2.2.2.2.2.2.2.2.1
                have HBEi := Lib.hid hbel
                have hl0 : 0 < x.length := List.length_pos_iff.2 hx0
                have hsz0 : 0 < (⟨x.toArray⟩ : ByteArray).size := by show 0 < x.toArray.size; simpa using hl0
                have hx00 : (⟨x.toArray⟩ : ByteArray)[0]'hsz0 = x.getD 0 0 := by
                  cases x with
                  | nil => exact absurd rfl hx0
                  | cons a t => rfl
                clear hbody hagree hcw hxm hbel HBODY
                by_cases h45 : x.getD 0 0 = 45
                · have e45 : ((((⟨x.toArray⟩ : ByteArray)[0]'hsz0).toNat : Int) == 45) = true := by rw [hx00, h45]; rfl
                  have hit := item_minus h45
                  have q0 : ∀ w, (Instr.slice 9 (.string ⟨x.toArray⟩) (some (.int .i64 1)) none none).run Tryz.prog w = .ok (.string ⟨(x.drop 1).toArray⟩) w := fun w => by
                    have h := run_back (P := Tryz.prog) 9 Tryz.underlying9 ⟨x.toArray⟩ 1 (by omega) w
                    rw [piece_back x 1 (by omega)] at h
                    exact h
                  have hyb : (x.drop 1).length ≤ 100000 := by simp; omega
                  have hgb := numG_le (x.drop 1)
                  generalize x.drop 1 = y at hit q0 hyb hgb
                  have HIT := Lib.hid hit
                  clear hit h45 hx00 hx0
                  go_wp2_with fail
                  refine (NU.out y wi hyb HBEi.out).mono ?_
                  rintro e w3 ⟨rfl, hb3⟩
                  have HP3 := Lib.hid (HPi.out.callee hb3)
                  clear hb3 yx q0 e45
                  generalize numG y = g at HIT hgb ⊢
                  by_cases hg1 : g < 0
                  · have HIN := Lib.hid (show itemOf x = none from by rw [HIT.out, if_pos (by omega)])
                    have HB := Lib.hid (HBAD.out r' 3 HSK2.out (by rw [HTB.out, HBD.out]; exact body_wrong HIN.out) (by decide))
                    clear HBAD HGOOD
                    obtain ⟨_, _, _, _, hpm⟩ := HP3.out
                    have hbr := hpm.2.1
                    have hbel := hpm.2.2.2.2.2.2.2.2.1
                    have r0 := hbr.cell 0
                    have r1 := hbr.cell 1
                    have rf := hbr.frozen
                    have hd0 := ((hbr.set_ 0 (.int .i64 0)).set_ 1 (.slice none 0 0)).cell 0
                    have hd1 := ((hbr.set_ 0 (.int .i64 0)).set_ 1 (.slice none 0 0)).cell 1
                    simp at r0 r1 hd0 hd1
                    have HBEL := Lib.hid hbel
                    clear hpm hbr hbel
                    repeat' (first | go_values | go_skip | go_guarded | go_step | go_upon | (simp only [Int.not_lt, Int.not_le] at *; go_simp) | (go_values <;> (try go_simp)) | (go_ite <;> go_prune <;> (try go_simp)) | (split <;> (first | (rename_i hx; exact (hx _ rfl).elim) | go_prune)))
                    (try simp only [Exit.inBlock, Exit.then])
                    refine bodyPost_ret (results_cell2 rfl rfl rfl rfl (load_form hd0 hd1)) rfl ?_
                    rw [HB.out]
                    exact ⟨rfl, (HBEL.out.setCell (by simp) _).setCell (by simp) _⟩
                  · by_cases hg2 : g = 0
                    · have HIN := Lib.hid (show itemOf x = none from by rw [HIT.out, if_pos (by omega)])
                      have hg3 : (g == 0) = true := by simpa using hg2
                      have HB := Lib.hid (HBAD.out r' 3 HSK2.out (by rw [HTB.out, HBD.out]; exact body_wrong HIN.out) (by decide))
                      clear HBAD HGOOD
                      obtain ⟨_, _, _, _, hpm⟩ := HP3.out
                      have hbr := hpm.2.1
                      have hbel := hpm.2.2.2.2.2.2.2.2.1
                      have r0 := hbr.cell 0
                      have r1 := hbr.cell 1
                      have rf := hbr.frozen
                      have hd0 := ((hbr.set_ 0 (.int .i64 0)).set_ 1 (.slice none 0 0)).cell 0
                      have hd1 := ((hbr.set_ 0 (.int .i64 0)).set_ 1 (.slice none 0 0)).cell 1
                      simp at r0 r1 hd0 hd1
                      have HBEL := Lib.hid hbel
                      clear hpm hbr hbel
                      repeat' (first | go_values | go_skip | go_guarded | go_step | go_upon | (simp only [Int.not_lt, Int.not_le] at *; go_simp) | (go_values <;> (try go_simp)) | (go_ite <;> go_prune <;> (try go_simp)) | (split <;> (first | (rename_i hx; exact (hx _ rfl).elim) | go_prune)))
                      (try simp only [Exit.inBlock, Exit.then])
                      refine bodyPost_ret (results_cell2 rfl rfl rfl rfl (load_form hd0 hd1)) rfl ?_
                      rw [HB.out]
                      exact ⟨rfl, (HBEL.out.setCell (by simp) _).setCell (by simp) _⟩
                    · have HIS := Lib.hid (show itemOf x = some (-g) from by rw [HIT.out, if_neg (by omega)])
                      have hg3 : (g == 0) = false := by simpa using hg2
                      have hgb := hgb
                      obtain ⟨Af, cf, vs, mid, hpm⟩ := HP3.out
                      have f0 := hpm.1.cell 0
                      have f1 := hpm.1.cell 1
                      simp at f0 f1
                      rw [HSAME.out.2.2] at f0
                      have hsp := size_parts r'
                      have hcap := hpm.2.2.2.2.2.1
                      have hwm := hpm.2.2.2.2.1
                      have HPM := Lib.hid hpm
                      clear hpm
                      by_cases hm : (r'.cls.length : Int) = r.stated
                      · have hmq : ((r'.cls.length : Int) == r.stated) = true := by simpa using hm
                        have HB := Lib.hid (HBAD.out r' 5 HSK2.out (by rw [HTB.out, HBD.out]; exact body_err HIS.out (item_many (by rw [HSAME.out.2.1]; exact hm)) (by decide)) (by decide))
                        clear HBAD HGOOD
                        obtain ⟨_, _, _, _, hpm⟩ := HP3.out
                        have hbr := hpm.2.1
                        have hbel := hpm.2.2.2.2.2.2.2.2.1
                        have r0 := hbr.cell 0
                        have r1 := hbr.cell 1
                        have rf := hbr.frozen
                        have hd0 := ((hbr.set_ 0 (.int .i64 0)).set_ 1 (.slice none 0 0)).cell 0
                        have hd1 := ((hbr.set_ 0 (.int .i64 0)).set_ 1 (.slice none 0 0)).cell 1
                        simp at r0 r1 hd0 hd1
                        have HBEL := Lib.hid hbel
                        clear hpm hbr hbel
                        repeat' (first | go_values | go_skip | go_guarded | go_step | go_upon | (simp only [Int.not_lt, Int.not_le] at *; go_simp) | (go_values <;> (try go_simp)) | (go_ite <;> go_prune <;> (try go_simp)) | (split <;> (first | (rename_i hx; exact (hx _ rfl).elim) | go_prune)))
                        (try simp only [Exit.inBlock, Exit.then])
                        refine bodyPost_ret (results_cell2 rfl rfl rfl rfl (load_form hd0 hd1)) rfl ?_
                        rw [HB.out]
                        exact ⟨rfl, (HBEL.out.setCell (by simp) _).setCell (by simp) _⟩
                      · have hmq : ((r'.cls.length : Int) == r.stated) = false := beq_false_of_ne hm
                        have hm' : ¬ (r'.cls.length : Int) = r'.stated := by rw [HSAME.out.2.1]; exact hm
                        have HM' := Lib.hid hm'
                        clear hm hm'
                        by_cases hv : r.vars < g
                        · have HTI := Lib.hid (item_range (n := (-g)) HM'.out (by omega) (by rw [HSAME.out.2.2]; omega))
                          have HB := Lib.hid (HBAD.out r' 4 HSK2.out (by rw [HTB.out, HBD.out]; exact body_err HIS.out HTI.out (by decide)) (by decide))
                          clear HBAD HGOOD
                          obtain ⟨_, _, _, _, hpm⟩ := HP3.out
                          have hbr := hpm.2.1
                          have hbel := hpm.2.2.2.2.2.2.2.2.1
                          have r0 := hbr.cell 0
                          have r1 := hbr.cell 1
                          have rf := hbr.frozen
                          have hd0 := ((hbr.set_ 0 (.int .i64 0)).set_ 1 (.slice none 0 0)).cell 0
                          have hd1 := ((hbr.set_ 0 (.int .i64 0)).set_ 1 (.slice none 0 0)).cell 1
                          simp at r0 r1 hd0 hd1
                          have HBEL := Lib.hid hbel
                          clear hpm hbr hbel
                          repeat' (first | go_values | go_skip | go_guarded | go_step | go_upon | (simp only [Int.not_lt, Int.not_le] at *; go_simp) | (go_values <;> (try go_simp)) | (go_ite <;> go_prune <;> (try go_simp)) | (split <;> (first | (rename_i hx; exact (hx _ rfl).elim) | go_prune)))
                          (try simp only [Exit.inBlock, Exit.then])
                          refine bodyPost_ret (results_cell2 rfl rfl rfl rfl (load_form hd0 hd1)) rfl ?_
                          rw [HB.out]
                          exact ⟨rfl, (HBEL.out.setCell (by simp) _).setCell (by simp) _⟩
                        · have hz' : (g == 0) = false := by simp; omega
                          by_cases hf : nl = 1000000
                          · have HTI := Lib.hid (item_full (n := -g) HM'.out (by omega) (by rw [HSAME.out.2.2]; omega) (by have := HNL.out; omega))
                            have HB := Lib.hid (HBAD.out r' 8 HSK2.out (by rw [HTB.out, HBD.out]; exact body_err HIS.out HTI.out (by decide)) (by decide))
                            clear HBAD HGOOD
                            obtain ⟨_, _, _, _, hpm⟩ := HP3.out
                            have hbr := hpm.2.1
                            have hbel := hpm.2.2.2.2.2.2.2.2.1
                            have r0 := hbr.cell 0
                            have r1 := hbr.cell 1
                            have rf := hbr.frozen
                            have hd0 := ((hbr.set_ 0 (.int .i64 0)).set_ 1 (.slice none 0 0)).cell 0
                            have hd1 := ((hbr.set_ 0 (.int .i64 0)).set_ 1 (.slice none 0 0)).cell 1
                            simp at r0 r1 hd0 hd1
                            have HBEL := Lib.hid hbel
                            clear hpm hbr hbel
                            repeat' (first | go_values | go_skip | go_guarded | go_step | go_upon | (simp only [Int.not_lt, Int.not_le] at *; go_simp) | (go_values <;> (try go_simp)) | (go_ite <;> go_prune <;> (try go_simp)) | (split <;> (first | (rename_i hx; exact (hx _ rfl).elim) | go_prune)))
                            (try simp only [Exit.inBlock, Exit.then])
                            refine bodyPost_ret (results_cell2 rfl rfl rfl rfl (load_form hd0 hd1)) rfl ?_
                            rw [HB.out]
                            exact ⟨rfl, (HBEL.out.setCell (by simp) _).setCell (by simp) _⟩
                          · have HTI := Lib.hid (item_add (n := -g) HM'.out (by omega) (by rw [HSAME.out.2.2]; omega) (by have := HNL.out; omega))
                            have hf2 : nl < 1000000 := by omega
                            clear hf hnl1
                            have hoo := HPM.out.2.2.2.2.2.2.2.1
                            have HOO := Lib.hid hoo
                            clear hoo
                            go_wp2_with (at_builtin; refine wpList_append1 _ rfl _ _ 45 rfl mid 3 i0' (.int .i64 0) 8 Tryz.underlying45 hi' hz0' hz1' hz2' rfl _ _ _ rfl (HOO.out.alloc _) (.int .i64 (-g)) w3.heap.size rfl (by go_cell) rfl (by unfold maxLen; omega) (by omega) (by simp; omega) ?_)
                            intro v' w5 hown5 hg5 _
                            obtain ⟨A5, c5, hv5, -⟩ := own_slice hown5
                            subst hv5
                            have HPN := Lib.hid (HPM.out.add (-g) hown5 hg5)
                            clear hown5 hg5 f0 f1
                            go_wp2
                            go_roundg (W.length - j)
                            case measure => omega
                            case rel => exact ⟨j + 1, { r' with opn := r'.opn ++ [(-g)] }, A5, c5, by omega, by omega, by go_num, by rw [lits_add]; exact congrArg _ (by have := HNL.out; omega), by simp, ⟨_, _, _, _, HPN.out⟩, Lib.hid (by rw [HBD.out]; exact body_ok HIS.out HTI.out), Lib.hid ⟨HSAME.out.1, HSAME.out.2.1, HSAME.out.2.2⟩, by rw [lits_add]; have := HNL.out; omega, by rw [size_add]; omega⟩
                · have e45 : ((((⟨x.toArray⟩ : ByteArray)[0]'hsz0).toNat : Int) == 45) = false := by
                    rw [hx00]
                    apply beq_false_of_ne
                    intro e
                    exact h45 (UInt8.toNat_inj.1 (by show (x.getD 0 0).toNat = 45; omega))
                  have hit := item_plain h45
                  have hgb := numG_le x
                  have HIT := Lib.hid hit
                  clear hit h45 hx00 hx0
                  go_wp2_with fail
                  refine (NU.out x wi hxb HBEi.out).mono ?_
                  rintro e w3 ⟨rfl, hb3⟩
                  have HP3 := Lib.hid (HPi.out.callee hb3)
                  clear hb3 yx e45
                  generalize numG x = g at HIT hgb ⊢
                  by_cases hg1 : g < 0
                  · have HIN := Lib.hid (show itemOf x = none from by rw [HIT.out, if_pos hg1])
                    have HB := Lib.hid (HBAD.out r' 3 HSK2.out (by rw [HTB.out, HBD.out]; exact body_wrong HIN.out) (by decide))
                    clear HBAD HGOOD
                    obtain ⟨_, _, _, _, hpm⟩ := HP3.out
                    have hbr := hpm.2.1
                    have hbel := hpm.2.2.2.2.2.2.2.2.1
                    have r0 := hbr.cell 0
                    have r1 := hbr.cell 1
                    have rf := hbr.frozen
                    have hd0 := ((hbr.set_ 0 (.int .i64 0)).set_ 1 (.slice none 0 0)).cell 0
                    have hd1 := ((hbr.set_ 0 (.int .i64 0)).set_ 1 (.slice none 0 0)).cell 1
                    simp at r0 r1 hd0 hd1
                    have HBEL := Lib.hid hbel
                    clear hpm hbr hbel
                    repeat' (first | go_values | go_skip | go_guarded | go_step | go_upon | (simp only [Int.not_lt, Int.not_le] at *; go_simp) | (go_values <;> (try go_simp)) | (go_ite <;> go_prune <;> (try go_simp)) | (split <;> (first | (rename_i hx; exact (hx _ rfl).elim) | go_prune)))
                    (try simp only [Exit.inBlock, Exit.then])
                    refine bodyPost_ret (results_cell2 rfl rfl rfl rfl (load_form hd0 hd1)) rfl ?_
                    rw [HB.out]
                    exact ⟨rfl, (HBEL.out.setCell (by simp) _).setCell (by simp) _⟩
                  · have HIS := Lib.hid (show itemOf x = some g from by rw [HIT.out, if_neg hg1])
                    have hgb := hgb
                    obtain ⟨Af, cf, vs, mid, hpm⟩ := HP3.out
                    have f0 := hpm.1.cell 0
                    have f1 := hpm.1.cell 1
                    simp at f0 f1
                    rw [HSAME.out.2.2] at f0
                    have hsp := size_parts r'
                    have hcap := hpm.2.2.2.2.2.1
                    have hwm := hpm.2.2.2.2.1
                    have HPM := Lib.hid hpm
                    clear hpm
                    by_cases hm : (r'.cls.length : Int) = r.stated
                    · have hmq : ((r'.cls.length : Int) == r.stated) = true := by simpa using hm
                      have HB := Lib.hid (HBAD.out r' 5 HSK2.out (by rw [HTB.out, HBD.out]; exact body_err HIS.out (item_many (by rw [HSAME.out.2.1]; exact hm)) (by decide)) (by decide))
                      clear HBAD HGOOD
                      obtain ⟨_, _, _, _, hpm⟩ := HP3.out
                      have hbr := hpm.2.1
                      have hbel := hpm.2.2.2.2.2.2.2.2.1
                      have r0 := hbr.cell 0
                      have r1 := hbr.cell 1
                      have rf := hbr.frozen
                      have hd0 := ((hbr.set_ 0 (.int .i64 0)).set_ 1 (.slice none 0 0)).cell 0
                      have hd1 := ((hbr.set_ 0 (.int .i64 0)).set_ 1 (.slice none 0 0)).cell 1
                      simp at r0 r1 hd0 hd1
                      have HBEL := Lib.hid hbel
                      clear hpm hbr hbel
                      repeat' (first | go_values | go_skip | go_guarded | go_step | go_upon | (simp only [Int.not_lt, Int.not_le] at *; go_simp) | (go_values <;> (try go_simp)) | (go_ite <;> go_prune <;> (try go_simp)) | (split <;> (first | (rename_i hx; exact (hx _ rfl).elim) | go_prune)))
                      (try simp only [Exit.inBlock, Exit.then])
                      refine bodyPost_ret (results_cell2 rfl rfl rfl rfl (load_form hd0 hd1)) rfl ?_
                      rw [HB.out]
                      exact ⟨rfl, (HBEL.out.setCell (by simp) _).setCell (by simp) _⟩
                    · have hmq : ((r'.cls.length : Int) == r.stated) = false := beq_false_of_ne hm
                      have hm' : ¬ (r'.cls.length : Int) = r'.stated := by rw [HSAME.out.2.1]; exact hm
                      have HM' := Lib.hid hm'
                      clear hm hm'
                      by_cases hv : r.vars < g
                      · have HTI := Lib.hid (item_range (n := g) HM'.out (by omega) (by rw [HSAME.out.2.2]; omega))
                        have HB := Lib.hid (HBAD.out r' 4 HSK2.out (by rw [HTB.out, HBD.out]; exact body_err HIS.out HTI.out (by decide)) (by decide))
                        clear HBAD HGOOD
                        obtain ⟨_, _, _, _, hpm⟩ := HP3.out
                        have hbr := hpm.2.1
                        have hbel := hpm.2.2.2.2.2.2.2.2.1
                        have r0 := hbr.cell 0
                        have r1 := hbr.cell 1
                        have rf := hbr.frozen
                        have hd0 := ((hbr.set_ 0 (.int .i64 0)).set_ 1 (.slice none 0 0)).cell 0
                        have hd1 := ((hbr.set_ 0 (.int .i64 0)).set_ 1 (.slice none 0 0)).cell 1
                        simp at r0 r1 hd0 hd1
                        have HBEL := Lib.hid hbel
                        clear hpm hbr hbel
                        repeat' (first | go_values | go_skip | go_guarded | go_step | go_upon | (simp only [Int.not_lt, Int.not_le] at *; go_simp) | (go_values <;> (try go_simp)) | (go_ite <;> go_prune <;> (try go_simp)) | (split <;> (first | (rename_i hx; exact (hx _ rfl).elim) | go_prune)))
                        (try simp only [Exit.inBlock, Exit.then])
                        refine bodyPost_ret (results_cell2 rfl rfl rfl rfl (load_form hd0 hd1)) rfl ?_
                        rw [HB.out]
                        exact ⟨rfl, (HBEL.out.setCell (by simp) _).setCell (by simp) _⟩
                      · by_cases hz : g = 0
                        · subst hz
                          have HTI := Lib.hid (item_zero HM'.out)
                          have how := HPM.out.2.2.1
                          have HOW := Lib.hid how
                          have hbk := HPM.out.1
                          have HBK := Lib.hid hbk
                          have hcsz := hsp
                          clear how hbk
                          go_wp2_with (at_builtin; refine wpList_append1 _ rfl _ _ 26 rfl wl.heap.size 45 i0'' (.slice none 0 0) 24 Tryz.underlying26 hi'' hz0'' hz1'' hz2'' rfl _ _ _ rfl (HOW.out.alloc _) (.slice A3 r'.opn.length c3) w3.heap.size rfl (by go_cell) rfl (by unfold maxLen; omega) (by omega) (by simp; omega) ?_)
                          intro v' w5 hown5 hg5 _
                          obtain ⟨A5, c5, hv5, -⟩ := own_slice hown5
                          subst hv5
                          have hbk5 := (HBK.out.alloc (.cells #[.slice A3 r'.opn.length c3] 45)).grown hg5 (own_blk_ne (HOW.out.alloc (.cells #[.slice A3 r'.opn.length c3] 45)) (HBK.out.alloc (.cells #[.slice A3 r'.opn.length c3] 45)) (by decide))
                          have d1 := hbk5.cell 1
                          have dF := hbk5.frozen 1
                          simp at d1
                          have HPN := Lib.hid (HPM.out.close hown5 hg5)
                          clear hown5 hg5 hbk5 f0 f1
                          go_wp2
                          go_roundg (W.length - j)
                          case measure => omega
                          case rel => exact ⟨j + 1, { r' with cls := r'.cls ++ [r'.opn], opn := [] }, none, 0, by omega, by omega, by go_num, by rw [lits_close, HNL.out], rfl, ⟨_, _, _, _, HPN.out⟩, Lib.hid (by rw [HBD.out]; exact body_ok HIS.out HTI.out), Lib.hid ⟨HSAME.out.1, HSAME.out.2.1, HSAME.out.2.2⟩, by rw [lits_close]; exact HLT.out, by rw [size_close]; omega⟩
                        · have hz' : (g == 0) = false := by simpa using hz
                          by_cases hf : nl = 1000000
                          · have HTI := Lib.hid (item_full (n := g) HM'.out (by omega) (by rw [HSAME.out.2.2]; omega) (by have := HNL.out; omega))
                            have HB := Lib.hid (HBAD.out r' 8 HSK2.out (by rw [HTB.out, HBD.out]; exact body_err HIS.out HTI.out (by decide)) (by decide))
                            clear HBAD HGOOD
                            obtain ⟨_, _, _, _, hpm⟩ := HP3.out
                            have hbr := hpm.2.1
                            have hbel := hpm.2.2.2.2.2.2.2.2.1
                            have r0 := hbr.cell 0
                            have r1 := hbr.cell 1
                            have rf := hbr.frozen
                            have hd0 := ((hbr.set_ 0 (.int .i64 0)).set_ 1 (.slice none 0 0)).cell 0
                            have hd1 := ((hbr.set_ 0 (.int .i64 0)).set_ 1 (.slice none 0 0)).cell 1
                            simp at r0 r1 hd0 hd1
                            have HBEL := Lib.hid hbel
                            clear hpm hbr hbel
                            repeat' (first | go_values | go_skip | go_guarded | go_step | go_upon | (simp only [Int.not_lt, Int.not_le] at *; go_simp) | (go_values <;> (try go_simp)) | (go_ite <;> go_prune <;> (try go_simp)) | (split <;> (first | (rename_i hx; exact (hx _ rfl).elim) | go_prune)))
                            (try simp only [Exit.inBlock, Exit.then])
                            refine bodyPost_ret (results_cell2 rfl rfl rfl rfl (load_form hd0 hd1)) rfl ?_
                            rw [HB.out]
                            exact ⟨rfl, (HBEL.out.setCell (by simp) _).setCell (by simp) _⟩
                          · have HTI := Lib.hid (item_add (n := g) HM'.out (by omega) (by rw [HSAME.out.2.2]; omega) (by have := HNL.out; omega))
                            have hf2 : nl < 1000000 := by omega
                            clear hf hnl1
                            have hoo := HPM.out.2.2.2.2.2.2.2.1
                            have HOO := Lib.hid hoo
                            clear hoo
                            go_wp2_with (at_builtin; refine wpList_append1 _ rfl _ _ 45 rfl mid 3 i0' (.int .i64 0) 8 Tryz.underlying45 hi' hz0' hz1' hz2' rfl _ _ _ rfl (HOO.out.alloc _) (.int .i64 g) w3.heap.size rfl (by go_cell) rfl (by unfold maxLen; omega) (by omega) (by simp; omega) ?_)
                            intro v' w5 hown5 hg5 _
                            obtain ⟨A5, c5, hv5, -⟩ := own_slice hown5
                            subst hv5
                            have HPN := Lib.hid (HPM.out.add g hown5 hg5)
                            clear hown5 hg5 f0 f1
                            go_wp2
                            go_roundg (W.length - j)
                            case measure => omega
                            case rel => exact ⟨j + 1, { r' with opn := r'.opn ++ [g] }, A5, c5, by omega, by omega, by go_num, by rw [lits_add]; exact congrArg _ (by have := HNL.out; omega), by simp, ⟨_, _, _, _, HPN.out⟩, Lib.hid (by rw [HBD.out]; exact body_ok HIS.out HTI.out), Lib.hid ⟨HSAME.out.1, HSAME.out.2.1, HSAME.out.2.2⟩, by rw [lits_add]; have := HNL.out; omega, by rw [size_add]; omega⟩
              · obtain rfl : j = W.length := by omega
                have hbody := HBODY.out
                rw [List.drop_eq_nil_of_le (Nat.le_refl _)] at hbody
                have hcr : clOf r' = r.stated := by unfold clOf; rw [HSAME.out.1]; exact HSAME.out.2.1
                have HG := Lib.hid (HGOOD.out r' HSK2.out (by rw [HTB.out, hbody]; rfl) hwl (fun _ => ⟨by rw [HSAME.out.2.1]; exact hst0, by rw [HSAME.out.2.2]; exact hvr0⟩))
                clear hbody
                go_wp2
                go_roundg (L.length - k)
                case measure => omega
                case rel => exact ⟨k + 1, r', A3, c3, by omega, by omega, by go_num, by rw [hcr], by rw [HNL.out], rfl, HPi.out, HG.out, HLT.out⟩
    · obtain rfl : k = L.length := by omega
      have hpe : parseOf s = if endErr r = 0 then .ok r.vars r.cls else .bad L.length (endErr r) := by rw [HR.out.eq, List.drop_eq_nil_of_le (Nat.le_refl _)]; rfl
      have hpos := HR.out.pos
      clear HLM HSR
      rcases hbg : r.begun with _ | _
      · have hcl : clOf r = -1 := by unfold clOf; rw [hbg]; rfl
        have hee : endErr r = 2 := by unfold endErr; rw [hbg]; rfl
        rw [hcl]
        clear hcl
        have HB := Lib.hid (show parseOf s = .bad L.length 2 from by rw [hpe, if_neg (by rw [hee]; decide), hee])
        clear hpe hee
        obtain ⟨_, _, _, _, hpm⟩ := HP.out
        have hbr := hpm.2.1
        have hbel := hpm.2.2.2.2.2.2.2.2.1
        have r0 := hbr.cell 0
        have r1 := hbr.cell 1
        have rf := hbr.frozen
        have hd0 := ((hbr.set_ 0 (.int .i64 0)).set_ 1 (.slice none 0 0)).cell 0
        have hd1 := ((hbr.set_ 0 (.int .i64 0)).set_ 1 (.slice none 0 0)).cell 1
        simp at r0 r1 hd0 hd1
        have HBEL := Lib.hid hbel
        clear hpm hbr hbel
        repeat' (first | go_values | go_skip | go_guarded | go_step | go_upon | (simp only [Int.not_lt, Int.not_le] at *; go_simp) | (go_values <;> (try go_simp)) | (go_ite <;> go_prune <;> (try go_simp)) | (split <;> (first | (rename_i hx; exact (hx _ rfl).elim) | go_prune)))
        (try simp only [Exit.inBlock, Exit.then])
        refine bodyPost_ret (results_cell2 rfl rfl rfl rfl (load_form hd0 hd1)) rfl ?_
        rw [HB.out]
        exact ⟨rfl, (HBEL.out.setCell (by simp) _).setCell (by simp) _⟩
      · have hcl : clOf r = r.stated := by unfold clOf; rw [hbg]; rfl
        obtain ⟨hst0, hvr0⟩ := hpos hbg
        rw [hcl]
        clear hcl hpos
        by_cases ho : 0 < r.opn.length
        · have hee : endErr r = 7 := by unfold endErr; rw [hbg, if_neg (by decide), if_pos ho]
          have HB := Lib.hid (show parseOf s = .bad L.length 7 from by rw [hpe, if_neg (by rw [hee]; decide), hee])
          clear hpe hee
          obtain ⟨_, _, _, _, hpm⟩ := HP.out
          have hbr := hpm.2.1
          have hbel := hpm.2.2.2.2.2.2.2.2.1
          have r0 := hbr.cell 0
          have r1 := hbr.cell 1
          have rf := hbr.frozen
          have hd0 := ((hbr.set_ 0 (.int .i64 0)).set_ 1 (.slice none 0 0)).cell 0
          have hd1 := ((hbr.set_ 0 (.int .i64 0)).set_ 1 (.slice none 0 0)).cell 1
          simp at r0 r1 hd0 hd1
          have HBEL := Lib.hid hbel
          clear hpm hbr hbel
          repeat' (first | go_values | go_skip | go_guarded | go_step | go_upon | (simp only [Int.not_lt, Int.not_le] at *; go_simp) | (go_values <;> (try go_simp)) | (go_ite <;> go_prune <;> (try go_simp)) | (split <;> (first | (rename_i hx; exact (hx _ rfl).elim) | go_prune)))
          (try simp only [Exit.inBlock, Exit.then])
          refine bodyPost_ret (results_cell2 rfl rfl rfl rfl (load_form hd0 hd1)) rfl ?_
          rw [HB.out]
          exact ⟨rfl, (HBEL.out.setCell (by simp) _).setCell (by simp) _⟩
        · by_cases hc : (r.cls.length : Int) < r.stated
          · have hee : endErr r = 6 := by unfold endErr; rw [hbg, if_neg (by decide), if_neg ho, if_pos hc]
            obtain ⟨Af, cf, vs, mid, hpn⟩ := HP.out
            have f0 := hpn.1.cell 0
            have f1 := hpn.1.cell 1
            simp at f0 f1
            have HPN := Lib.hid hpn
            clear hpn
            have HB := Lib.hid (show parseOf s = .bad L.length 6 from by rw [hpe, if_neg (by rw [hee]; decide), hee])
            clear hpe hee
            obtain ⟨_, _, _, _, hpm⟩ := HP.out
            have hbr := hpm.2.1
            have hbel := hpm.2.2.2.2.2.2.2.2.1
            have r0 := hbr.cell 0
            have r1 := hbr.cell 1
            have rf := hbr.frozen
            have hd0 := ((hbr.set_ 0 (.int .i64 0)).set_ 1 (.slice none 0 0)).cell 0
            have hd1 := ((hbr.set_ 0 (.int .i64 0)).set_ 1 (.slice none 0 0)).cell 1
            simp at r0 r1 hd0 hd1
            have HBEL := Lib.hid hbel
            clear hpm hbr hbel
            repeat' (first | go_values | go_skip | go_guarded | go_step | go_upon | (simp only [Int.not_lt, Int.not_le] at *; go_simp) | (go_values <;> (try go_simp)) | (go_ite <;> go_prune <;> (try go_simp)) | (split <;> (first | (rename_i hx; exact (hx _ rfl).elim) | go_prune)))
            (try simp only [Exit.inBlock, Exit.then])
            refine bodyPost_ret (results_cell2 rfl rfl rfl rfl (load_form hd0 hd1)) rfl ?_
            rw [HB.out]
            exact ⟨rfl, (HBEL.out.setCell (by simp) _).setCell (by simp) _⟩
          · have hee : endErr r = 0 := by unfold endErr; rw [hbg, if_neg (by decide), if_neg ho, if_neg hc]
            have HB := Lib.hid (show parseOf s = .ok r.vars r.cls from by rw [hpe, if_pos hee])
            clear hpe hee
            obtain ⟨Af, cf, vs, mid, hpn⟩ := HP.out
            have f0 := hpn.1.cell 0
            have f1 := hpn.1.cell 1
            simp at f0 f1
            have HPN := Lib.hid hpn
            clear hpn
            have hbr := HPN.out.2.1
            have r0 := hbr.cell 0
            have r1 := hbr.cell 1
            have rf := hbr.frozen
            have hd0 := ((hbr.set_ 0 (.int .i64 r.vars)).set_ 1 (.slice Af r.cls.length cf)).cell 0
            have hd1 := ((hbr.set_ 0 (.int .i64 r.vars)).set_ 1 (.slice Af r.cls.length cf)).cell 1
            simp at r0 r1 hd0 hd1
            have HBR := Lib.hid hbr
            clear hbr
            repeat' (first | go_values | go_skip | go_guarded | go_step | go_upon | (simp only [Int.not_lt, Int.not_le] at *; go_simp) | (go_values <;> (try go_simp)) | (go_ite <;> go_prune <;> (try go_simp)) | (split <;> (first | (rename_i hx; exact (hx _ rfl).elim) | go_prune)))
            (try simp only [Exit.inBlock, Exit.then])
            refine bodyPost_ret (results_cell2 rfl rfl rfl rfl (load_form hd0 hd1)) rfl ?_
            rw [HB.out]
            have hro := HPN.out.2.2.2.1.rows HPN.out.2.2.1
            have hkeep : ∀ p : Addr, w.heap.size + 2 ≤ p.block → ((wo.setCell ⟨w.heap.size, 0, none⟩ (.int .i64 r.vars)).setCell ⟨w.heap.size, 1, none⟩ (.slice Af r.cls.length cf)).cell? p = wo.cell? p := fun p hp => by
              rw [World.cell?_setCell_other _ _ _ _ (by intro e; rw [← e] at hp; simp at hp; omega), World.cell?_setCell_other _ _ _ _ (by intro e; rw [← e] at hp; simp at hp; omega)]
            have hne := own_blk_ne HPN.out.2.2.1 HBR.out (by decide)
            have how1 := own_setCell HPN.out.2.2.1 (p := ⟨w.heap.size, 0, none⟩) (.int .i64 r.vars) hne
            have how2 := own_setCell how1 (p := ⟨w.heap.size, 1, none⟩) (.slice Af r.cls.length cf) hne
            have hli1 := HPN.out.2.2.2.1.kept (grown_setCell wo ⟨w.heap.size, 0, none⟩ (.int .i64 r.vars)) (HPN.out.2.2.2.1.ne_blk HBR.out (by decide))
            have hli2 := hli1.kept (grown_setCell _ ⟨w.heap.size, 1, none⟩ (.slice Af r.cls.length cf)) (hli1.ne_blk (HBR.out.set_ 0 (.int .i64 r.vars)) (by decide))
            exact ⟨Af, cf, rfl, hli2.rows how2, (HPN.out.2.2.2.2.2.2.2.2.1.setCell (by simp) _).setCell (by simp) _⟩
end Go.Proofs.YtnjcegjcaaplgaaGreatDoor
