/- What the sixth layer's statements themselves reckon: whether steps are a proof, a proof's text. -/
import Derived.Test.YtdehlikmefpgnaaDoorDrat11
import Derived.Test.YtdehlikmefpgnaaDoorDrat7
namespace Go.Proofs.YtdehlikmefpgnaaDoor
open Go.RowKit
set_option linter.unusedSimpArgs false
set_option linter.unusedVariables false
set_option linter.unnecessarySimpa false

theorem take_right {ps : List Stp} {k : Nat} (hk : k < ps.length) (h : ∀ s ∈ ps.take k, stpRight s = true) (hb : stpRight (ps.getD k stp0) = true) : ∀ s ∈ ps.take (k + 1), stpRight s = true := by
  rw [List.take_succ_eq_append_getElem hk]
  intro y hy
  rcases List.mem_append.1 hy with hy | hy
  · exact h y hy
  · rw [List.mem_singleton.1 hy]
    simpa [List.getD, hk] using hb
theorem take_lits {xs : List Int} {k : Nat} (hk : k < xs.length) (h : ∀ s ∈ xs.take k, isLit s = true) (hb : isLit (xs.getD k 0) = true) : ∀ s ∈ xs.take (k + 1), isLit s = true := by
  rw [List.take_succ_eq_append_getElem hk]
  intro y hy
  rcases List.mem_append.1 hy with hy | hy
  · exact h y hy
  · rw [List.mem_singleton.1 hy]
    simpa [List.getD, hk] using hb
theorem bad_lit {xs : List Int} {k : Nat} (hk : k < xs.length) (hb : isLit (xs.getD k 0) = false) : xs.all isLit = false := by
  rw [Bool.eq_false_iff]
  intro h
  have := List.all_eq_true.1 h _ (getD_mem hk)
  rw [this] at hb; cases hb
theorem bad_stp {ps : List Stp} {k : Nat} (hk : k < ps.length) (hb : stpRight (ps.getD k stp0) = false) : stpsRight ps = false := by
  rw [Bool.eq_false_iff]
  intro h
  have hm : ps.getD k stp0 ∈ ps := by simp only [List.getD, List.getElem?_eq_getElem hk, Option.getD_some]; exact List.getElem_mem hk
  have := stpsRight_mem h _ hm
  rw [this] at hb; cases hb

set_option maxRecDepth 100000 in
set_option maxHeartbeats 4000000 in
theorem right6_any (ps : List Stp) (B c : Nat) (A : Option Addr) (w : World) (h : Steps w B A ps) (hB : B ≤ w.heap.size) (hx : WideSteps ps) :
    Calls Tryd.prog 21 #[.slice A ps.length c] w fun e w' => e = .returned (.bool (stpsRight ps)) ∧ Below w.heap.size w w' := by
  have H := Lib.hid h
  have hpl := hx.1
  have HX := Lib.hid hx.2
  clear h hx
  go_enter Tryd.func21, Tryd.ntmps21
  go_wp2
  go_loopg [9] (ps.length + 1) (fun gk i wr => ∃ k : Nat, k ≤ ps.length ∧ gk = ps.length - k + 1 ∧ i = .int .i64 k ∧ Below w.heap.size w wr ∧ ∀ s ∈ ps.take k, stpRight s = true)
  case atStart => exact ⟨0, by omega, by omega, rfl, Below.refl _ _, by simp⟩
  case round =>
    obtain ⟨k, hk, rfl, rfl, hb, hs⟩ := hrel
    obtain ⟨wo, rfl⟩ : ∃ wo : World, wo = wr := ⟨_, rfl⟩
    have HBk := Lib.hid hb
    have HS := Lib.hid hs
    have hso := hb.size
    clear hb hs
    by_cases hlt : k < ps.length
    · obtain ⟨b, off, Ak, ck, rfl, hbB, hd, hcell, hint⟩ := (H.out.below (HBk.out.mono hB)).at_ hlt
      have hxk := HX.out k
      have hbad := bad_stp hlt
      have hnext := take_right hlt HS.out
      obtain ⟨⟨d, ls⟩, hs⟩ : ∃ s, s = ps.getD k stp0 := ⟨_, rfl⟩
      rw [← hs] at hd hcell hint hxk hbad hnext
      clear hs
      simp only at hd hcell hint hxk
      have hll := hxk.1
      have HXK := Lib.hid hxk.2
      have HBAD := Lib.hid hbad
      have HNEXT := Lib.hid hnext
      have HIN := Lib.hid (Cells.alloc hint (by omega) (.cells #[.bool d, .slice Ak ls.length ck] 42))
      have hb2 := HBk.out.alloc (by omega) (.cells #[.bool d, .slice Ak ls.length ck] 42)
      have HB2 := Lib.hid hb2
      clear hxk hbad hnext hint hb2
      go_wp2
      clear hd hcell
      go_loopg [16] (ls.length + 1) (fun gk i wr => ∃ j : Nat, j ≤ ls.length ∧ gk = ls.length - j + 1 ∧ i = .int .i64 j ∧ wr = wo.alloc (.cells #[.bool d, .slice Ak ls.length ck] 42) ∧ ∀ l ∈ ls.take j, isLit l = true)
      case atStart => exact ⟨0, by omega, by omega, rfl, rfl, by simp⟩
      case round =>
        obtain ⟨j, hj, rfl, rfl, rfl, hs⟩ := hrel
        have HSJ := Lib.hid hs
        clear hs
        by_cases hlj : j < ls.length
        · obtain ⟨b2, off2, rfl, hb2, hcj⟩ := HIN.out.at_ hlj
          obtain ⟨hb1, hb3⟩ := HXK.out j
          have hbl := bad_lit hlj
          have hnl := take_lits hlj HSJ.out
          obtain ⟨l, hl⟩ : ∃ l, l = ls.getD j 0 := ⟨_, rfl⟩
          rw [← hl] at hcj hb1 hb3 hbl hnl
          clear hl
          have HBL := Lib.hid hbl
          have HNL := Lib.hid hnl
          clear hbl hnl
          have stop : isLit l = false → stpsRight ps = false := fun h => HBAD.out (HBL.out h)
          have ISL := Lib.hid (isLit_iff (l := l))
          have STOP := Lib.hid stop
          clear stop
          by_cases h0 : l = 0
          · subst h0
            have hf := STOP.out (by rfl)
            have HF := Lib.hid hf
            clear hf
            go_wp2
            go_ret
            exact ⟨ret_bool HF.out.symm, HB2.out⟩
          · by_cases h1 : 100000 < l
            · have hf := STOP.out (by rw [Bool.eq_false_iff]; intro h; have := (ISL.out.1 h).2.2; omega)
              have HF := Lib.hid hf
              clear hf
              go_wp2
              go_ret
              exact ⟨ret_bool HF.out.symm, HB2.out⟩
            · by_cases h2 : l < -100000
              · have hf := STOP.out (by rw [Bool.eq_false_iff]; intro h; have := (ISL.out.1 h).2.1; omega)
                have HF := Lib.hid hf
                clear hf
                go_wp2
                go_ret
                exact ⟨ret_bool HF.out.symm, HB2.out⟩
              · have HL := Lib.hid (show isLit l = true from ISL.out.2 ⟨h0, by omega, by omega⟩)
                have h0' : (l == 0) = false := by simpa using h0
                clear h0
                go_wp2
                go_roundg (ls.length - j)
                case measure => omega
                case rel => exact ⟨j + 1, by omega, by omega, by go_num, rfl, HNL.out HL.out⟩
        · have htk : ls.take j = ls := List.take_of_length_le (by omega)
          have hall := HSJ.out
          rw [htk] at hall
          have HALL := Lib.hid hall
          clear htk hall
          go_wp2
          go_roundg (ps.length - k)
          case measure => omega
          case rel => exact ⟨k + 1, by omega, by omega, by go_num, HB2.out, HNEXT.out (List.all_eq_true.2 HALL.out)⟩
    · have htk : ps.take k = ps := List.take_of_length_le (by omega)
      have hf : stpsRight ps = true := by have := HS.out; rw [htk] at this; exact List.all_eq_true.2 this
      have HF := Lib.hid hf
      clear htk hf
      go_wp2
      go_ret
      exact ⟨ret_bool HF.out.symm, HBk.out⟩

theorem add_str {P : Program} (a b c : List UInt8) (h : c = a ++ b) (ha : a.length ≤ 8000000) (hb : b.length ≤ 8000000) : ∀ w, (Op.stringOp .add ⟨a.toArray⟩ ⟨b.toArray⟩).run P w = .ok (.string ⟨c.toArray⟩) w :=
  fun w => by rw [h]; exact run_string_add_lists w a b (by omega) (by omega)

set_option maxRecDepth 100000 in
set_option maxHeartbeats 4000000 in
theorem text6_any (ps : List Stp) (m : Int) (B c : Nat) (A : Option Addr) (w : World) (h : Steps w B A ps) (hB : B ≤ w.heap.size) (hr : stpsRight ps = true) (hE : EnvN m w) (hlen : (txtOf ps).length ≤ 100000) :
    Calls Tryd.prog 17 #[.slice A ps.length c] w fun e w' => e = .returned (.string ⟨(txtOf ps).toArray⟩) ∧ Below w.heap.size w w' := by
  have H := Lib.hid h
  have HE := Lib.hid hE
  have HR := Lib.hid hr
  have hpl : ps.length ≤ 100000 := by have := (txt_lens (ps := ps)).1; omega
  have HL := Lib.hid (show ∀ j, (ps.getD j stp0).2.length ≤ 100000 from fun j => by have := (txt_lens (ps := ps)).2 j; omega)
  have HT := Lib.hid (show ∀ k, (txtOf (ps.take k)).length ≤ 100000 from fun k => by have := txt_take_le ps k; omega)
  have HW := Lib.hid (show ∀ k j, k < ps.length → (wrds ((ps.getD k stp0).2.take j)).length ≤ 100000 from fun k j hk => by
    have h1 := wrds_take_le (ps.getD k stp0).2 j
    have h2 := wrds_le hk
    omega)
  clear h hE hr hlen
  go_enter Tryd.func17, Tryd.ntmps17
  go_wp2
  go_loopg [3, 10] (ps.length + 1) (fun gk s i wr => ∃ k : Nat, k ≤ ps.length ∧ gk = ps.length - k + 1 ∧ i = .int .i64 k ∧ s = .string ⟨(txtOf (ps.take k)).toArray⟩ ∧ Below w.heap.size w wr)
  case atStart => exact ⟨0, by omega, by omega, rfl, rfl, Below.refl _ _⟩
  case round =>
    obtain ⟨k, hk, rfl, rfl, rfl, hb⟩ := hrel
    obtain ⟨wo, rfl⟩ : ∃ wo : World, wo = wr := ⟨_, rfl⟩
    have HBk := Lib.hid hb
    have hso := hb.size
    clear hb
    by_cases hlt : k < ps.length
    · obtain ⟨b, off, Ak, ck, rfl, hbB, hd, hcell, hint⟩ := (H.out.below (HBk.out.mono hB)).at_ hlt
      have hxl := HL.out k
      have htk := txtOf_take hlt
      have hlk := HT.out k
      have hwk := fun j => HW.out k j hlt
      have hrk := fun j hj => right_getD HR.out k j hlt hj
      obtain ⟨⟨d, ls⟩, hs⟩ : ∃ s, s = ps.getD k stp0 := ⟨_, rfl⟩
      rw [← hs] at hd hcell hint hxl htk hwk hrk
      clear hs
      simp only at hd hcell hint hxl hwk hrk
      have htk2 : txtOf (ps.take (k + 1)) = ((txtOf (ps.take k) ++ delTxt d) ++ wrds ls) ++ [48, 10] := by rw [htk]; simp [stpTxt, stpLine]
      generalize txtOf (ps.take k) = ta at htk2 hlk
      have HTK := Lib.hid htk2
      have HWK := Lib.hid hwk
      have HRK := Lib.hid hrk
      have hb2 := HBk.out.alloc (by omega) (.cells #[.bool d, .slice Ak ls.length ck] 42)
      have HB2 := Lib.hid hb2
      have HIN := Lib.hid (Cells.alloc hint (by omega) (.cells #[.bool d, .slice Ak ls.length ck] 42))
      clear htk htk2 hwk hrk hint hb2
      cases d with
      | true =>
        have q0 := add_str (P := Tryd.prog) ta [100, 32] (ta ++ delTxt true) rfl (by omega) (by decide)
        go_wp2
        obtain ⟨w5, hw5⟩ : ∃ w5, w5 = wo.alloc (.cells #[.bool true, .slice Ak ls.length ck] 42) := ⟨_, rfl⟩
        rw [← hw5] at HB2 HIN ⊢
        clear hw5 hd hcell
        clear q0
        have hdl : (delTxt true).length ≤ 2 := by decide
        generalize hta2 : ta ++ delTxt true = ta2 at HTK
        have hl2 : ta2.length ≤ 100002 := by rw [← hta2, List.length_append]; omega
        clear hta2 hdl
        go_loopg [3, 21] (ls.length + 1) (fun gk s i wr => ∃ j : Nat, j ≤ ls.length ∧ gk = ls.length - j + 1 ∧ i = .int .i64 j ∧ s = .string ⟨(ta2 ++ wrds (ls.take j)).toArray⟩ ∧ Below w.heap.size w wr ∧ Below w5.heap.size w5 wr)
        case atStart => exact ⟨0, by omega, by omega, rfl, by simp [wrds], HB2.out, Below.refl _ _⟩
        case round =>
          obtain ⟨j, hj, rfl, rfl, rfl, hbb, hb5⟩ := hrel
          obtain ⟨wi, rfl⟩ : ∃ wi : World, wi = wr := ⟨_, rfl⟩
          have HBBj := Lib.hid hbb
          have HB5j := Lib.hid hb5
          have hrj := HWK.out j
          have hsi := hbb.size
          clear hbb hb5
          by_cases hlj : j < ls.length
          · obtain ⟨b2, off2, rfl, hb2, hcj1⟩ := HIN.out.at_ hlj
            have hcj := (HB5j.out.cell (p := ⟨b2, off2 + j, none⟩) (by have := HB2.out.size; simp; omega)).trans hcj1
            have hlit := HRK.out j hlj
            have hlt1 := wrds_take hlj
            obtain ⟨l, hl⟩ : ∃ l, l = ls.getD j 0 := ⟨_, rfl⟩
            rw [← hl] at hcj hlt1 hlit
            rw [isLit_iff] at hlit
            have hi7 := itoa_len6 hlit.2.1 hlit.2.2
            have IT := Lib.hid (itoa_any l wi (by omega) (by omega) (HE.out.same HBBj.out).env.tab)
            unfold wrd at hlt1
            generalize Lib.itoa l = il at hlt1 hi7 IT
            have HLT1 := Lib.hid hlt1
            have q1 := add_str (P := Tryd.prog) il [32] (il ++ [32]) rfl (by omega) (by decide)
            have q2 := add_str (P := Tryd.prog) (ta2 ++ wrds (ls.take j)) (il ++ [32]) (ta2 ++ wrds (ls.take (j + 1))) (by rw [hlt1]; simp) (by rw [List.length_append]; omega) (by rw [List.length_append]; simp; omega)
            generalize il ++ [32] = il2 at q1 q2
            generalize ta2 ++ wrds (ls.take j) = tb at q2
            clear hl hlt1 hcj1 hlit
            go_wp2_with fail
            refine IT.out.mono ?_
            rintro e w6 ⟨rfl, hb6⟩
            have HB6 := Lib.hid (HBBj.out.trans (hb6.mono (by omega)))
            have HB56 := Lib.hid (HB5j.out.trans (hb6.mono HB5j.out.size))
            clear hb6 hcj
            go_wp2
            go_roundg (ls.length - j)
            case measure => omega
            case rel => exact ⟨j + 1, by omega, by omega, by go_num, rfl, HB6.out, HB56.out⟩
          · have htkj : ls.take j = ls := List.take_of_length_le (by omega)
            rw [htkj] at hrj ⊢
            have q3 := add_str (P := Tryd.prog) (ta2 ++ wrds ls) [48, 10] ((ta2 ++ wrds ls) ++ [48, 10]) rfl (by rw [List.length_append]; omega) (by decide)
            have htb := HTK.out
            generalize (ta2 ++ wrds ls) ++ [48, 10] = tc at q3 htb
            generalize ta2 ++ wrds ls = tb at q3
            have HTB := Lib.hid htb
            clear htkj hrj htb
            go_wp2
            go_roundg (ps.length - k)
            case measure => omega
            case rel => exact ⟨k + 1, by omega, by omega, by go_num, by rw [HTB.out], HBBj.out⟩
      | false =>
        go_wp2
        obtain ⟨w5, hw5⟩ : ∃ w5, w5 = wo.alloc (.cells #[.bool false, .slice Ak ls.length ck] 42) := ⟨_, rfl⟩
        rw [← hw5] at HB2 HIN ⊢
        clear hw5 hd hcell
        have hdl : (delTxt false).length ≤ 2 := by decide
        generalize hta2 : ta ++ delTxt false = ta2 at HTK
        have hl2 : ta2.length ≤ 100002 := by rw [← hta2, List.length_append]; omega
        have HT3 := Lib.hid (show ta2 = ta from by rw [← hta2]; simp [delTxt])
        clear hta2 hdl
        go_loopg [3, 21] (ls.length + 1) (fun gk s i wr => ∃ j : Nat, j ≤ ls.length ∧ gk = ls.length - j + 1 ∧ i = .int .i64 j ∧ s = .string ⟨(ta2 ++ wrds (ls.take j)).toArray⟩ ∧ Below w.heap.size w wr ∧ Below w5.heap.size w5 wr)
        case atStart => exact ⟨0, by omega, by omega, rfl, by rw [HT3.out]; simp [wrds], HB2.out, Below.refl _ _⟩
        case round =>
          obtain ⟨j, hj, rfl, rfl, rfl, hbb, hb5⟩ := hrel
          obtain ⟨wi, rfl⟩ : ∃ wi : World, wi = wr := ⟨_, rfl⟩
          have HBBj := Lib.hid hbb
          have HB5j := Lib.hid hb5
          have hrj := HWK.out j
          have hsi := hbb.size
          clear hbb hb5
          by_cases hlj : j < ls.length
          · obtain ⟨b2, off2, rfl, hb2, hcj1⟩ := HIN.out.at_ hlj
            have hcj := (HB5j.out.cell (p := ⟨b2, off2 + j, none⟩) (by have := HB2.out.size; simp; omega)).trans hcj1
            have hlit := HRK.out j hlj
            have hlt1 := wrds_take hlj
            obtain ⟨l, hl⟩ : ∃ l, l = ls.getD j 0 := ⟨_, rfl⟩
            rw [← hl] at hcj hlt1 hlit
            rw [isLit_iff] at hlit
            have hi7 := itoa_len6 hlit.2.1 hlit.2.2
            have IT := Lib.hid (itoa_any l wi (by omega) (by omega) (HE.out.same HBBj.out).env.tab)
            unfold wrd at hlt1
            generalize Lib.itoa l = il at hlt1 hi7 IT
            have HLT1 := Lib.hid hlt1
            have q1 := add_str (P := Tryd.prog) il [32] (il ++ [32]) rfl (by omega) (by decide)
            have q2 := add_str (P := Tryd.prog) (ta2 ++ wrds (ls.take j)) (il ++ [32]) (ta2 ++ wrds (ls.take (j + 1))) (by rw [hlt1]; simp) (by rw [List.length_append]; omega) (by rw [List.length_append]; simp; omega)
            generalize il ++ [32] = il2 at q1 q2
            generalize ta2 ++ wrds (ls.take j) = tb at q2
            clear hl hlt1 hcj1 hlit
            go_wp2_with fail
            refine IT.out.mono ?_
            rintro e w6 ⟨rfl, hb6⟩
            have HB6 := Lib.hid (HBBj.out.trans (hb6.mono (by omega)))
            have HB56 := Lib.hid (HB5j.out.trans (hb6.mono HB5j.out.size))
            clear hb6 hcj
            go_wp2
            go_roundg (ls.length - j)
            case measure => omega
            case rel => exact ⟨j + 1, by omega, by omega, by go_num, rfl, HB6.out, HB56.out⟩
          · have htkj : ls.take j = ls := List.take_of_length_le (by omega)
            rw [htkj] at hrj ⊢
            have q3 := add_str (P := Tryd.prog) (ta2 ++ wrds ls) [48, 10] ((ta2 ++ wrds ls) ++ [48, 10]) rfl (by rw [List.length_append]; omega) (by decide)
            have htb := HTK.out
            generalize (ta2 ++ wrds ls) ++ [48, 10] = tc at q3 htb
            generalize ta2 ++ wrds ls = tb at q3
            have HTB := Lib.hid htb
            clear htkj hrj htb
            go_wp2
            go_roundg (ps.length - k)
            case measure => omega
            case rel => exact ⟨k + 1, by omega, by omega, by go_num, by rw [HTB.out], HBBj.out⟩
    · have htk : ps.take k = ps := List.take_of_length_le (by omega)
      rw [htk]
      clear htk
      go_wp2
      go_ret
      exact ⟨rfl, HBk.out⟩
end Go.Proofs.YtdehlikmefpgnaaDoor
