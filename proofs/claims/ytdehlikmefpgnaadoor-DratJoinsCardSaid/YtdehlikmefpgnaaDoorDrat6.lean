/- Whether steps are a proof. -/
import Derived.Test.YtdehlikmefpgnaaDoorDrat5
import Derived.Laws.EntriesVeiled
namespace Go.Proofs.YtdehlikmefpgnaaDoor
open Go.RowKit
set_option linter.unusedSimpArgs false
set_option linter.unusedVariables false

/-- numbers that an int can be -/
def WideInts (xs : List Int) : Prop := xs.length ≤ 1099511627776 ∧ ∀ k, -9223372036854775808 ≤ xs.getD k 0 ∧ xs.getD k 0 ≤ 9223372036854775807
/-- the first that is no literal -/
def badIdx (xs : List Int) : Int := if xs.all isLit then -1 else (xs.findIdx fun l => !isLit l : Nat)
theorem badIdx_hit {xs : List Int} {k : Nat} (hk : k < xs.length) (h : ∀ l ∈ xs.take k, isLit l = true) (hb : isLit (xs.getD k 0) = false) : badIdx xs = k := by
  have e : xs.getD k 0 = xs[k] := by simp only [List.getD, List.getElem?_eq_getElem hk, Option.getD_some]
  rw [e] at hb
  have ha : xs.all isLit = false := by
    rw [Bool.eq_false_iff]; intro h2
    rw [List.all_eq_true.1 h2 _ (List.getElem_mem hk)] at hb; cases hb
  unfold badIdx
  rw [ha]
  simp only [Bool.false_eq_true, if_false]
  congr 1
  rw [List.findIdx_eq hk]
  refine ⟨by rw [hb]; rfl, fun j hj => ?_⟩
  have := h xs[j] (by rw [List.mem_take_iff_getElem]; exact ⟨j, by omega, rfl⟩)
  rw [this]; rfl
theorem badIdx_none {xs : List Int} (h : ∀ l ∈ xs, isLit l = true) : badIdx xs = -1 := by
  unfold badIdx; rw [if_pos (List.all_eq_true.2 h)]
theorem badIdx_ge (xs : List Int) : decide (0 ≤ badIdx xs) = !xs.all isLit := by
  unfold badIdx
  by_cases h : xs.all isLit
  · rw [if_pos h, h]; rfl
  · rw [if_neg h]; simp at h ⊢; exact h
theorem badIdx_bd (xs : List Int) (h : xs.length ≤ 1099511627776) : -1 ≤ badIdx xs ∧ badIdx xs ≤ 1099511627776 := by
  unfold badIdx
  split
  · omega
  · have := List.findIdx_le_length (p := fun l => !isLit l) (xs := xs); omega

theorem lam1_any (l : Int) (w : World) (h1 : -9223372036854775808 ≤ l) (h2 : l ≤ 9223372036854775807) :
    Calls Tryd.prog 36 #[.int .i64 l] w fun e w' => e = .returned (.bool (!isLit l)) ∧ w = w' := by
  have R := Lib.hid (isLiteral_any l w h1 h2)
  clear h1 h2
  rcases hl : isLit l with _ | _
  all_goals
    rw [hl] at R
    clear hl
    go_enter Tryd.func36, Tryd.ntmps36
    go_wp2_with (go_at_call 37; refine R.out.mono ?_; rintro e w' ⟨rfl, rfl⟩)
    go_ret
    exact ⟨rfl, rfl⟩

set_option maxRecDepth 100000 in
theorem indexInt_any (xs : List Int) (B c : Nat) (A : Option Addr) (w : World) (h : Ints w B A xs) (hx : WideInts xs) :
    Calls Tryd.prog 52 #[.slice A xs.length c, .func (.func 36) #[] #[]] w fun e w' => e = .returned (.int .i64 (badIdx xs)) ∧ w = w' := by
  have H := Lib.hid h
  have hl := hx.1
  have HX := Lib.hid hx.2
  clear h hx
  go_enter Tryd.func52, Tryd.ntmps52
  go_wp2
  go_loopg [8] (xs.length + 1) (fun g i w' => ∃ k : Nat, w = w' ∧ k ≤ xs.length ∧ g = xs.length - k + 1 ∧ i = .int .i64 k ∧ ∀ l ∈ xs.take k, isLit l = true)
  case atStart => exact ⟨0, rfl, by omega, by omega, rfl, by simp⟩
  case round =>
    obtain ⟨k, rfl, hk, rfl, rfl, hs⟩ := hrel
    have HS := Lib.hid hs
    clear hs
    by_cases hlt : k < xs.length
    · obtain ⟨b, off, rfl, _, hcell⟩ := H.out.at_ hlt
      obtain ⟨hb1, hb2⟩ := HX.out k
      have hhit := fun h => badIdx_hit hlt HS.out h
      have htk : xs.take (k + 1) = xs.take k ++ [xs.getD k 0] := by rw [List.take_succ_eq_append_getElem hlt]; simp [List.getD, hlt]
      obtain ⟨l, hl'⟩ : ∃ l, l = xs.getD k 0 := ⟨_, rfl⟩
      rw [← hl'] at hcell hb1 hb2 hhit htk
      clear hl'
      have HTK := Lib.hid htk
      have HH := Lib.hid hhit
      have LA := Lib.hid (lam1_any l w hb1 hb2)
      clear htk hhit
      rcases hlit : isLit l with _ | _
      · rw [hlit] at LA
        have HLIT := Lib.hid hlit
        clear hlit
        go_wp2_with (go_at_call 36; refine LA.out.mono ?_; rintro e w' ⟨rfl, rfl⟩)
        go_ret
        exact ⟨by rw [HH.out HLIT.out]; rfl, rfl⟩
      · rw [hlit] at LA
        have HLIT := Lib.hid hlit
        clear hlit
        go_wp2_with (go_at_call 36; refine LA.out.mono ?_; rintro e w' ⟨rfl, rfl⟩)
        go_roundg (xs.length - k)
        case measure => omega
        case rel =>
          refine ⟨k + 1, rfl, by omega, by omega, by go_num, ?_⟩
          rw [HTK.out]
          intro y hy
          rcases List.mem_append.1 hy with h | h
          · exact HS.out y h
          · rw [List.mem_singleton.1 h]; exact HLIT.out
    · have htk : xs.take k = xs := List.take_of_length_le (by omega)
      have HTK := Lib.hid htk
      clear htk
      go_wp2
      go_ret
      exact ⟨by rw [badIdx_none (by have := HS.out; rw [HTK.out] at this; exact this)]; rfl, rfl⟩

theorem containsInt_any (xs : List Int) (B c : Nat) (A : Option Addr) (w : World) (h : Ints w B A xs) (hx : WideInts xs) :
    Calls Tryd.prog 40 #[.slice A xs.length c, .func (.func 36) #[] #[]] w fun e w' => e = .returned (.bool (!xs.all isLit)) ∧ w = w' := by
  have IA := Lib.hid (indexInt_any xs B c A w h hx)
  have hge := badIdx_ge xs
  have hbd := badIdx_bd xs hx.1
  generalize badIdx xs = q at IA hge hbd
  clear h hx
  rcases hall : xs.all isLit with _ | _
  all_goals
    rw [hall] at hge
    clear hall
    go_enter Tryd.func40, Tryd.ntmps40
    go_wp2_with (go_at_call 52; refine IA.out.mono ?_; rintro e w' ⟨rfl, rfl⟩)
    go_ret
    exact ⟨rfl, rfl⟩

theorem lam2_any (d : Bool) (xs : List Int) (B c p : Nat) (A : Option Addr) (w : World) (h : Ints w B A xs) (hB : B ≤ w.heap.size) (hx : WideInts xs) (hp : w.cell? ⟨p, 0, none⟩ = some (.func (.func 36) #[] #[])) :
    Calls Tryd.prog 39 #[.agg #[.bool d, .slice A xs.length c], .pointer (some ⟨p, 0, none⟩)] w fun e w' => e = .returned (.bool (!xs.all isLit)) ∧ Below w.heap.size w w' := by
  have hlt := World.block_lt_of_cell? w _ hp
  have hlt' : p < w.heap.size := by simpa using hlt
  have hp2 : (w.alloc (.cells #[.bool d, .slice A xs.length c] 42)).cell? ⟨p, 0, none⟩ = some (.func (.func 36) #[] #[]) := (World.cell?_alloc_lt w _ ⟨p, 0, none⟩ (by simpa using hlt')).trans hp
  have CA := Lib.hid (containsInt_any xs B c A _ (Cells.alloc h hB (.cells #[.bool d, .slice A xs.length c] 42)) hx)
  generalize xs.all isLit = q at CA
  clear h hx hlt
  go_enter Tryd.func39, Tryd.ntmps39
  go_wp2_with (go_at_call 40; refine CA.out.mono ?_; rintro e w' ⟨rfl, rfl⟩)
  go_ret
  exact ⟨rfl, (Below.refl _ _).alloc (Nat.le_refl _) _⟩

/-- the first step that is none of a proof -/
def badStp (ps : List Stp) : Int := if ps.all stpRight then -1 else (ps.findIdx fun s => !stpRight s : Nat)
theorem badStp_hit {ps : List Stp} {k : Nat} (hk : k < ps.length) (h : ∀ l ∈ ps.take k, stpRight l = true) (hb : stpRight (ps.getD k stp0) = false) : badStp ps = k := by
  have e : ps.getD k stp0 = ps[k] := by simp only [List.getD, List.getElem?_eq_getElem hk, Option.getD_some]
  rw [e] at hb
  have ha : ps.all stpRight = false := by
    rw [Bool.eq_false_iff]; intro h2
    rw [List.all_eq_true.1 h2 _ (List.getElem_mem hk)] at hb; cases hb
  unfold badStp
  rw [ha]
  simp only [Bool.false_eq_true, if_false]
  congr 1
  rw [List.findIdx_eq hk]
  refine ⟨by rw [hb]; rfl, fun j hj => ?_⟩
  have := h ps[j] (by rw [List.mem_take_iff_getElem]; exact ⟨j, by omega, rfl⟩)
  rw [this]; rfl
theorem badStp_none {ps : List Stp} (h : ∀ l ∈ ps, stpRight l = true) : badStp ps = -1 := by
  unfold badStp; rw [if_pos (List.all_eq_true.2 h)]
theorem badStp_ge (ps : List Stp) : decide (0 ≤ badStp ps) = !stpsRight ps := by
  unfold badStp stpsRight
  rcases h : ps.all stpRight with _ | _
  · rw [if_neg (by decide)]; exact decide_eq_true (by omega)
  · rfl
theorem badStp_bd (ps : List Stp) (h : ps.length ≤ 1099511627776) : -1 ≤ badStp ps ∧ badStp ps ≤ 1099511627776 := by
  unfold badStp
  split
  · omega
  · have := List.findIdx_le_length (p := fun l => !stpRight l) (xs := ps); omega

/-- steps whose numbers an int can be -/
def WideSteps (ps : List Stp) : Prop := ps.length ≤ 1099511627776 ∧ ∀ k, WideInts (ps.getD k stp0).2

set_option maxRecDepth 100000 in
theorem indexStep_any (ps : List Stp) (B c p : Nat) (A : Option Addr) (w : World) (h : Steps w B A ps) (hB : B ≤ w.heap.size) (hx : WideSteps ps) (hp : w.cell? ⟨p, 0, none⟩ = some (.func (.func 36) #[] #[])) :
    Calls Tryd.prog 51 #[.slice A ps.length c, .func (.func 39) #[] #[.pointer (some ⟨p, 0, none⟩)]] w fun e w' => e = .returned (.int .i64 (badStp ps)) ∧ Below w.heap.size w w' := by
  have H := Lib.hid h
  have hl := hx.1
  have HX := Lib.hid hx.2
  have HP := Lib.hid hp
  have hlt' : p < w.heap.size := by simpa using World.block_lt_of_cell? w _ hp
  clear h hx hp
  go_enter Tryd.func51, Tryd.ntmps51
  go_wp2
  go_loopg [8] (ps.length + 1) (fun g i w' => ∃ k : Nat, Below w.heap.size w w' ∧ k ≤ ps.length ∧ g = ps.length - k + 1 ∧ i = .int .i64 k ∧ ∀ l ∈ ps.take k, stpRight l = true)
  case atStart => exact ⟨0, Below.refl _ _, by omega, by omega, rfl, by simp⟩
  case round =>
    obtain ⟨k, hb, hk, rfl, rfl, hs⟩ := hrel
    obtain ⟨wo, rfl⟩ : ∃ wo : World, wo = wr := ⟨_, rfl⟩
    have HS := Lib.hid hs
    have HB0 := Lib.hid hb
    have hsz := hb.size
    clear hs hb
    by_cases hlt : k < ps.length
    · obtain ⟨b, off, Ak, ck, rfl, hbB, h1, h2, h3⟩ := (H.out.below (HB0.out.mono hB)).at_ hlt
      have hw := HX.out k
      have hhit := fun h => badStp_hit hlt HS.out h
      have htk : ps.take (k + 1) = ps.take k ++ [ps.getD k stp0] := by rw [List.take_succ_eq_append_getElem hlt]; simp [List.getD, hlt]
      obtain ⟨⟨d, xs⟩, hs'⟩ : ∃ s, s = ps.getD k stp0 := ⟨_, rfl⟩
      rw [← hs'] at h1 h2 h3 hw hhit htk
      clear hs'
      have HTK := Lib.hid htk
      have HH := Lib.hid hhit
      have LA := Lib.hid (lam2_any d xs B ck p Ak wo h3 (by omega) hw ((HB0.out.cell (p := ⟨p, 0, none⟩) (by simpa using hlt')).trans HP.out))
      have hst : stpRight (d, xs) = xs.all isLit := rfl
      have HST := Lib.hid hst
      clear htk hhit h3 hw hst
      rcases hlit : xs.all isLit with _ | _
      · rw [hlit] at LA
        have HLIT := Lib.hid hlit
        clear hlit
        go_wp2_with (go_at_call 39; refine LA.out.mono ?_; rintro e w2 ⟨rfl, hb2⟩; have HB2 := Lib.hid hb2; clear hb2)
        go_ret
        exact ⟨by rw [HH.out (by rw [HST.out]; exact HLIT.out)]; rfl, HB0.out.trans (HB2.out.mono hsz)⟩
      · rw [hlit] at LA
        have HLIT := Lib.hid hlit
        clear hlit
        go_wp2_with (go_at_call 39; refine LA.out.mono ?_; rintro e w2 ⟨rfl, hb2⟩; have HB2 := Lib.hid hb2; clear hb2)
        go_roundg (ps.length - k)
        case measure => omega
        case rel =>
          refine ⟨k + 1, HB0.out.trans (HB2.out.mono hsz), by omega, by omega, by go_num, ?_⟩
          rw [HTK.out]
          intro y hy
          rcases List.mem_append.1 hy with h | h
          · exact HS.out y h
          · rw [List.mem_singleton.1 h, HST.out]; exact HLIT.out
    · have htk : ps.take k = ps := List.take_of_length_le (by omega)
      have HTK := Lib.hid htk
      clear htk
      go_wp2
      go_ret
      exact ⟨by rw [badStp_none (by have := HS.out; rw [HTK.out] at this; exact this)]; rfl, HB0.out⟩

theorem containsStep_any (ps : List Stp) (B c p : Nat) (A : Option Addr) (w : World) (h : Steps w B A ps) (hB : B ≤ w.heap.size) (hx : WideSteps ps) (hp : w.cell? ⟨p, 0, none⟩ = some (.func (.func 36) #[] #[])) :
    Calls Tryd.prog 38 #[.slice A ps.length c, .func (.func 39) #[] #[.pointer (some ⟨p, 0, none⟩)]] w fun e w' => e = .returned (.bool (!stpsRight ps)) ∧ Below w.heap.size w w' := by
  have IA := Lib.hid (indexStep_any ps B c p A w h hB hx hp)
  have hge := badStp_ge ps
  have hbd := badStp_bd ps hx.1
  generalize badStp ps = q at IA hge hbd
  clear h hx hp
  rcases hall : stpsRight ps with _ | _
  all_goals
    rw [hall] at hge
    clear hall
    go_enter Tryd.func38, Tryd.ntmps38
    go_wp2_with (go_at_call 51; refine IA.out.mono ?_; rintro e w' ⟨rfl, hb⟩; have HB2 := Lib.hid hb; clear hb)
    go_ret
    exact ⟨rfl, HB2.out⟩

theorem rightProof_any (ps : List Stp) (B c : Nat) (A : Option Addr) (w : World) (h : Steps w B A ps) (hB : B ≤ w.heap.size) (hx : WideSteps ps) :
    Calls Tryd.prog 22 #[.slice A ps.length c] w fun e w' => e = .returned (.bool (stpsRight ps)) ∧ Below w.heap.size w w' := by
  have hnew := Blk.new w 69 #[.func (.func 36) #[] #[]]
  have hc : (w.alloc (.cells #[.func (.func 36) #[] #[]] 69)).cell? ⟨w.heap.size, 0, none⟩ = some (.func (.func 36) #[] #[]) := hnew.cell 0
  have CA := Lib.hid (containsStep_any ps B c w.heap.size A _ (h.alloc hB (.cells #[.func (.func 36) #[] #[]] 69)) (by simp; omega) hx hc)
  clear h hx hnew hc
  rcases hall : stpsRight ps with _ | _
  all_goals
    rw [hall] at CA
    clear hall
    simp only [Bool.not_false, Bool.not_true] at CA
    go_enter Tryd.func22, Tryd.ntmps22
    go_wp2_with (go_at_call 38; refine CA.out.mono ?_; rintro e w' ⟨rfl, hb⟩; have HB2 := Lib.hid hb; clear hb)
    go_ret
    exact ⟨rfl, ((Below.refl _ _).alloc (Nat.le_refl _) _).trans (HB2.out.mono (by simp))⟩
end Go.Proofs.YtdehlikmefpgnaaDoor
