/- A step out of a line, and a proof out of text. -/
import Derived.Test.YtdehlikmefpgnaaDoorDrat8
namespace Go.Proofs.YtdehlikmefpgnaaDoor
open Go.RowKit
set_option linter.unusedSimpArgs false
set_option linter.unusedVariables false
set_option linter.unnecessarySimpa false

theorem trims_len (line : List UInt8) : (Lib.trimPrefix line [100, 32]).length ≤ line.length ∧ (Lib.trimSuffix (Lib.trimPrefix line [100, 32]) [48]).length ≤ line.length := by
  have h1 : (Lib.trimPrefix line [100, 32]).length ≤ line.length := by unfold Lib.trimPrefix; split <;> simp
  refine ⟨h1, ?_⟩
  generalize Lib.trimPrefix line [100, 32] = r at h1
  unfold Lib.trimSuffix
  split
  · rw [List.length_take]; omega
  · exact h1
theorem wrds_len (ls : List Int) : ls.length ≤ (wrds ls).length := by
  induction ls with
  | nil => simp
  | cons l ls ih => rw [wrds_cons]; simp; omega
theorem cut_empty {a b : List UInt8} {c : UInt8} : a ++ c :: b ≠ [] := by simp

/-- what a line's reader answers -/
def PLine (line : List UInt8) (w : World) (e : Ending) (w' : World) : Prop :=
  Below w.heap.size w w' ∧ ((∃ (s : Stp) (A : Option Addr) (c : Nat), e = .returned (.tuple #[.agg #[.bool s.1, .slice A s.2.length c], .bool true]) ∧ LineIs line (some s) ∧
      w'.ownsRow w.heap.size 3 1 (.slice A s.2.length c) s.2.length (s.2.map (Value.int .i64))) ∨
    (∃ (d : Bool) (A : Option Addr) (n c : Nat), e = .returned (.tuple #[.agg #[.bool d, .slice A n c], .bool false]) ∧ LineIs line none))

set_option maxRecDepth 100000 in
set_option maxHeartbeats 4000000 in
theorem parseLine_any (line : List UInt8) (m : Int) (w : World) (hs : line.length ≤ 100000) (hE : EnvN m w) :
    Calls Tryd.prog 31 #[.string ⟨line.toArray⟩] w (PLine line w) := by
  obtain ⟨j0, hj, hy0, hy1, hy2⟩ := info_parts Tryd.infoInt3
  have HE := Lib.hid hE
  have hbt := between line
  have htl := trims_len line
  have CP := fun w' => Tryd.strings_CutPrefix ⟨line.toArray⟩ ⟨#[100, 32]⟩ w'
  rw [show (⟨line.toArray⟩ : ByteArray).data.toList = line from rfl, show (⟨#[100, 32]⟩ : ByteArray).data.toList = [100, 32] from rfl] at CP
  generalize Lib.hasPrefix line [100, 32] = d at hbt CP
  generalize Lib.trimPrefix line [100, 32] = r1 at hbt htl CP
  have CS := fun w' => Tryd.strings_CutSuffix ⟨r1.toArray⟩ ⟨#[48]⟩ w' (by show r1.length ≤ _; omega)
  rw [show (⟨r1.toArray⟩ : ByteArray).data.toList = r1 from rfl, show (⟨#[48]⟩ : ByteArray).data.toList = [48] from rfl] at CS
  generalize Lib.hasSuffix r1 [48] = ended at hbt CS
  generalize Lib.trimSuffix r1 [48] = mid at hbt htl CS
  have hml := htl.2
  have HBT := Lib.hid hbt
  have HCP := Lib.hid CP
  have HCS := Lib.hid CS
  clear hE hbt htl CP CS
  go_enter Tryd.func31, Tryd.ntmps31
  go_wp2_with fail
  refine (HCP.out _).mono ?_
  rintro e w' ⟨rfl, rfl⟩
  go_wp2_with fail
  refine (HCS.out _).mono ?_
  rintro e w' ⟨rfl, rfl⟩
  go_wp2
  obtain ⟨w1, hw1⟩ : ∃ w1, w1 = (w.alloc (.cells #[.bool false, .slice none 0 0] 42)).alloc (.cells #[.bool d, .slice none 0 0] 42) := ⟨_, rfl⟩
  have hres : Blk w1 w.heap.size 42 #[.bool false, .slice none 0 0] := by rw [hw1]; exact (Blk.new w _ _).alloc _
  have hstp : Blk w1 (w.heap.size + 1) 42 #[.bool d, .slice none 0 0] := by
    have := Blk.new (w.alloc (.cells #[.bool false, .slice none 0 0] 42)) 42 #[.bool d, .slice none 0 0]
    rw [hw1]; simpa using this
  have hbel : Below w.heap.size w w1 := by rw [hw1]; exact ((Below.refl _ w).alloc (Nat.le_refl _) _).alloc (by simp) _
  try rw [← hw1]
  clear hw1
  have HRES := Lib.hid hres
  have HSTP := Lib.hid hstp
  have HBEL := Lib.hid hbel
  clear hres hstp hbel
  go_loopg [0] (line.length + 1) (fun gk s wr => ∃ (ls : List Int) (r : List UInt8) (Al : Option Addr) (cl : Nat), s = .string ⟨r.toArray⟩ ∧ r.length < gk ∧ r.length ≤ line.length ∧ mid = wrds ls ++ r ∧ (∀ l ∈ ls, isLit l = true) ∧
    Blk wr w.heap.size 42 #[.bool false, .slice none 0 0] ∧ Blk wr (w.heap.size + 1) 42 #[.bool d, .slice Al ls.length cl] ∧ wr.ownsRow w.heap.size 3 1 (.slice Al ls.length cl) ls.length (ls.map (Value.int .i64)) ∧ Below w.heap.size w wr)
  case atStart => exact ⟨[], mid, none, 0, rfl, by omega, hml, rfl, by simp, HRES.out, HSTP.out, World.ownsRow_nil _ _ _ _, HBEL.out⟩
  case round =>
    obtain ⟨ls, r, Al, cl, rfl, hgk, hrl, hmid, hls, hres, hstp, hown, hb⟩ := hrel
    obtain ⟨wo, rfl⟩ : ∃ wo : World, wo = wr := ⟨_, rfl⟩
    have hls9 : ls.length ≤ 100000 := by
      have := congrArg List.length hmid
      have h9 := wrds_len ls
      simp at this
      omega
    have HMID := Lib.hid hmid
    have HLS := Lib.hid hls
    have HRES1 := Lib.hid hres
    have HSTP1 := Lib.hid hstp
    have HOWN := Lib.hid hown
    have HB0 := Lib.hid hb
    have hE1 := HE.out.same hb
    have HC := Lib.hid (Tryd.strings_Cut ⟨r.toArray⟩ ⟨#[32]⟩ m wo (by show r.length < _; omega) hE1.env.max)
    rw [show (⟨r.toArray⟩ : ByteArray).data.toList = r from rfl, show (⟨#[32]⟩ : ByteArray).data.toList = [32] from rfl] at HC
    have hcut := cut_one 32 r
    generalize Lib.cut r [32] = q at HC hcut
    clear hmid hls hres hstp hown hb hE1
    by_cases hr0 : r = []
    · subst hr0
      have F0 := HRES1.out.frozen
      have C0 := HSTP1.out.cell 0
      have C1 := HSTP1.out.cell 1
      have R0 := HRES1.out.cell 0
      have R1 := HRES1.out.cell 1
      simp at C0 C1 R0 R1
      have hs2 := HB0.out.size
      have hs3 : w.heap.size + 1 < wo.heap.size := HSTP1.out.lt
      clear hcut HC
      go_wp2
      have hb3 := (HRES1.out.set_ 0 (.bool d)).set_ 1 (.slice Al ls.length cl)
      have d0 := hb3.cell 0
      have d1 := hb3.cell 1
      simp at d0 d1
      (try simp only [Exit.inBlock, Exit.then])
      refine bodyPost_ret (results_cell1 rfl rfl rfl (load_step d0 d1)) rfl ?_
      refine ⟨(HB0.out.setCell (by simp) _).setCell (by simp) _, ?_⟩
      have hm2 := HMID.out
      rw [List.append_nil] at hm2
      have hbt := HBT.out
      cases ended with
      | true =>
        left
        refine ⟨(d, ls), Al, cl, rfl, line_ok hbt HLS.out hm2, ?_⟩
        have hne := own_blk_ne HOWN.out HRES1.out (by decide)
        exact own_setCell (own_setCell HOWN.out _ hne) _ hne
      | false => exact Or.inr ⟨d, Al, ls.length, cl, rfl, line_open hbt⟩
    · obtain ⟨word, rest, blank⟩ := q
      simp only at HC hcut
      obtain ⟨x, t, rfl⟩ : ∃ x t, r = x :: t := by cases r with | nil => exact absurd rfl hr0 | cons x t => exact ⟨x, t, rfl⟩
      have hwl : word.length ≤ 100000 ∧ rest.length < (x :: t).length := by
        rcases hcut with ⟨a, b, h1, h2, h3⟩ | ⟨h1, h2⟩
        · injection h3 with h3 h4
          injection h4 with h4 h5
          have := congrArg List.length h1
          simp at this hrl ⊢
          rw [h3, h4]; omega
        · injection h2 with h3 h4
          injection h4 with h4 h5
          rw [h3, h4]
          simp at hrl ⊢; omega
      have HCUT := Lib.hid hcut
      have HR0 := Lib.hid hr0
      clear hcut hr0
      go_wp2_with fail
      refine HC.out.mono ?_
      rintro e w2 ⟨rfl, nq, hw2⟩
      have hres2 : Blk w2 w.heap.size 42 #[.bool false, .slice none 0 0] := by rw [hw2]; exact HRES1.out.drewN nq
      have hstp2 : Blk w2 (w.heap.size + 1) 42 #[.bool d, .slice Al ls.length cl] := by rw [hw2]; exact HSTP1.out.drewN nq
      have hown2 : w2.ownsRow w.heap.size 3 1 (.slice Al ls.length cl) ls.length (ls.map (Value.int .i64)) := by rw [hw2]; exact HOWN.out
      have hb2 : Below w.heap.size w w2 := by rw [hw2]; exact below_drewN HB0.out nq
      have HPL := Lib.hid (parseLiteral_any word m w2 hwl.1 (HE.out.same hb2))
      have HRES2 := Lib.hid hres2
      have HSTP2 := Lib.hid hstp2
      have HOWN2 := Lib.hid hown2
      have HB2 := Lib.hid hb2
      clear hw2 hres2 hstp2 hown2 hb2 HRES1 HSTP1 HOWN HB0 HC
      go_wp2_with fail
      refine HPL.out.mono ?_
      rintro e w3 ⟨n, ok, rfl, hwd, hb3⟩
      have HRES3 := Lib.hid (HRES2.out.below hb3 HRES2.out.lt)
      have HSTP3 := Lib.hid (HSTP2.out.below hb3 HSTP2.out.lt)
      have HOWN3 := Lib.hid (own_belowK HOWN2.out hb3 (Nat.le_refl _))
      have HB3 := Lib.hid (HB2.out.trans (hb3.mono HB2.out.size))
      have HWD := Lib.hid hwd
      clear hwd hb3 HPL HRES2 HSTP2 HOWN2 HB2
      have F0 := HRES3.out.frozen
      have F1 := HSTP3.out.frozen
      have C0 := HSTP3.out.cell 0
      have C1 := HSTP3.out.cell 1
      have R0 := HRES3.out.cell 0
      have R1 := HRES3.out.cell 1
      simp at C0 C1 R0 R1
      have hs2 := HB3.out.size
      have hs3 : w.heap.size + 1 < w3.heap.size := HSTP3.out.lt
      by_cases hgood : blank = true ∧ ok = true
      · obtain ⟨rfl, rfl⟩ := hgood
        go_wp2_with (at_builtin; refine wpList_append1 _ rfl _ _ 40 rfl w.heap.size 3 j0 (.int .i64 0) 8 Tryd.underlying40 hj hy0 hy1 hy2 rfl _ _ _ rfl (HOWN3.out.alloc _) (.int .i64 n) w3.heap.size rfl (by go_cell) rfl (by unfold maxLen; omega) (by omega) (by simp; omega) ?_)
        intro v' w4 hown4 hg4 hob4
        obtain ⟨A4, c4, hv4, _⟩ := own_slice hown4
        subst hv4
        have hr4 := blk_kept hg4 HOWN3.out HRES3.out (by decide)
        have hs4 := blk_kept hg4 HOWN3.out HSTP3.out (by decide)
        have HB4 := Lib.hid ((HB3.out.alloc (by omega) _).grown hg4 (by simp; omega) (fun g hg => (HOWN3.out.lt g hg).1))
        have HR4 := Lib.hid hr4
        have HS4 := Lib.hid hs4
        have HO4 := Lib.hid hown4
        have F4 := hs4.frozen
        have C4 := hs4.cell 1
        simp at C4
        clear hown4 hg4 hob4 hr4 hs4 C0 C1 F0 F1 R0 R1
        go_wp2
        clear C4 F4
        go_roundg ((x :: t).length)
        case measure => omega
        case rel =>
          obtain ⟨h5, h6⟩ := HWD.out.yes rfl
          rcases HCUT.out with ⟨a, b, h1, h2, h3⟩ | ⟨h1, h2⟩
          · injection h3 with h3 h4
            injection h4 with h4 _
            refine ⟨ls ++ [n], rest, A4, c4, rfl, hwl.2, by omega, ?_, ?_, ?_, ?_, ?_, HB4.out.setCell (by simp) _⟩
            · rw [wrds_snoc, HMID.out, h1, h6, h3, h4]; simp
            · intro l hl
              rcases List.mem_append.1 hl with hl | hl
              · exact HLS.out l hl
              · rw [List.mem_singleton.1 hl]; exact h5
            · exact HR4.out.far (by simp) _
            · have h9 := HS4.out.set_ 1 (.slice A4 (ls ++ [n]).length c4)
              simpa using h9
            · have h9 := own_setCell HO4.out (p := ⟨w.heap.size + 1, 1, none⟩) (.slice A4 (ls.length + 1) c4) (own_blk_ne HO4.out HS4.out (by decide))
              simpa using h9
          · injection h2 with _ h4
            injection h4 with _ h5
            cases h5
      · have HF : Hid (LineIs line none) := by
          refine line_fail HBT.out HLS.out HMID.out HR0.out (fun l q hl he => ?_)
          rcases HCUT.out with ⟨a, b, h1, h2, h3⟩ | ⟨h1, h2⟩
          · injection h3 with h3 h4
            injection h4 with h4 h5
            subst h5
            have hok : ok = false := by cases ok with | true => exact absurd ⟨rfl, rfl⟩ hgood | false => rfl
            rw [h1] at he
            have h6 := (at_first h2 (itoa_no (Or.inl rfl) l) he).1
            exact HWD.out.no hok l hl (by rw [← h6, h3])
          · exact h1 (by rw [he]; simp)
        have hcl : blank = false ∨ (blank = true ∧ ok = false) := by
          cases blank with
          | false => exact Or.inl rfl
          | true => cases ok with
            | false => exact Or.inr ⟨rfl, rfl⟩
            | true => exact absurd ⟨rfl, rfl⟩ hgood
        have ends : ∀ (w5 : World), w5 = (w3.setCell ⟨w.heap.size, 0, none⟩ (.bool false)).setCell ⟨w.heap.size, 1, none⟩ (.slice none 0 0) → Below w.heap.size w w5 ∧ (loadVar 42 ⟨w.heap.size, 0, none⟩).run Tryd.prog w5 = .ok (.agg #[.bool false, .slice none 0 0]) w5 := fun w5 e5 => by
          have hb5 := (HRES3.out.set_ 0 (.bool false)).set_ 1 (.slice none 0 0)
          have d0 := hb5.cell 0
          have d1 := hb5.cell 1
          simp at d0 d1
          subst e5
          exact ⟨(HB3.out.setCell (by simp) _).setCell (by simp) _, load_step d0 d1⟩
        have HENDS := Lib.hid ends
        clear hgood ends
        rcases hcl with rfl | ⟨rfl, rfl⟩
        all_goals
          go_wp2
          (try simp only [Exit.inBlock, Exit.then])
          obtain ⟨q1, q2⟩ := HENDS.out _ rfl
          refine bodyPost_ret (results_cell1 rfl rfl rfl q2) rfl ?_
          exact ⟨q1, Or.inr ⟨false, none, 0, 0, rfl, HF.out⟩⟩

/-- what the reader of a text answers -/
def ParseTxt (s : List UInt8) (w : World) (e : Ending) (w' : World) : Prop :=
  Below w.heap.size w w' ∧ ((∃ (ps : List Stp) (A : Option Addr) (c : Nat), e = .returned (.tuple #[.slice A ps.length c, .int .i64 0]) ∧ TxtIs s (some ps, 0) ∧ OwnSteps w' w.heap.size A c ps) ∨
    (e = .returned (.tuple #[.slice none 0 0, .int .i64 9]) ∧ TxtIs s (none, 9)))
end Go.Proofs.YtdehlikmefpgnaaDoor
