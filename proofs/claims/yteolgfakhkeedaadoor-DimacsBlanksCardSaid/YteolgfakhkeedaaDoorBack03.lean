/- Formulas are printed as the document says, and come back. -/
import Derived.Test.YteolgfakhkeedaaDoorFit03
import Derived.Test.YteolgfakhkeedaaDoorTold
import Derived.Test.YteolgfakhkeedaaDoorBackMath
import Derived.Test.YteolgfakhkeedaaDoorRawForm
import Derived.Test.YteolgfakhkeedaaDoorLaw02
import Derived.Test.YteolgfakhkeedaaDoorOpenRaw
namespace Go.Proofs.YteolgfakhkeedaaDoor
open Go.RowKit
set_option linter.unusedSimpArgs false
set_option linter.unusedVariables false
set_option linter.unnecessarySimpa false

/-- how long a formula's text is at most -/
theorem form_len {V : Int} {cls : List (List Int)} (hV0 : -9223372036854775808 ≤ V) (hV1 : V ≤ 9223372036854775807) (hn : cls.length ≤ 9223372036854775807) (h : ∀ c ∈ cls, ∀ l ∈ c, -9223372036854775808 ≤ l ∧ l ≤ 9223372036854775807) :
    (formText V cls).length ≤ 60 + 22 * litCount cls + 2 * cls.length := by
  have h1 := Lib.itoa_length_le V hV0 hV1
  have h2 := Lib.itoa_length_le cls.length (by omega) (by omega)
  have h3 : ∀ c : List Int, (∀ l ∈ c, -9223372036854775808 ≤ l ∧ l ≤ 9223372036854775807) → (litsText c).length ≤ 22 * c.length := by
    intro c
    induction c with
    | nil => intro _; simp [litsText]
    | cons l c ih =>
      intro hc
      have h4 := Lib.itoa_length_le l (hc l (by simp)).1 (hc l (by simp)).2
      have h5 := ih (fun x hx => hc x (by simp [hx]))
      have e : litsText (l :: c) = Lib.itoa l ++ [32] ++ litsText c := by unfold litsText; simp
      rw [e]; simp; omega
  have h6 : ∀ cls : List (List Int), (∀ c ∈ cls, ∀ l ∈ c, -9223372036854775808 ≤ l ∧ l ≤ 9223372036854775807) → (clausesText cls).length ≤ 22 * litCount cls + 2 * cls.length := by
    intro cls
    induction cls with
    | nil => intro _; simp [clausesText]
    | cons c cls ih =>
      intro hc
      have h4 := h3 c (hc c (by simp))
      have h5 := ih (fun x hx => hc x (by simp [hx]))
      have e : clausesText (c :: cls) = litsText c ++ [48, 10] ++ clausesText cls := by unfold clausesText clauseText; simp
      have e2 : litCount (c :: cls) = c.length + litCount cls := by unfold litCount; simp
      rw [e, e2]; simp; omega
  have h7 := h6 cls h
  unfold formText headText
  simp only [List.length_append, List.length_cons, List.length_nil]
  omega

/-- the formula that a statement makes of raw numbers: all that its text needs -/
structure RawOk (F width k : Nat) (cls : List (List Int)) : Prop where
  few : cls.length ≤ k
  lits : litCount cls + cls.length ≤ 10 * k
  ok : ∀ c ∈ cls, ClauseOk F c
  bd : ∀ c ∈ cls, ∀ l ∈ c, -9223372036854775808 ≤ l ∧ l ≤ 9223372036854775807
  at_ : ∀ j i, -9223372036854775808 ≤ (cls.getD j []).getD i 0 ∧ (cls.getD j []).getD i 0 ≤ 9223372036854775807
  len : ∀ j, (cls.getD j []).length ≤ 10 * k
theorem rawOk {F width k : Nat} {nss : List (List Int)} (hF : F ≤ 100000) (h : light nss k = true) : RawOk F width k (rawForm F width nss) := by
  obtain ⟨h1, h2⟩ := light_iff.1 h
  have hl := rawForm_len F width nss
  have hc := rawForm_count F width nss
  have hmem : ∀ c ∈ rawForm F width nss, ∃ ns, c = rawClause F width ns := fun c hc => by
    unfold rawForm at hc
    obtain ⟨ns, _, rfl⟩ := List.mem_map.1 hc
    exact ⟨ns, rfl⟩
  have hok : ∀ c ∈ rawForm F width nss, ∀ l ∈ c, l ≠ 0 ∧ -(F : Int) ≤ l ∧ l ≤ F := fun c hc l hl => by
    obtain ⟨ns, rfl⟩ := hmem c hc
    have := rawClause_bd hl
    exact ⟨this.2.1, this.2.2.1, this.2.2.2⟩
  have hgm : ∀ j, (rawForm F width nss).getD j [] = [] ∨ (rawForm F width nss).getD j [] ∈ rawForm F width nss := fun j => by
    rcases Nat.lt_or_ge j (rawForm F width nss).length with h | h
    · right; rw [List.getD, List.getElem?_eq_getElem h]; exact List.getElem_mem h
    · left; rw [List.getD, List.getElem?_eq_none h]; rfl
  refine ⟨by omega, by omega, fun c hc l hl => ?_, fun c hc l hl => ?_, fun j i => ?_, fun j => ?_⟩
  · have := hok c hc l hl; exact ⟨this.1, by omega⟩
  · have := hok c hc l hl; omega
  · rcases hgm j with e | hm
    · rw [e]; simp
    · rcases Nat.lt_or_ge i ((rawForm F width nss).getD j []).length with h | h
      · have hmem2 : ((rawForm F width nss).getD j []).getD i 0 ∈ (rawForm F width nss).getD j [] := by
          generalize (rawForm F width nss).getD j [] = cj at h
          rw [List.getD, List.getElem?_eq_getElem h]; exact List.getElem_mem h
        have := hok _ hm _ hmem2
        omega
      · generalize (rawForm F width nss).getD j [] = cj at h
        rw [List.getD, List.getElem?_eq_none h]; simp
  · rcases Nat.lt_or_ge j (rawForm F width nss).length with h | h
    · have h9 : ((rawForm F width nss).getD j []).length ≤ litCount (rawForm F width nss) := by
        have h8 := litCount_take h
        have h7 := litCount_take_le (rawForm F width nss) (j + 1)
        omega
      omega
    · rw [List.getD, List.getElem?_eq_none h]; simp
theorem RawOk.text {F width k : Nat} {cls : List (List Int)} (h : RawOk F width k cls) (hF : F ≤ 100000) (hk : k ≤ 1000) : (formText F cls).length ≤ 60 + 240 * k := by
  have h1 := form_len (V := F) (cls := cls) (by omega) (by omega) (by have := h.few; omega) h.bd
  have h2 := h.lits
  have h3 := h.few
  omega
theorem RawOk.back {F width k : Nat} {cls : List (List Int)} (h : RawOk F width k cls) (hF : F ≤ 100000) (hk : k ≤ 1000) : parseOf (formText F cls) = .ok F cls :=
  parse_back (by omega) (by omega) (by have := h.few; omega) h.ok (by have := h.lits; omega)

theorem light_rows {nss : List (List Int)} {k : Nat} (h : light nss k = true) (j : Nat) : (nss.getD j []).length ≤ 10 * k := by
  have h1 := (light_iff.1 h).1
  rcases Nat.lt_or_ge j nss.length with hj | hj
  · have h8 := litCount_take hj
    have h7 := litCount_take_le nss (j + 1)
    omega
  · rw [List.getD, List.getElem?_eq_none hj]; simp

set_option maxRecDepth 100000 in
set_option maxHeartbeats 4000000 in
theorem back03_any (v : Nat) (nss : List (List Int)) (A : Option Addr) (c : Nat) (m : Int) (w : World) (hv : v ≤ 255) (hx : nss.length ≤ 140737488355328)
    (hl : ∀ j, (nss.getD j []).length ≤ 140737488355328) (hn : ∀ j k, -32768 ≤ (nss.getD j []).getD k 0 ∧ (nss.getD j []).getD k 0 ≤ 32767) (h : KRows .i16 w w.heap.size A nss) (hE : Env m w) :
    Calls Tryd.prog 3 #[.agg #[.int .u8 v, .slice A nss.length c]] w fun e w' => e = .returned (.bool true) ∧ Below w.heap.size w w' := by
  have H := Lib.hid h
  have HE := Lib.hid hE
  have HL := Lib.hid hl
  have HN := Lib.hid hn
  clear h hE hl hn
  go_enter Tryd.func3, Tryd.ntmps3
  have F1 := Lib.hid (fit03_any m (w.alloc (.cells #[.int .u8 v, .slice A nss.length c] 24)) (HE.out.same ((Below.refl _ _).alloc (Nat.le_refl _) _)))
  go_wp2_with (go_at_call 6; refine F1.out.mono ?_)
  rintro e w2 ⟨rfl, hb2⟩
  have hbox : Blk w2 w.heap.size 24 #[.int .u8 v, .slice A nss.length c] := (Blk.new w _ _).below hb2 (by simp)
  have hB2 : Below w.heap.size w w2 := ((Below.refl _ _).alloc (Nat.le_refl _) _).trans (hb2.mono (by simp))
  have h2 : KRows .i16 w2 w.heap.size A nss := H.out.below hB2
  have b0 := hbox.cell 0
  have b1 := hbox.cell 1
  simp at b0 b1
  have HBOX := Lib.hid hbox
  have HB2 := Lib.hid hB2
  have H2 := Lib.hid h2
  have hz2 := hB2.size
  clear hbox hB2 h2 hb2 F1
  have L1 := Lib.hid (light_any v nss w.heap.size A c 60 w2 (by omega) (by omega) (fun j => by have := HL.out j; omega) H2.out hz2)
  rcases hli : light nss 60 with _ | _
  · rw [hli] at L1
    clear hli
    go_wp2_with (go_at_call 7; refine L1.out.mono ?_)
    rintro e w3 ⟨rfl, hb3⟩
    have HB3 := Lib.hid (HB2.out.trans (hb3.mono hz2))
    clear hb3 L1
    go_wp2
    go_ret
    exact ⟨rfl, HB3.out⟩
  · rw [hli] at L1
    have HLI := Lib.hid hli
    clear hli
    go_wp2_with (go_at_call 7; refine L1.out.mono ?_)
    rintro e w3 ⟨rfl, hb3⟩
    have hbox3 := HBOX.out.below hb3 (by have := HBOX.out.lt; omega)
    clear b0 b1
    have b0 := hbox3.cell 0
    have b1 := hbox3.cell 1
    simp at b0 b1
    have hz3 : w.heap.size ≤ w3.heap.size := Nat.le_trans hz2 hb3.size
    have HB3 := Lib.hid (HB2.out.trans (hb3.mono hz2))
    have FO := Lib.hid (formula_any v nss w.heap.size A c 200 20 w3 hv (by omega) (by omega) (by have := (light_iff.1 HLI.out).2; omega) (fun j => by have := light_rows HLI.out j; omega) HN.out (H2.out.below (hb3.mono hz2)) hz3)
    clear hbox3 hb3 L1
    have hF : v % (200 + 1) ≤ 200 := by omega
    have hok := rawOk (F := v % (200 + 1)) (width := 20) (nss := nss) (k := 60) (by omega) HLI.out
    generalize v % (200 + 1) = F at FO hF hok
    generalize rawForm F 20 nss = cls at FO hok
    have HOK := Lib.hid hok
    have hfew := hok.few
    clear hok
    go_wp2_with (go_at_call 8; refine FO.out.mono ?_)
    rintro e w4 ⟨A4, c4, vs, rfl, ho4, hl4, hb4⟩
    have hr4 := hl4.rows ho4
    have HB4 := Lib.hid (HB3.out.trans (hb4.mono hz3))
    clear ho4 hl4 hb4 FO b0 b1
    obtain ⟨w5, hw5⟩ : ∃ w5, w5 = w4.alloc (.cells #[.int .i64 F, .slice A4 cls.length c4] 29) := ⟨_, rfl⟩
    have hb45 : Below w4.heap.size w4 w5 := by rw [hw5]; exact (Below.refl _ _).alloc (Nat.le_refl _) _
    have hr5 := hr4.below hb45
    have hE5 := HE.out.same (HB4.out.trans (hb45.mono HB4.out.size))
    have hbf : Blk w5 w4.heap.size 29 #[.int .i64 F, .slice A4 cls.length c4] := by rw [hw5]; exact Blk.new w4 _ _
    have htx := HOK.out.text (by omega) (by omega)
    have PR := Lib.hid (print_any F cls w4.heap.size A4 c4 w5 hr5 hb45.size hE5.tab hE5.tabLt (by omega) (by omega) (by omega) (by omega) (fun j => by have := HOK.out.len j; omega) HOK.out.at_)
    have f0 := hbf.cell 0
    have f1 := hbf.cell 1
    simp at f0 f1
    have HB5 := Lib.hid (HB4.out.trans (hb45.mono HB4.out.size))
    have HBF := Lib.hid hbf
    have HR5 := Lib.hid hr5
    have HE5 := Lib.hid hE5
    have hlt5 := hbf.lt
    rw [hw5] at f0 f1 PR
    have HW5 := Lib.hid hw5
    clear hr4 hb45 hr5 hE5 hbf hw5
    go_wp2_with (go_at_call 9; refine PR.out.mono ?_)
    rw [← HW5.out]
    rintro e w6 ⟨rfl, hb6⟩
    have HB6 := Lib.hid hb6
    have HE6 := Lib.hid (HE5.out.same hb6)
    have hbk := HOK.out.back (by omega) (by omega)
    have PA := Lib.hid (parse_any (formText F cls) m w6 (by omega) HE6.out.max)
    rw [hbk] at PA
    clear hb6 PR f0 f1 hbk HW5
    generalize htt : formText F cls = tt at PA htx
    have HTT := Lib.hid htt
    clear htt
    go_wp2_with (go_at_call 10; refine PA.out.mono ?_)
    rintro e w7 ⟨A7, c7, rfl, hr7, hb7⟩
    have hb57 : Below w5.heap.size w5 w7 := HB6.out.trans (hb7.mono HB6.out.size)
    obtain ⟨w8, hw8⟩ : ∃ w8, w8 = w7.alloc (.cells #[.int .i64 F, .slice A7 cls.length c7] 29) := ⟨_, rfl⟩
    have hb78 : Below w7.heap.size w7 w8 := by rw [hw8]; exact (Below.refl _ _).alloc (Nat.le_refl _) _
    have hb58 : Below w5.heap.size w5 w8 := hb57.trans (hb78.mono hb57.size)
    have hbf8 := HBF.out.below hb58 hlt5
    have hbg8 : Blk w8 w7.heap.size 29 #[.int .i64 F, .slice A7 cls.length c7] := by rw [hw8]; exact Blk.new w7 _ _
    have hr8 := HR5.out.below (hb58.mono (Nat.le_of_lt hlt5))
    have hs8 := hr7.below hb78
    have hE8 := HE5.out.same hb58
    have TO := Lib.hid (told_any F cls w4.heap.size A4 c4 w8 hr8 (by have := hb58.size; omega) hE8.tab hE8.tabLt (by omega) (by omega) (by omega) (by rw [HTT.out]; omega) (fun j => by have := HOK.out.len j; omega) HOK.out.at_)
    rw [HTT.out] at TO
    have f0 := hbf8.cell 0
    have f1 := hbf8.cell 1
    simp at f0 f1
    rw [hw8] at f0 f1 TO
    have HBF8 := Lib.hid hbf8
    have HBG8 := Lib.hid hbg8
    have HR8 := Lib.hid hr8
    have HS8 := Lib.hid hs8
    have HB8 := Lib.hid (HB5.out.trans (hb58.mono HB5.out.size))
    have HZ8 := Lib.hid (show w4.heap.size < w8.heap.size ∧ w7.heap.size < w8.heap.size from ⟨hbf8.lt, hbg8.lt⟩)
    have HW8 := Lib.hid hw8
    clear hr7 hb7 hb57 hw8 hb78 hb58 hbf8 hbg8 hr8 hs8 hE8 PA
    go_wp2_with (go_at_call 11; refine TO.out.mono ?_)
    rw [← HW8.out]
    rintro e w9 ⟨rfl, hb9⟩
    have hbf9 := HBF8.out.below hb9 HZ8.out.1
    have hbg9 := HBG8.out.below hb9 HZ8.out.2
    clear f0 f1
    have f0 := hbf9.cell 0
    have f1 := hbf9.cell 1
    have g0 := hbg9.cell 0
    have g1 := hbg9.cell 1
    simp at f0 f1 g0 g1
    have hz9 := hb9.size
    have hz8 := HZ8.out
    have SA := Lib.hid (same_any F F cls cls w9.heap.size A4 A7 c4 c7 w9 (by omega) (fun j => by have := HOK.out.len j; omega) (fun j => by have := HOK.out.len j; omega)
      ((HR8.out.below (hb9.mono (by omega))).more (by omega)) ((HS8.out.below (hb9.mono (by omega))).more (by omega)) (Nat.le_refl _))
    rw [show sameForm F F cls cls = true by unfold sameForm; simp] at SA
    have HB9 := Lib.hid (HB8.out.trans (hb9.mono HB8.out.size))
    clear hb9 hbf9 hbg9 hz9 hz8 TO
    go_wp2_with (go_at_call 12; refine SA.out.mono ?_; rintro e w' ⟨rfl, hb⟩; have HBT := Lib.hid hb; clear hb)
    go_ret
    exact ⟨rfl, HB9.out.trans (HBT.out.mono HB9.out.size)⟩

theorem raw_nat03 {u : Int} (h : (Lit.int .u8 u).wf = true) : ∃ v : Nat, u = v ∧ v ≤ 255 := by
  have := bounds_u8 h
  exact ⟨u.toNat, by omega, by omega⟩
theorem raw_rows03 {nss : List (List Int)} (m : ∀ j, (nss.getD j []).length * 2 ≤ 140737488351232) (h : ∀ j i, (Lit.int .i16 ((nss.getD j []).getD i 0)).wf = true) :
    (∀ j, (nss.getD j []).length ≤ 140737488355328) ∧ ∀ j k, -32768 ≤ (nss.getD j []).getD k 0 ∧ (nss.getD j []).getD k 0 ≤ 32767 :=
  ⟨fun j => by have := m j; omega, fun j k => by have := bounds_i16 (h j k); omega⟩

theorem back_raw (u : Int) (nss : List (List Int)) (A : Option Addr) (c : Nat) (m : Int) (w : World) (hu : (Lit.int .u8 u).wf = true)
    (hx : nss.length ≤ 5864062014805) (hm : ∀ j, (nss.getD j []).length * 2 ≤ 140737488351232) (hn : ∀ j i, (Lit.int .i16 ((nss.getD j []).getD i 0)).wf = true) (h : KRows .i16 w w.heap.size A nss) (hE : Env m w) :
    Calls Tryd.prog 3 #[.agg #[.int .u8 u, .slice A nss.length c]] w fun e w' => e = .returned (.bool true) ∧ Below w.heap.size w w' := by
  obtain ⟨v, rfl, hv⟩ := raw_nat03 hu
  exact back03_any v nss A c m w hv (by omega) (raw_rows03 hm hn).1 (raw_rows03 hm hn).2 h hE
end Go.Proofs.YteolgfakhkeedaaDoor
