/- A wrong word is told with the line in which it stands. -/
import Derived.Test.YteolgfakhkeedaaDoorBack03
import Derived.Test.YteolgfakhkeedaaDoorLinesMath
import Derived.Test.YteolgfakhkeedaaDoorAsAny
namespace Go.Proofs.YteolgfakhkeedaaDoor
open Go.RowKit
set_option linter.unusedSimpArgs false
set_option linter.unusedVariables false
set_option linter.unnecessarySimpa false

set_option maxRecDepth 100000 in
set_option maxHeartbeats 4000000 in
theorem lines03_any (v : Nat) (nss : List (List Int)) (A : Option Addr) (c a q : Nat) (m : Int) (w : World) (hv : v ≤ 255) (ha : a ≤ 255) (hq : q ≤ 255) (hx : nss.length ≤ 140737488355328)
    (hl : ∀ j, (nss.getD j []).length ≤ 140737488355328) (hn : ∀ j k, -32768 ≤ (nss.getD j []).getD k 0 ∧ (nss.getD j []).getD k 0 ≤ 32767) (h : KRows .i16 w w.heap.size A nss) (hE : Env m w)
    (hg : w.cell? ⟨0, 0, none⟩ = some (.iface 89 (.agg #[.pointer (some ⟨7, 33, none⟩)]))) :
    Calls Tryd.prog 5 #[.agg #[.int .u8 v, .slice A nss.length c], .int .u8 a, .int .u8 q] w fun e w' => e = .returned (.bool true) ∧ Below w.heap.size w w' := by
  have H := Lib.hid h
  have HE := Lib.hid hE
  have HL := Lib.hid hl
  have HN := Lib.hid hn
  have HG := Lib.hid hg
  clear h hE hl hn hg
  go_enter Tryd.func5, Tryd.ntmps5
  have F1 := Lib.hid (fit03_any m (w.alloc (.cells #[.int .u8 v, .slice A nss.length c] 24)) (HE.out.same ((Below.refl _ _).alloc (Nat.le_refl _) _)))
  go_wp2_with (go_at_call 6; refine F1.out.mono ?_)
  rintro e w2 ⟨rfl, hb2⟩
  have hbox : Blk w2 w.heap.size 24 #[.int .u8 v, .slice A nss.length c] := (Blk.new w _ _).below hb2 (by simp)
  have hB2 : Below w.heap.size w w2 := ((Below.refl _ _).alloc (Nat.le_refl _) _).trans (hb2.mono (by simp))
  have h2 : KRows .i16 w2 w.heap.size A nss := H.out.below hB2
  have b0 := hbox.cell 0
  have b1 := hbox.cell 1
  simp at b0 b1
  have HBOX := Lib.hid hbox
  have HB2 := Lib.hid hB2
  have H2 := Lib.hid h2
  have hz2 := hB2.size
  clear hbox hB2 h2 hb2 F1
  have L1 := Lib.hid (light_any v nss w.heap.size A c 40 w2 (by omega) (by omega) (fun j => by have := HL.out j; omega) H2.out hz2)
  rcases hli : light nss 40 with _ | _
  · rw [hli] at L1
    clear hli
    go_wp2_with (go_at_call 7; refine L1.out.mono ?_)
    rintro e w3 ⟨rfl, hb3⟩
    have HB3 := Lib.hid (HB2.out.trans (hb3.mono hz2))
    clear hb3 L1
    go_wp2
    go_ret
    exact ⟨rfl, HB3.out⟩
  · rw [hli] at L1
    have HLI := Lib.hid hli
    clear hli
    go_wp2_with (go_at_call 7; refine L1.out.mono ?_)
    rintro e w3 ⟨rfl, hb3⟩
    have hbox3 := HBOX.out.below hb3 (by have := HBOX.out.lt; omega)
    clear b0 b1
    have b0 := hbox3.cell 0
    have b1 := hbox3.cell 1
    simp at b0 b1
    have hz3 : w.heap.size ≤ w3.heap.size := Nat.le_trans hz2 hb3.size
    have HB3 := Lib.hid (HB2.out.trans (hb3.mono hz2))
    have FO := Lib.hid (formula_any v nss w.heap.size A c 30 9 w3 hv (by omega) (by omega) (by have := (light_iff.1 HLI.out).2; omega) (fun j => by have := light_rows HLI.out j; omega) HN.out (H2.out.below (hb3.mono hz2)) hz3)
    clear hbox3 hb3 L1
    have hF : v % (30 + 1) ≤ 30 := by omega
    have hok := rawOk (F := v % (30 + 1)) (width := 9) (nss := nss) (k := 40) (by omega) HLI.out
    generalize v % (30 + 1) = F at FO hF hok
    generalize rawForm F 9 nss = cls at FO hok
    have HOK := Lib.hid hok
    have hfew := hok.few
    clear hok
    go_wp2_with (go_at_call 8; refine FO.out.mono ?_)
    rintro e w4 ⟨A4, c4, vs, rfl, ho4, hl4, hb4⟩
    have hr4 := hl4.rows ho4
    have HB4 := Lib.hid (HB3.out.trans (hb4.mono hz3))
    have HR4 := Lib.hid hr4
    clear ho4 hl4 hb4 FO b0 b1 hr4
    have htx := HOK.out.text (by omega) (by omega)
    obtain ⟨w5, hw5⟩ : ∃ w5, w5 = w4.alloc (.cells #[.int .i64 F, .slice A4 cls.length c4] 29) := ⟨_, rfl⟩
    have hb45 : Below w4.heap.size w4 w5 := by rw [hw5]; exact (Below.refl _ _).alloc (Nat.le_refl _) _
    have hr5 := HR4.out.below hb45
    have hE5 := HE.out.same (HB4.out.trans (hb45.mono HB4.out.size))
    have hbf : Blk w5 w4.heap.size 29 #[.int .i64 F, .slice A4 cls.length c4] := by rw [hw5]; exact Blk.new w4 _ _
    have TO := Lib.hid (told_any F cls w4.heap.size A4 c4 w5 hr5 hb45.size hE5.tab hE5.tabLt (by omega) (by omega) (by omega) (by omega) (fun j => by have := HOK.out.len j; omega) HOK.out.at_)
    have HB5 := Lib.hid (HB4.out.trans (hb45.mono HB4.out.size))
    have HBF := Lib.hid hbf
    have HE5 := Lib.hid hE5
    have hlt5 := hbf.lt
    have HZ5 := Lib.hid hlt5
    have f0 := hbf.cell 0
    have f1 := hbf.cell 1
    simp at f0 f1
    have HW5 := Lib.hid hw5
    clear hb45 hr5 hE5 hbf hlt5
    go_wp2
    rw [← HW5.out]
    clear hw5
    obtain ⟨n, hn⟩ : ∃ n : Nat, n = a % 9 := ⟨_, rfl⟩
    have hn9 : n ≤ 8 := by omega
    have hna : (a : Int) % 9 = (n : Int) := by omega
    rw [hna]
    clear hn hna
    go_loopg [8, 28] (n + 1) (fun gk s i wr => ∃ k : Nat, k ≤ n ∧ gk = n - k + 1 ∧ i = .int .i64 k ∧ s = .string ⟨(remarks k).toArray⟩ ∧ wr = w5)
    case atStart => exact ⟨0, by omega, by omega, rfl, rfl, rfl⟩
    case round =>
      obtain ⟨k, hk, rfl, rfl, rfl, rfl⟩ := hrel
      have hrl := remarks_length k
      by_cases hlt : k < n
      · have q1 := str_add (P := Tryd.prog) (remarks k) [99, 32, 114, 101, 109, 97, 114, 107, 10] (remarks (k + 1)) rfl (by omega) (by decide)
        generalize remarks k = t at q1
        go_wp2
        go_roundg (n - k)
        case measure => omega
        case rel => exact ⟨k + 1, by omega, by omega, by go_num, rfl, rfl⟩
      · obtain rfl : k = n := by omega
        generalize hrt : remarks k = rt at hrl
        have HRT := Lib.hid hrt
        clear hrt
        have htl : (formText F cls).length ≤ 10000 := by omega
        generalize hft : formText F cls = ft at TO htl
        have HFT := Lib.hid hft
        clear hft
        go_wp2_with (go_at_call 11; refine TO.out.mono ?_)
        rintro e w6 ⟨rfl, hb6⟩
        have HB6 := Lib.hid hb6
        have hpl := parse_lines (V := F) (cls := cls) k (q % 4) (by omega) (by omega) (by omega) HOK.out.ok (by have := HOK.out.lits; omega)
        rw [HRT.out, HFT.out] at hpl
        have hbl := badText_length (q % 4)
        have q1 := str_add (P := Tryd.prog) rt ft (rt ++ ft) rfl (by omega) (by omega)
        have q2 := str_add (P := Tryd.prog) (rt ++ ft) (badText (q % 4)) (rt ++ ft ++ badText (q % 4)) rfl (by rw [List.length_append]; omega) (by omega)
        have q3 := str_add (P := Tryd.prog) (rt ++ ft ++ badText (q % 4)) [10, 10] (rt ++ (ft ++ (badText (q % 4) ++ [10, 10]))) (by simp) (by rw [List.length_append, List.length_append]; omega) (by decide)
        have hlen : (rt ++ (ft ++ (badText (q % 4) ++ [10, 10]))).length ≤ 20000 := by simp only [List.length_append, List.length_cons, List.length_nil]; omega
        obtain ⟨w7, hw7⟩ : ∃ w7, w7 = w6.alloc (.cells #[.string ⟨#[120]⟩, .string ⟨#[49, 32, 120]⟩, .string ⟨#[48, 48]⟩, .string ⟨#[48]⟩] 9) := ⟨_, rfl⟩
        obtain ⟨w8, hw8⟩ : ∃ w8, w8 = w7.alloc (.cells #[.int .i64 3, .int .i64 5, .int .i64 3, .int .i64 5] 44) := ⟨_, rfl⟩
        have hq4 : q % 4 < 4 := by omega
        have c1 : w7.cell? ⟨w6.heap.size, q % 4, none⟩ = some (.string ⟨(badText (q % 4)).toArray⟩) := by
          rw [hw7]
          generalize q % 4 = p at hq4
          rcases p with _ | _ | _ | _ | p <;> first | omega | simp [badText]
        have c2 : w8.cell? ⟨w6.heap.size + 1, q % 4, none⟩ = some (.int .i64 (badErr (q % 4))) := by
          rw [hw8, hw7]
          generalize q % 4 = p at hq4
          rcases p with _ | _ | _ | _ | p <;> first | omega | simp [badErr]
        have hb68 : Below w6.heap.size w6 w8 := by rw [hw8, hw7]; exact ((Below.refl _ _).alloc (Nat.le_refl _) _).alloc (by simp) _
        have hb58 := HB6.out.trans (hb68.mono HB6.out.size)
        have PA := Lib.hid (parse_any (rt ++ (ft ++ (badText (q % 4) ++ [10, 10]))) m w8 (by omega) (HE5.out.same hb58).max)
        rw [hpl] at PA
        have HB8 := Lib.hid (HB5.out.trans (hb58.mono HB5.out.size))
        generalize rt ++ (ft ++ (badText (q % 4) ++ [10, 10])) = t3 at q3 PA
        generalize rt ++ ft ++ badText (q % 4) = t2 at q2 q3
        generalize rt ++ ft = t1 at q1 q2
        generalize badText (q % 4) = bt at c1 q2
        generalize badErr (q % 4) = be at c2 PA
        rw [hw8, hw7] at c2 PA
        rw [hw7] at c1
        have HW7 := Lib.hid hw7
        have HW8 := Lib.hid hw8
        clear hb6 TO hbl hpl hlen hw7 hw8 hq4 hb68 hb58
        go_wp2_with (go_at_call 10; refine PA.out.mono ?_)
        rw [← HW7.out, ← HW8.out]
        rintro e w9 ⟨g, rfl, hg9, hf9, hb9⟩
        have hb89 := HB8.out.trans (hb9.mono HB8.out.size)
        obtain ⟨wb, hwb⟩ : ∃ wb, wb = w9.alloc (.cells #[.int .i64 0, .slice none 0 0] 29) := ⟨_, rfl⟩
        have hsb : wb.heap.size = w9.heap.size + 1 := by rw [hwb]; simp
        obtain ⟨w10, hw10⟩ : ∃ w10, w10 = wb.alloc (.cells #[.pointer none] 46) := ⟨_, rfl⟩
        have hb910 : Below w9.heap.size w9 w10 := by rw [hw10, hwb]; exact ((Below.refl _ _).alloc (Nat.le_refl _) _).alloc (by simp) _
        have hB10 := hb89.trans (hb910.mono hb89.size)
        have hX := Blk.new wb 46 #[.pointer none]
        rw [← hw10, hsb] at hX
        have hf10 := hf9.below hb910 hf9.lt
        have hgl : 0 < w.heap.size := by have := World.block_lt_of_cell? w _ HG.out; simpa using this
        have AS := Lib.hid (as_any ⟨g, 0, none⟩ (w9.heap.size + 1) w10 ((hB10.cell (p := ⟨0, 0, none⟩) hgl).trans HG.out) hX)
        have HX := Lib.hid hX
        have HF10 := Lib.hid hf10
        have HB10 := Lib.hid hB10
        have HGL9 := Lib.hid (show g < w9.heap.size + 1 from Nat.lt_succ_of_lt hf9.lt)
        have HSZ9 := Lib.hid (show w.heap.size ≤ w9.heap.size + 1 from Nat.le_succ_of_le hb89.size)
        have HWB := Lib.hid hwb
        have HW10 := Lib.hid hw10
        rw [hw10, hwb] at AS
        clear hb9 hf9 hg9 hb89 hw10 hwb hsb hb910 hB10 hX hf10 hgl PA c1 c2 q1 q2 q3 f0 f1
        go_wp2_with (go_at_call 15; refine AS.out.mono ?_; rw [← HWB.out, ← HW10.out]; rintro e w11 ⟨rfl, x0, hb11⟩; have hf11 := HF10.out.below hb11 HGL9.out; have y0 := hf11.cell 0; have y1 := hf11.cell 1; simp at y0 y1; have HB11 := Lib.hid (HB10.out.trans (hb11.mono HSZ9.out)); clear hf11 hb11 AS)
        go_ret
        exact ⟨rfl, HB11.out⟩

theorem lines_raw (u : Int) (nss : List (List Int)) (A : Option Addr) (c : Nat) (a q : Int) (m : Int) (w : World) (hu : (Lit.int .u8 u).wf = true)
    (hx : nss.length ≤ 5864062014805) (hm : ∀ j, (nss.getD j []).length * 2 ≤ 140737488351232) (hn : ∀ j i, (Lit.int .i16 ((nss.getD j []).getD i 0)).wf = true) (h : KRows .i16 w w.heap.size A nss)
    (ha : (Lit.int .u8 a).wf = true) (hq : (Lit.int .u8 q).wf = true) (hE : Env m w)
    (hg : w.cell? ⟨0, 0, none⟩ = some (.iface 89 (.agg #[.pointer (some ⟨7, 33, none⟩)]))) :
    Calls Tryd.prog 5 #[.agg #[.int .u8 u, .slice A nss.length c], .int .u8 a, .int .u8 q] w fun e w' => e = .returned (.bool true) ∧ Below w.heap.size w w' := by
  obtain ⟨v, rfl, hv⟩ := raw_nat03 hu
  obtain ⟨a, rfl, ha'⟩ := raw_nat03 ha
  obtain ⟨q, rfl, hq'⟩ := raw_nat03 hq
  exact lines03_any v nss A c a q m w hv ha' hq' (by omega) (raw_rows03 hm hn).1 (raw_rows03 hm hn).2 h hE hg
end Go.Proofs.YteolgfakhkeedaaDoor
