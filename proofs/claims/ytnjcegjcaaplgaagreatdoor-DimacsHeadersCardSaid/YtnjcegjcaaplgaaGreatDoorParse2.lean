/- What the parser answers for any text. -/
import Derived.Test.YtnjcegjcaaplgaaGreatDoorParse
namespace Go.Proofs.YtnjcegjcaaplgaaGreatDoor
open Go.RowKit
set_option linter.unusedSimpArgs false
set_option linter.unusedVariables false
set_option linter.unnecessarySimpa false

/-- the formula of a text, or its first error with its line -/
def ParsePost (R : Res) (w : World) (e : Ending) (w' : World) : Prop :=
  match R with
  | .ok v cls => ∃ (A : Option Addr) (c : Nat), e = .returned (.tuple #[.agg #[.int .i64 v, .slice A cls.length c], .nilIface]) ∧ Rows w' w'.heap.size A cls ∧ Below w.heap.size w w'
  | .bad line err => ∃ g : Nat, e = .returned (.tuple #[.agg #[.int .i64 0, .slice none 0 0], .iface 38 (.pointer (some ⟨g, 0, none⟩))]) ∧ w.heap.size ≤ g ∧ Blk w' g 43 #[.int .i64 line, .int .i64 err] ∧ Below w.heap.size w w'

theorem parseFrom_cons (r : Rd) (n : Nat) (l : List UInt8) (ls : List (List UInt8)) : parseFrom r n (l :: ls) = if skipLine (wordsOf l) then parseFrom r (n + 1) ls
    else if (takeLine r (wordsOf l)).2 = 0 then parseFrom (takeLine r (wordsOf l)).1 (n + 1) ls else .bad (n + 1) (takeLine r (wordsOf l)).2 := rfl

set_option maxRecDepth 100000 in
set_option maxHeartbeats 4000000 in
theorem parse_any (s : List UInt8) (m : Int) (w : World) (hs : s.length ≤ 4294967000) (hm : w.cell? ⟨1, 0, none⟩ = some (.int .i64 m)) :
    Calls Tryz.prog 5 #[.string ⟨s.toArray⟩] w (ParsePost (parseOf s) w) := by
  have HM := Lib.hid hm
  have hM0 : 1 < w.heap.size := by
    have := World.block_lt_of_cell? w _ hm
    simpa using this
  clear hm
  go_enter Tryz.func5, Tryz.ntmps5
  go_wp2
  obtain ⟨w1, hw1⟩ : ∃ w1, w1 = (w.alloc (.cells #[.int .i64 0, .slice none 0 0] 28)).alloc (.cells #[.bool false, .int .i64 0, .int .i64 0, .slice none 0 0, .slice none 0 0, .int .i64 0] 48) := ⟨_, rfl⟩
  have hblk0 : Blk w1 w.heap.size 28 #[.int .i64 0, .slice none 0 0] := by rw [hw1]; exact (Blk.new w _ _).alloc _
  have hblk : Blk w1 (w.heap.size + 1) 48 #[.bool false, .int .i64 0, .int .i64 0, .slice none 0 0, .slice none 0 0, .int .i64 0] := by
    rw [hw1]; have := Blk.new (w.alloc (.cells #[.int .i64 0, .slice none 0 0] 28)) 48 #[.bool false, .int .i64 0, .int .i64 0, .slice none 0 0, .slice none 0 0, .int .i64 0]; simpa using this
  have hsz1 : w1.heap.size = w.heap.size + 2 := by rw [hw1]; simp
  have hbel1 : Below w.heap.size w w1 := by rw [hw1]; exact ((Below.refl _ _).alloc (Nat.le_refl _) _).alloc (by simp) _
  have hrd : RdAt w1 (w.heap.size + 2) (w.heap.size + 1) Rd.start := ⟨none, 0, [], none, 0, w.heap.size + 2, hblk, World.ownsRow_nil _ _ _ _, OwnList.nil_, Nat.le_refl _, by omega, fun j g hj => absurd hj (by simp [Rd.start]), World.ownsRow_nil _ _ _ _⟩
  rw [← hw1]
  clear hw1 hblk hsz1
  have HB1 := Lib.hid hbel1
  have HBK1 := Lib.hid hblk0
  have HRD1 := Lib.hid hrd
  clear hbel1 hblk0 hrd
  go_loopg [0, 5, 6] (s.length + 2) (fun gk s0 s5 s6 wr => ∃ (r : Rd) (n : Nat) (more : Bool) (rest : List UInt8), gk = (if more then rest.length + 2 else 1) ∧ s0 = .string ⟨rest.toArray⟩ ∧ s5 = .int .i64 n ∧ s6 = .bool more ∧
      RdAt wr (w.heap.size + 2) (w.heap.size + 1) r ∧ Blk wr w.heap.size 28 #[.int .i64 0, .slice none 0 0] ∧ Below w.heap.size w wr ∧ r.size + rest.length ≤ 4294967000 ∧ n + rest.length ≤ s.length + (if more then 0 else 1) ∧
      parseOf s = parseFrom r n (linesLeft more rest))
  case atStart => exact ⟨Rd.start, 0, true, s, rfl, rfl, rfl, rfl, HRD1.out, HBK1.out, HB1.out, by simp [Rd.start, Rd.size, Rd.lits, litCount]; omega, by simp, rfl⟩
  case round =>
    obtain ⟨r, n, more, rest, rfl, rfl, rfl, rfl, hr, hbk, hb, hsz, hn, he⟩ := hrel
    obtain ⟨wo, rfl⟩ : ∃ wo : World, wo = wr := ⟨_, rfl⟩
    have HR := Lib.hid hr
    have HBK := Lib.hid hbk
    have HB := Lib.hid hb
    have HE := Lib.hid he
    have hlt := hr.lt
    clear hr hbk hb he HB1 HBK1 HRD1
    cases more with
    | true =>
      simp only [if_true] at hn
      have hcl := cut_lines rest
      have HC := Lib.hid (Tryz.strings_Cut ⟨rest.toArray⟩ ⟨#[10]⟩ m wo (by show rest.length < _; omega) ((HB.out.cell (p := ⟨1, 0, none⟩) hM0).trans HM.out))
      rw [show (⟨rest.toArray⟩ : ByteArray).data.toList = rest from rfl, show (⟨#[10]⟩ : ByteArray).data.toList = [10] from rfl] at HC
      generalize Lib.cut rest [10] = q at hcl HC
      obtain ⟨line, rest', more'⟩ := q
      obtain ⟨hcl1, hcl2⟩ := hcl
      simp only at hcl1 hcl2 HC
      have HE2 : Hid (parseOf s = parseFrom r n (line :: linesLeft more' rest')) := by
        have := HE.out
        rw [show linesLeft true rest = linesOf rest from rfl, hcl1] at this
        exact this
      clear HE hcl1
      go_wp2_with (go_at_call 12; refine HC.out.mono ?_; rintro e w' ⟨rfl, nq, rfl⟩; clear HC)
      have hr2 := HR.out.drewN nq
      have hbk2 : Blk (wo.drewN nq) w.heap.size 28 #[.int .i64 0, .slice none 0 0] := HBK.out
      have hb2 := below_drewN HB.out nq
      have hlt2 : w.heap.size + 1 < (wo.drewN nq).heap.size := hlt
      clear HR HBK HB hlt
      generalize wo.drewN nq = w2 at hr2 hbk2 hb2 hlt2
      have HR2 := Lib.hid hr2
      have HBK2 := Lib.hid hbk2
      have HB2 := Lib.hid hb2
      clear hr2 hbk2 hb2
      have HS := Lib.hid (skipped_any ⟨line.toArray⟩ w2)
      rw [show (⟨line.toArray⟩ : ByteArray).data.toList = line from rfl] at HS
      have HE3 := Lib.hid (parseFrom_cons r n line (linesLeft more' rest'))
      have hws := wordsOf_len line []
      rw [show wordsFrom [] line = wordsOf line from rfl] at hws
      simp only [List.length_nil, Nat.zero_add] at hws
      rcases hsk : skipLine (wordsOf line) with _ | _
      · rw [hsk] at HS HE3
        have HE4 : Hid (parseOf s = if (takeLine r (wordsOf line)).2 = 0 then parseFrom (takeLine r (wordsOf line)).1 (n + 1) (linesLeft more' rest') else .bad (n + 1) (takeLine r (wordsOf line)).2) := by
          have h1 := HE2.out
          rw [HE3.out] at h1
          exact h1
        clear hsk HE2 HE3
        have HT := fun w3 (hb3 : Below w2.heap.size w2 w3) => take_any r line (w.heap.size + 2) (w.heap.size + 1) w3 (HR2.out.below hb3 (Nat.le_refl _)) (by omega) (by omega)
        have hts := takeLine_size r (wordsOf line)
        generalize takeLine r (wordsOf line) = t at HE4 HT hts
        have HTT := Lib.hid HT
        clear HT
        go_wp2_with (go_at_call 13; refine HS.out.mono ?_; rintro e w3 ⟨rfl, hb3⟩; clear HS; have HB3 := Lib.hid hb3; have HT3 := Lib.hid (HTT.out w3 hb3); have hz3 := hb3.size; clear hb3 HTT)
        by_cases ht0 : t.2 = 0
        · have HE5 : Hid (parseOf s = parseFrom t.1 (n + 1) (linesLeft more' rest')) := by have := HE4.out; rw [if_pos ht0] at this; exact this
          have HT4 : Hid (Calls Tryz.prog 14 #[.pointer (some ⟨w.heap.size + 1, 0, none⟩), .string ⟨line.toArray⟩] w3 (ItemPost (w.heap.size + 2) (w.heap.size + 1) (t.1, 0) w3)) := by have := HT3.out; rw [← ht0]; exact this
          clear HE4 HT3 ht0
          go_wp2_with (go_at_call 14; refine HT4.out.mono ?_; rintro e w4 ⟨rfl, hr4, hb4⟩; clear HT4; have HR4 := Lib.hid hr4; have HB4 := Lib.hid hb4; clear hr4 hb4)
          have hb24 : Below (w.heap.size + 1) w2 w4 := (HB3.out.mono (by omega)).trans HB4.out
          have HBK4 := Lib.hid (HBK2.out.below hb24 (by omega))
          have HBB4 := Lib.hid (HB2.out.trans (hb24.mono (by omega)))
          clear hb24
          go_wp2
          go_roundg (if more' then rest'.length + 2 else 1)
          case measure => cases more' <;> simp at hcl2 ⊢ <;> omega
          case rel => exact ⟨t.1, n + 1, more', rest', rfl, rfl, by go_num, rfl, HR4.out, HBK4.out, HBB4.out, by omega, by cases more' <;> simp at hcl2 ⊢ <;> omega, HE5.out⟩
        · have HE5 : Hid (parseOf s = .bad (n + 1) t.2) := by have := HE4.out; rw [if_neg ht0] at this; exact this
          have hne : (t.2 == 0) = false := beq_false_of_ne ht0
          have hne2 : (t.2 != 0) = true := by rw [bne, hne]; rfl
          clear HE4
          go_wp2_with (go_at_call 14; refine HT3.out.mono ?_; rintro e w4 ⟨rfl, hr4, hb4⟩; clear HT3; have hb24 : Below (w.heap.size + 1) w2 w4 := (HB3.out.mono (by omega)).trans hb4; have hbk4 := HBK2.out.below hb24 (by omega); have hlt4 := hbk4.lt; have R0 := hbk4.cell 0; have R1 := hbk4.cell 1; have RF := hbk4.frozen; simp at R0 R1; have HBK4 := Lib.hid hbk4; have HBB4 := Lib.hid (HB2.out.trans (hb24.mono (by omega))); clear hr4 hb4 hb24 hbk4)
          go_wp2
          have hsz4 := HBB4.out.size
          have hbS := (HBK4.out.set_ 0 (.int .i64 0)).set_ 1 (.slice none 0 0)
          have hbA := hbS.alloc (.cells #[.int .i64 ((n : Int) + 1), .int .i64 t.2] 43)
          have hd0 := hbA.cell 0
          have hd1 := hbA.cell 1
          simp at hd0 hd1
          refine bodyPost_ret (v := .tuple #[.agg #[.int .i64 0, .slice none 0 0], .iface 38 (.pointer (some ⟨w4.heap.size, 0, none⟩))]) (by simp [results, Tryz.results5, go_sem, hd0, hd1]) rfl ?_
          rw [HE5.out]
          have hbf := Blk.new ((w4.setCell ⟨w.heap.size, 0, none⟩ (.int .i64 0)).setCell ⟨w.heap.size, 1, none⟩ (.slice none 0 0)) 43 #[.int .i64 ((n : Int) + 1), .int .i64 t.2]
          have hzz : ((w4.setCell ⟨w.heap.size, 0, none⟩ (.int .i64 0)).setCell ⟨w.heap.size, 1, none⟩ (.slice none 0 0)).heap.size = w4.heap.size := by simp
          rw [hzz] at hbf
          exact ⟨w4.heap.size, rfl, hsz4, hbf, ((HBB4.out.setCell (by simp) _).setCell (by simp) _).alloc (by rw [hzz]; exact hsz4) _⟩
      · rw [hsk] at HS HE3
        have HE4 : Hid (parseOf s = parseFrom r (n + 1) (linesLeft more' rest')) := by
          have h1 := HE2.out
          rw [HE3.out] at h1
          exact h1
        clear hsk HE2 HE3
        go_wp2_with (go_at_call 13; refine HS.out.mono ?_; rintro e w3 ⟨rfl, hb3⟩; clear HS; have HB3 := Lib.hid hb3; have HBK3 := Lib.hid (HBK2.out.below hb3 (by omega)); have HR3 := Lib.hid (HR2.out.below hb3 (Nat.le_refl _)); clear hb3)
        have HBB3 := Lib.hid (HB2.out.trans (HB3.out.mono (by omega)))
        go_wp2
        go_roundg (if more' then rest'.length + 2 else 1)
        case measure => cases more' <;> simp at hcl2 ⊢ <;> omega
        case rel => exact ⟨r, n + 1, more', rest', rfl, rfl, by go_num, rfl, HR3.out, HBK3.out, HBB3.out, by omega, by cases more' <;> simp at hcl2 ⊢ <;> omega, HE4.out⟩
    | false =>
      simp only [Bool.false_eq_true, if_false] at hn
      have hE0 : parseOf s = if endErr r = 0 then .ok r.vars r.cls else .bad n (endErr r) := HE.out
      have HN := Lib.hid (end_any r (w.heap.size + 2) (w.heap.size + 1) wo HR.out (by omega))
      generalize hee : endErr r = ee at hE0 HN
      clear hee HE
      by_cases h0 : ee = 0
      · subst h0
        have HE5 : Hid (parseOf s = .ok r.vars r.cls) := by rw [if_pos rfl] at hE0; exact hE0
        clear hE0
        go_wp2_with (go_at_call 15; refine HN.out.mono ?_; rintro e w4 ⟨rfl, hr4, hb4⟩; clear HN; have hbk4 := HBK.out.below hb4 (by omega); have hlt4 := hbk4.lt; have R0 := hbk4.cell 0; have R1 := hbk4.cell 1; have RF := hbk4.frozen; simp at R0 R1; obtain ⟨Af, cf, vs, Ao, co, mid, h1, h2, h3, h4, h5, h6, h7⟩ := hr4; have c2 := h1.cell 2; have c3 := h1.cell 3; simp at c2 c3; have HBK4 := Lib.hid hbk4; have HBB4 := Lib.hid (HB.out.trans (hb4.mono (by omega))); have H1 := Lib.hid h1; have H2 := Lib.hid h2; have H3 := Lib.hid h3; clear hb4 hbk4 h1 h2 h3 h4 h5 h6 h7 HR HBK)
        go_wp2
        have hd0 := (HBK4.out.set_ 0 (.int .i64 r.vars)).cell 0
        have hd1 := ((HBK4.out.set_ 0 (.int .i64 r.vars)).set_ 1 (.slice Af r.cls.length cf)).cell 1
        simp at hd0 hd1
        refine bodyPost_ret (v := .tuple #[.agg #[.int .i64 r.vars, .slice Af r.cls.length cf], .nilIface]) (by simp [results, Tryz.results5, go_sem, hd0, hd1]) rfl ?_
        rw [HE5.out]
        have hl2 := H3.out.kept (grown_setCell _ ⟨w.heap.size, 0, none⟩ (.int .i64 r.vars)) (H3.out.ne_blk HBK4.out (by decide))
        have hl3 := hl2.kept (grown_setCell _ ⟨w.heap.size, 1, none⟩ (.slice Af r.cls.length cf)) (hl2.ne_blk (HBK4.out.set_ 0 (.int .i64 r.vars)) (by decide))
        have hne := own_blk_ne H2.out HBK4.out (by decide)
        have ho2 := own_setCell H2.out (.int .i64 r.vars) (p := ⟨w.heap.size, 0, none⟩) hne
        have ho3 := own_setCell ho2 (.slice Af r.cls.length cf) (p := ⟨w.heap.size, 1, none⟩) (own_blk_ne ho2 (HBK4.out.set_ 0 (.int .i64 r.vars)) (by decide))
        exact ⟨Af, cf, rfl, hl3.rows ho3, (HBB4.out.setCell (by simp) _).setCell (by simp) _⟩
      · have HE5 : Hid (parseOf s = .bad n ee) := by rw [if_neg h0] at hE0; exact hE0
        have hne : (ee == 0) = false := beq_false_of_ne h0
        have hne2 : (ee != 0) = true := by rw [bne, hne]; rfl
        clear hE0
        go_wp2_with (go_at_call 15; refine HN.out.mono ?_; rintro e w4 ⟨rfl, hr4, hb4⟩; clear HN; have hbk4 := HBK.out.below hb4 (by omega); have hlt4 := hbk4.lt; have R0 := hbk4.cell 0; have R1 := hbk4.cell 1; have RF := hbk4.frozen; simp at R0 R1; have HBK4 := Lib.hid hbk4; have HBB4 := Lib.hid (HB.out.trans (hb4.mono (by omega))); clear hr4 hb4 hbk4 HR HBK)
        go_wp2
        have hsz4 := HBB4.out.size
        have hbS := (HBK4.out.set_ 0 (.int .i64 0)).set_ 1 (.slice none 0 0)
        have hbA := hbS.alloc (.cells #[.int .i64 (n : Int), .int .i64 ee] 43)
        have hd0 := hbA.cell 0
        have hd1 := hbA.cell 1
        simp at hd0 hd1
        refine bodyPost_ret (v := .tuple #[.agg #[.int .i64 0, .slice none 0 0], .iface 38 (.pointer (some ⟨w4.heap.size, 0, none⟩))]) (by simp [results, Tryz.results5, go_sem, hd0, hd1]) rfl ?_
        rw [HE5.out]
        have hbf := Blk.new ((w4.setCell ⟨w.heap.size, 0, none⟩ (.int .i64 0)).setCell ⟨w.heap.size, 1, none⟩ (.slice none 0 0)) 43 #[.int .i64 (n : Int), .int .i64 ee]
        have hzz : ((w4.setCell ⟨w.heap.size, 0, none⟩ (.int .i64 0)).setCell ⟨w.heap.size, 1, none⟩ (.slice none 0 0)).heap.size = w4.heap.size := by simp
        rw [hzz] at hbf
        exact ⟨w4.heap.size, rfl, hsz4, hbf, ((HBB4.out.setCell (by simp) _).setCell (by simp) _).alloc (by rw [hzz]; exact hsz4) _⟩
end Go.Proofs.YtnjcegjcaaplgaaGreatDoor
