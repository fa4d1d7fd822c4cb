/- The statement on whatever is done to a trail. -/
import Derived.Test.YtihljekdipengaaRuns12a
import Derived.Shelf.SlSortCmp.QuietGrown
import Derived.Deep.RegionHeld3
namespace Go.Proofs.Ytihljekdipengaa
open Go.RowKit Go.Maps
set_option linter.unusedVariables false
set_option linter.unusedSimpArgs false

theorem deed2 {w : World} {p : Nat} {a b c : Value} (h : Blk w p 32 #[a, b, c]) : w.cell? ⟨p, 1, none⟩ = some b ∧ w.cell? ⟨p, 2, none⟩ = some c := by
  have h1 := h.cell 1
  have h2 := h.cell 2
  simp at h1 h2
  exact ⟨h1, h2⟩
theorem mput0 {w : World} {base q mp kb : Nat} {t : TS} (h : Md w base q mp kb t) (hB : base ≤ w.heap.size) (hkb : kb ≤ 1000000) (l rs : Int) (h0 : -9223372036854775808 ≤ l ∧ l ≤ 9223372036854775807) :
    Calls Try.prog 10 #[.pointer (some ⟨q, 0, none⟩), .int .i64 l, .int .i64 rs, .int .i64 0] w fun e w' => e = .returned (.bool (t.takes l)) ∧ Md w' base q mp (kb + 1) (t.put l rs) ∧ Tn modT base mp w w' :=
  mput_any h hB hkb l rs 0 (by omega) h0 (put_facts h.good l rs).1 (put_facts h.good l rs).2
theorem mput1 {w : World} {base q mp kb : Nat} {t : TS} (h : Md w base q mp kb t) (hB : base ≤ w.heap.size) (hkb : kb ≤ 1000000) (l : Int) (h0 : -9223372036854775808 ≤ l ∧ l ≤ 9223372036854775807) :
    Calls Try.prog 10 #[.pointer (some ⟨q, 0, none⟩), .int .i64 l, .int .i64 (-1), .int .i64 1] w fun e w' => e = .returned (.bool (t.takes l)) ∧ Md w' base q mp (kb + 1) (t.dec l) ∧ Tn modT base mp w w' :=
  mput_any h hB hkb l (-1) 1 (by omega) h0 (dec_facts h.good l).1 (dec_facts h.good l).2

theorem grown_same {pr : Program} {f : FuncId} {args : Array Value} {W : World} {v : Value} (h : Calls pr f args W fun e w' => e = .returned v ∧ W = w') : Calls pr f args W fun e w' => e = .returned v ∧ ∃ q os', w' = Go.Sort.grow (W.drewN q) os' :=
  h.mono fun _ _ ⟨he, hw⟩ => ⟨he, 0, #[], by rw [← hw, Go.Sort.grow_empty]; rfl⟩
theorem grown_drew {pr : Program} {f : FuncId} {args : Array Value} {W : World} {v : Value} (h : Calls pr f args W fun e w' => e = .returned v ∧ ∃ m, w' = W.drewN m) : Calls pr f args W fun e w' => e = .returned v ∧ ∃ q os', w' = Go.Sort.grow (W.drewN q) os' :=
  h.mono fun _ _ ⟨he, m, hw⟩ => ⟨he, m, #[], by rw [hw, Go.Sort.grow_empty]⟩
theorem grown_gr {pr : Program} {f : FuncId} {args : Array Value} {W : World} {v : Value} (h : Calls pr f args W fun e w' => e = .returned v ∧ Gr W w') : Calls pr f args W fun e w' => e = .returned v ∧ ∃ q os', w' = Go.Sort.grow (W.drewN q) os' := h

set_option maxRecDepth 100000 in
set_option maxHeartbeats 60000000 in
theorem runs_in (kk : Nat) (hkk : kk ≤ 255) (ds : List DeedV) (A0 : Option Addr) (c0 : Nat) (w : World) (hn : ds.length ≤ 100) (hok : ∀ d ∈ ds, d.ok) (h : Deeds w w.heap.size A0 ds) :
    Calls Try.prog 3 #[.int .u8 kk, .slice A0 ds.length c0] w fun e w' => e = .returned (.bool true) ∧ Below w.heap.size w w' := by
  have hmm := @run_makeMap Try.prog
  have H := Lib.hid h
  have OK := Lib.hid hok
  obtain ⟨n, hn12⟩ : ∃ n, kk % 12 = n := ⟨_, rfl⟩
  have e1 : (kk : Int) % 12 = (n : Int) := by omega
  have e2 : Int.tmod (kk : Int) 12 = (n : Int) := by rw [Int.tmod_eq_emod_of_nonneg (by omega)]; exact e1
  have hn11 : n ≤ 11 := by omega
  have e3 : IntKind.u8.wrap (n : Int) = (n : Int) := by simp [IntKind.wrap, IntKind.signed, IntKind.bits]; omega
  have HNEW := Lib.hid (fun w => new_any n (by omega) w)
  clear h hok hn12
  go_enter Try.func3, Try.ntmps3
  go_wp2_with fail
  refine (fit_any w).mono ?_
  rintro e w1 ⟨rfl, hb⟩
  have HB1 := Lib.hid hb
  clear hb
  go_wp2_with fail
  refine (HNEW.out w1).mono ?_
  rintro e w2 ⟨g, P, rfl, ht, hb⟩
  obtain ⟨q, hq⟩ : ∃ q, q = w2.heap.size + 1 := ⟨_, rfl⟩
  obtain ⟨w4, hw4⟩ : ∃ w4, w4 = (w2.alloc (.map #[] 0)).alloc (.cells #[.int .i64 (n : Nat), .int .i64 0, .slice none 0 0, .map (some w2.heap.size)] 30) := ⟨_, rfl⟩
  have HR0 : Rn w w4 w1.heap.size w2.heap.size g P q w2.heap.size 0 n (TS.fresh n) := by
    have hbb : Below w2.heap.size w2 w4 := by rw [hw4]; exact ((Below.refl _ _).alloc (Nat.le_refl _) _).alloc (by simp) _
    refine ⟨ht.below hbb, by rw [hw4, hq]; exact Md.start (by omega), (HB1.out.trans (hb.mono HB1.out.size)).trans (hbb.mono (Nat.le_trans HB1.out.size hb.size)), hbb.size, HB1.out.size, hb.size, by simp [TS.fresh], fun r hr => by simp [TS.fresh] at hr⟩
  have HRS := Lib.hid HR0
  have HW4 := Lib.hid hw4
  obtain ⟨b2, hb2⟩ : ∃ b2, w2.heap.size = b2 := ⟨_, rfl⟩
  have HB2 := Lib.hid hb2
  have HQ := Lib.hid hq
  clear ht hb hw4 HR0 hb2 hq
  go_wp2_with fail
  rw [← HW4.out, ← HQ.out, HB2.out]
  rw [HB2.out] at HRS
  obtain ⟨b1, hb1⟩ : ∃ b1, w1.heap.size = b1 := ⟨_, rfl⟩
  rw [hb1] at HRS
  clear hb1
  go_loopg [38] (ds.length + 1) (fun gk i wr => ∃ (k : Nat) (t : TS), k ≤ ds.length ∧ gk = ds.length - k + 1 ∧ i = .int .i64 k ∧ Hid (Rn w wr b1 b2 g P q b2 k n t))
  case atStart => exact ⟨0, _, by omega, by omega, rfl, HRS⟩
  case round =>
    obtain ⟨k, t, hk, rfl, rfl, HR⟩ := hrel
    by_cases hlt : k < ds.length
    · obtain ⟨bd, off, rfl, _, d, hd, d0, d1, d2⟩ := (H.out.below HR.out.fr).at_ hlt
      have hdo : d.ok := by rw [hd, List.getD, List.getElem?_eq_getElem hlt]; exact OK.out _ (List.getElem_mem hlt)
      obtain ⟨o1, o2, o3⟩ := hdo
      have low := (u8_low o1).2.2
      obtain ⟨wd, hwd⟩ : ∃ wd, wd = wr.alloc (.cells #[.int .u8 d.kd, .int .i64 d.l, .int .i64 d.r] 32) := ⟨_, rfl⟩
      have hbd : Below wr.heap.size wr wd := by rw [hwd]; exact (Below.refl _ _).alloc (Nat.le_refl _) _
      have hDD : Blk wd wr.heap.size 32 #[.int .u8 d.kd, .int .i64 d.l, .int .i64 d.r] := by rw [hwd]; exact Blk.new wr _ _
      have HDD := Lib.hid hDD
      have HRd := Lib.hid (HR.out.below hbd)
      have HPD := Lib.hid (show wr.heap.size ≠ P by have := Blk.lt HR.out.tr.phs; omega)
      have HMD := Lib.hid (show wr.heap.size ≠ b2 by obtain ⟨kx, Dx, m1, _⟩ := HR.out.md.map; have := m1.lt; omega)
      have S0 := Lib.hid (deed2 hDD)
      have HS1 := Lib.hid (Nat.le_trans HRd.out.b12 HRd.out.s2)
      have HRe := Lib.hid (HRd.out.drewE (wx := wd.drew) ⟨1, rfl⟩)
      have HSe := Lib.hid (show b1 ≤ wd.drew.heap.size from HS1.out)
      have HDe := Lib.hid (show Blk wd.drew wr.heap.size 32 #[.int .u8 d.kd, .int .i64 d.l, .int .i64 d.r] from hDD)
      have HWD := Lib.hid hwd
      clear hd hwd hbd hDD
      go_upto_block 2 with fail
      go_cut [44, 97] (fun u v wx => ∃ t' : TS, Hid (Rn w wx b1 b2 g P q b2 (k + 1) n t') ∧ Hid (Blk wx wr.heap.size 32 #[.int .u8 d.kd, .int .i64 d.l, .int .i64 d.r]))
      case first =>
        rcases (show d.kd % 8 = 0 ∨ d.kd % 8 = 1 ∨ d.kd % 8 = 2 ∨ d.kd % 8 = 3 ∨ d.kd % 8 = 4 ∨ d.kd % 8 = 5 ∨ d.kd % 8 = 6 ∨ d.kd % 8 = 7 by omega) with h2 | h2 | h2 | h2 | h2 | h2 | h2 | h2
        · as_aux_lemma =>
            have low2 : (d.kd : Int) % 8 = 0 := by omega
            clear low h2 d0 d1 d2
            go_wp2_with fail
            rw [← HWD.out]
            go_region_held3 (fun w' => w'.cell? ⟨wr.heap.size, 1, none⟩ = some (.int .i64 d.l) ∧ w'.cell? ⟨wr.heap.size, 2, none⟩ = some (.int .i64 d.r))
              (first | exact S4.out | exact S3.out | exact S0.out | go_keep)
              (first
                | (go_at_call 9; refine (put_any HRe.out.tr HSe.out d.l d.r o2).mono ?_; rintro e w3 ⟨rfl, ht, hb⟩; have HH3 := Lib.hid (HRe.out.half ht hb (by decide)); have HD3 := Lib.hid (hb.deed HDe.out (by decide) HPD.out); have S3 := Lib.hid (deed2 HD3.out); clear ht hb)
                | (go_at_call 10; refine (mput0 HH3.out.md HH3.out.s2 (by omega) d.l d.r o2).mono ?_; rintro e w4 ⟨rfl, hm, hb⟩; have HR4 := Lib.hid (HH3.out.whole hm hb (by decide) (by rw [TS.put_ph]; exact HRe.out.len) (HRe.out.rs.put _ _ o3)); have HD4 := Lib.hid (hb.deed HD3.out (by decide) HMD.out); have S4 := Lib.hid (deed2 HD4.out); clear hm hb))
            all_goals
              go_wp2_with fail
              go_meet
              exact ⟨_, HR4, HD4⟩
        · as_aux_lemma =>
            have low2 : (d.kd : Int) % 8 = 1 := by omega
            clear low h2 d0 d1 d2
            go_wp2_with fail
            rw [← HWD.out]
            go_region_held3 (fun w' => w'.cell? ⟨wr.heap.size, 1, none⟩ = some (.int .i64 d.l) ∧ w'.cell? ⟨wr.heap.size, 2, none⟩ = some (.int .i64 d.r))
              (first | exact S4.out | exact S3.out | exact S0.out | go_keep)
              (first
                | (go_at_call 9; refine (put_any HRe.out.tr HSe.out d.l d.r o2).mono ?_; rintro e w3 ⟨rfl, ht, hb⟩; have HH3 := Lib.hid (HRe.out.half ht hb (by decide)); have HD3 := Lib.hid (hb.deed HDe.out (by decide) HPD.out); have S3 := Lib.hid (deed2 HD3.out); clear ht hb)
                | (go_at_call 10; refine (mput0 HH3.out.md HH3.out.s2 (by omega) d.l d.r o2).mono ?_; rintro e w4 ⟨rfl, hm, hb⟩; have HR4 := Lib.hid (HH3.out.whole hm hb (by decide) (by rw [TS.put_ph]; exact HRe.out.len) (HRe.out.rs.put _ _ o3)); have HD4 := Lib.hid (hb.deed HD3.out (by decide) HMD.out); have S4 := Lib.hid (deed2 HD4.out); clear hm hb))
            all_goals
              go_wp2_with fail
              go_meet
              exact ⟨_, HR4, HD4⟩
        · as_aux_lemma =>
            have low2 : (d.kd : Int) % 8 = 2 := by omega
            clear low h2 d0 d1 d2
            go_wp2_with fail
            rw [← HWD.out]
            go_region_held3 (fun w' => w'.cell? ⟨wr.heap.size, 1, none⟩ = some (.int .i64 d.l) ∧ w'.cell? ⟨wr.heap.size, 2, none⟩ = some (.int .i64 d.r))
              (first | exact S4.out | exact S3.out | exact S0.out | go_keep)
              (first
                | (go_at_call 9; refine (put_any HRe.out.tr HSe.out d.l d.r o2).mono ?_; rintro e w3 ⟨rfl, ht, hb⟩; have HH3 := Lib.hid (HRe.out.half ht hb (by decide)); have HD3 := Lib.hid (hb.deed HDe.out (by decide) HPD.out); have S3 := Lib.hid (deed2 HD3.out); clear ht hb)
                | (go_at_call 10; refine (mput0 HH3.out.md HH3.out.s2 (by omega) d.l d.r o2).mono ?_; rintro e w4 ⟨rfl, hm, hb⟩; have HR4 := Lib.hid (HH3.out.whole hm hb (by decide) (by rw [TS.put_ph]; exact HRe.out.len) (HRe.out.rs.put _ _ o3)); have HD4 := Lib.hid (hb.deed HD3.out (by decide) HMD.out); have S4 := Lib.hid (deed2 HD4.out); clear hm hb))
            all_goals
              go_wp2_with fail
              go_meet
              exact ⟨_, HR4, HD4⟩
        · as_aux_lemma =>
            have low2 : (d.kd : Int) % 8 = 3 := by omega
            clear low h2 d0 d1 d2
            go_wp2_with fail
            rw [← HWD.out]
            go_region_held3 (fun w' => w'.cell? ⟨wr.heap.size, 1, none⟩ = some (.int .i64 d.l))
              (first | exact S4.out | exact S3.out | exact S0.out.1 | go_keep)
              (first
                | (go_at_call 11; refine (decide_any HRe.out.tr HSe.out d.l o2).mono ?_; rintro e w3 ⟨rfl, ht, hb⟩; have HH3 := Lib.hid (HRe.out.half ht hb (by decide)); have HD3 := Lib.hid (hb.deed HDe.out (by decide) HPD.out); have S3 := Lib.hid ((deed2 HD3.out).1); clear ht hb)
                | (go_at_call 10; refine (mput1 HH3.out.md HH3.out.s2 (by omega) d.l o2).mono ?_; rintro e w4 ⟨rfl, hm, hb⟩; have HR4 := Lib.hid (HH3.out.whole hm hb (by decide) (by rw [TS.dec_ph]; exact HRe.out.len) (HRe.out.rs.dec _)); have HD4 := Lib.hid (hb.deed HD3.out (by decide) HMD.out); have S4 := Lib.hid ((deed2 HD4.out).1); clear hm hb))
            all_goals
              go_wp2_with fail
              go_meet
              exact ⟨_, HR4, HD4⟩
        · as_aux_lemma =>
            have low2 : (d.kd : Int) % 8 = 4 := by omega
            clear low h2 d0 d1 d2
            go_wp2_with fail
            rw [← HWD.out]
            go_region_held3 (fun w' => w'.cell? ⟨wr.heap.size, 1, none⟩ = some (.int .i64 d.l))
              (first | exact S4.out | exact S3.out | exact S0.out.1 | go_keep)
              (first
                | (go_at_call 11; refine (decide_any HRe.out.tr HSe.out d.l o2).mono ?_; rintro e w3 ⟨rfl, ht, hb⟩; have HH3 := Lib.hid (HRe.out.half ht hb (by decide)); have HD3 := Lib.hid (hb.deed HDe.out (by decide) HPD.out); have S3 := Lib.hid ((deed2 HD3.out).1); clear ht hb)
                | (go_at_call 10; refine (mput1 HH3.out.md HH3.out.s2 (by omega) d.l o2).mono ?_; rintro e w4 ⟨rfl, hm, hb⟩; have HR4 := Lib.hid (HH3.out.whole hm hb (by decide) (by rw [TS.dec_ph]; exact HRe.out.len) (HRe.out.rs.dec _)); have HD4 := Lib.hid (hb.deed HD3.out (by decide) HMD.out); have S4 := Lib.hid ((deed2 HD4.out).1); clear hm hb))
            all_goals
              go_wp2_with fail
              go_meet
              exact ⟨_, HR4, HD4⟩
        · as_aux_lemma =>
            have low2 : (d.kd : Int) % 8 = 5 := by omega
            clear low h2 d0 d1 d2
            go_wp2_with fail
            rw [← HWD.out]
            go_region_held3 (fun w' => w'.cell? ⟨wr.heap.size, 1, none⟩ = some (.int .i64 d.l))
              (first | exact S4.out | exact S3.out | exact S0.out.1 | go_keep)
              (first
                | (go_at_call 12; refine (back_any HRe.out.tr HSe.out d.l).mono ?_; rintro e w3 ⟨A3, c3, rfl, ho3, ht, hb⟩; have HH3 := Lib.hid (HRe.out.half ht hb (by decide)); have HD3 := Lib.hid (hb.deed HDe.out (by decide) HPD.out); have HO3 := Lib.hid ho3; have S3 := Lib.hid (deed2 HD3.out).1; clear ht hb ho3)
                | (go_at_call 13; refine (mback_any HH3.out.md HH3.out.s2 d.l).mono ?_; rintro e w4 ⟨A4, c4, rfl, ho4, hm, hb⟩; have HR4 := Lib.hid ((HH3.out.whole hm hb (by decide) (by rw [TS.back_ph]; exact HRe.out.len) (HRe.out.rs.back _)).mono (Nat.le_succ k)); have HD4 := Lib.hid (hb.deed HD3.out (by decide) HMD.out); have HO3b := Lib.hid (hb.own HO3.out (by decide) (fun e => by obtain ⟨kx, Dx, m1, _⟩ := HH3.out.md.map; exact map_ne_own m1 HO3.out e.symm)); have HO4 := Lib.hid ho4; have S4 := Lib.hid (deed2 HD4.out).1; clear hm hb ho4))
            all_goals
              obtain ⟨wo, rfl⟩ : ∃ wo : World, wo = wr := ⟨_, rfl⟩
              have hgb : (t.gone d.l).length ≤ 100000 := by
                have h1 := HO4.out.1
                have : (t.gone d.l).length ≤ t.recs.length := by rw [TS.gone_upto]; simp
                have := HRe.out.tr.good.len
                have := HRe.out.tr.good.few
                omega
              obtain ⟨gs, hgs⟩ : ∃ gs, t.gone d.l = gs := ⟨_, rfl⟩
              obtain ⟨gl, hgl⟩ : ∃ gl, gs.length = gl := ⟨_, rfl⟩
              have HO3c := HO3b.out
              have HO4c := HO4.out
              rw [hgs, hgl] at HO3c HO4c hgb
              rw [hgs, hgl]
              have HO3c := Lib.hid HO3c
              have HO4c := Lib.hid HO4c
              have HGL := Lib.hid hgl
              clear hgs hgl
              go_wp2_with fail
              go_loopg [127] (gl + 1) (fun gk iv wr => ∃ (i a : Nat), i ≤ gl ∧ gk = gl - i + 1 ∧ iv = .int .i64 i ∧ wr = w4.drewN a)
              case atStart => exact ⟨0, 0, by omega, by omega, rfl, rfl⟩
              case round =>
                obtain ⟨i, a, hi1, rfl, rfl, rfl⟩ := hrel
                by_cases hlt2 : i < gl
                · obtain ⟨La, rfl, -, -⟩ := own_addr HO3c.out (by omega)
                  obtain ⟨Lb, rfl, -, -⟩ := own_addr HO4c.out (by omega)
                  have q1 := World.ownsRow.cellAt HO3c.out i (by omega)
                  have q2 := World.ownsRow.cellAt HO4c.out i (by omega)
                  have er : (gs.map (Value.int .i64))[i]? = some (.int .i64 (gs.getD i 0)) := by
                    have : i < gs.length := by have := HGL.out; omega
                    rw [List.getElem?_map, List.getElem?_eq_getElem this]
                    simp [List.getD, this]
                  rw [er] at q1 q2
                  obtain ⟨x, hx⟩ : ∃ x, gs.getD i 0 = x := ⟨_, rfl⟩
                  rw [hx] at q1 q2
                  have hiI : (i : Int) < (gl : Int) := by omega
                  clear er hx
                  go_wp2_with fail
                  go_quiet (fail)
                  go_wp2_with fail
                  go_roundg (gl - i)
                  case measure => omega
                  case rel => exact ⟨i + 1, _, by omega, by omega, by go_num, rfl⟩
                · go_wp2_with fail
                  go_meet
                  exact ⟨_, Lib.hid (HR4.out.drewE ⟨a, rfl⟩), Lib.hid (HD4.out.drewN a)⟩
        · as_aux_lemma =>
            have low2 : (d.kd : Int) % 8 = 6 := by omega
            clear low h2 d0 d1 d2
            have hlen := HRd.out.len
            by_cases h1 : 1 ≤ d.l
            · by_cases h2 : d.l ≤ (n : Int)
              · have HV := Lib.hid (show t.isVar d.l = true from TS.isVar_iff.2 (by omega))
                obtain ⟨bv, hbv⟩ : ∃ bv, (bits BinOp.and IntKind.i64 d.r 1 == 1) = bv := ⟨_, rfl⟩
                have HSET := Lib.hid (setphase_any HRd.out.tr d.l bv)
                rw [HV.out] at HSET
                go_wp2_with fail
                rw [← HWD.out]
                refine HSET.out.mono ?_
                rintro e w3 ⟨rfl, ht, hb⟩
                have HH3 := Lib.hid (HRd.out.half ht hb (by decide))
                have HD3 := Lib.hid (hb.deed HDD.out (by decide) HPD.out)
                clear ht hb
                obtain ⟨s1, s2⟩ := deed2 HD3.out
                have c3 : w3.cell? ⟨q, 3, none⟩ = some (.map (some b2)) := by
                  obtain ⟨A, c, bb, _⟩ := HH3.out.md.ex
                  have := bb.cell 3
                  simpa using this
                obtain ⟨w5, run5, M5, T5⟩ := HH3.out.md.phase HH3.out.s2 (by omega) (l := d.l) (by omega) bv
                obtain ⟨w6, run6, M6, T6⟩ := (HH3.out.drewE (wx := w3.drew) ⟨1, rfl⟩).md.phase HH3.out.s2 (by omega) (l := d.l) (by omega) bv
                have R5 := Lib.hid (HH3.out.whole M5 T5 (by decide) (by rw [TS.setPh_ph]; exact hlen) (HRd.out.rs.setPh _ _))
                have R6 := Lib.hid ((HH3.out.drewE (wx := w3.drew) ⟨1, rfl⟩).whole M6 T6 (by decide) (by rw [TS.setPh_ph]; exact hlen) (HRd.out.rs.setPh _ _))
                have D5 := Lib.hid (T5.deed HD3.out (by decide) HMD.out)
                have D6 := Lib.hid (T6.deed (show Blk w3.drew wr.heap.size 32 _ from HD3.out) (by decide) HMD.out)
                clear M5 T5 M6 T6 hlen
                go_wp2_with fail
                go_region
                all_goals
                  go_wp2_with fail
                  go_meet
                  first
                    | exact ⟨_, R6, D6⟩
                    | exact ⟨_, Lib.hid (R5.out.drewE ⟨1, rfl⟩), Lib.hid (D5.out.drewN 1)⟩
                    | exact ⟨_, R5, D5⟩
              · have HV := Lib.hid (show t.isVar d.l = false by rw [Bool.eq_false_iff]; intro e; have := TS.isVar_iff.1 e; omega)
                obtain ⟨bv, hbv⟩ : ∃ bv, (bits BinOp.and IntKind.i64 d.r 1 == 1) = bv := ⟨_, rfl⟩
                have HSET := Lib.hid (setphase_any HRd.out.tr d.l bv)
                rw [HV.out] at HSET
                go_wp2_with fail
                rw [← HWD.out]
                refine HSET.out.mono ?_
                rintro e w3 ⟨rfl, ht, hb⟩
                have HH3 := Lib.hid (HRd.out.half ht hb (by decide))
                have HD3 := Lib.hid (hb.deed HDD.out (by decide) HPD.out)
                clear ht hb
                have hno : t.setPh d.l bv = t := by unfold TS.setPh; rw [if_neg (by simp [HV.out])]
                have R4 := Lib.hid (show Rn w w3 b1 b2 g P q b2 (k + 1) n t from ⟨hno ▸ HH3.out.tr, HH3.out.md.mono (Nat.le_succ k), HH3.out.fr, HH3.out.s2, HH3.out.b01, HH3.out.b12, hlen, HRd.out.rs⟩)
                clear hlen hno
                go_wp2_with fail
                go_meet
                exact ⟨_, R4, HD3⟩
            · have HV := Lib.hid (show t.isVar d.l = false by rw [Bool.eq_false_iff]; intro e; have := TS.isVar_iff.1 e; omega)
              obtain ⟨bv, hbv⟩ : ∃ bv, (bits BinOp.and IntKind.i64 d.r 1 == 1) = bv := ⟨_, rfl⟩
              have HSET := Lib.hid (setphase_any HRd.out.tr d.l bv)
              rw [HV.out] at HSET
              go_wp2_with fail
              rw [← HWD.out]
              refine HSET.out.mono ?_
              rintro e w3 ⟨rfl, ht, hb⟩
              have HH3 := Lib.hid (HRd.out.half ht hb (by decide))
              have HD3 := Lib.hid (hb.deed HDD.out (by decide) HPD.out)
              clear ht hb
              have hno : t.setPh d.l bv = t := by unfold TS.setPh; rw [if_neg (by simp [HV.out])]
              have R4 := Lib.hid (show Rn w w3 b1 b2 g P q b2 (k + 1) n t from ⟨hno ▸ HH3.out.tr, HH3.out.md.mono (Nat.le_succ k), HH3.out.fr, HH3.out.s2, HH3.out.b01, HH3.out.b12, hlen, HRd.out.rs⟩)
              clear hlen hno
              go_wp2_with fail
              go_meet
              exact ⟨_, R4, HD3⟩
        · as_aux_lemma =>
            have low2 : (d.kd : Int) % 8 = 7 := by omega
            clear low h2 d0 d1 d2
            go_wp2_with fail
            rw [← HWD.out]
            obtain ⟨wA, wB, D1, run1, run2, om1, mf1, bb1, bA⟩ := refs_map wd o3 o2 (by omega : -9223372036854775808 ≤ (3 : Int) ∧ (3 : Int) ≤ 9223372036854775807) (by omega : -9223372036854775808 ≤ (4 : Int) ∧ (4 : Int) ≤ 9223372036854775807)
            obtain ⟨wC, wD, D2, run3, run4, om2, mf2, bb2, bC⟩ := refs_map wd (by omega : -9223372036854775808 ≤ (3 : Int) ∧ (3 : Int) ≤ 9223372036854775807) (by omega : -9223372036854775808 ≤ (4 : Int) ∧ (4 : Int) ≤ 9223372036854775807) o3 o2
            have WAY1 := Lib.hid (And.intro om1 (And.intro mf1 (And.intro (refsF_ok (k1 := d.r) (k2 := 3) o2 (by omega : -9223372036854775808 ≤ (4 : Int) ∧ (4 : Int) ≤ 9223372036854775807)) bb1)))
            have WAY2 := Lib.hid (And.intro om2 (And.intro mf2 (And.intro (refsF_ok (k1 := 3) (k2 := d.r) (by omega : -9223372036854775808 ≤ (4 : Int) ∧ (4 : Int) ≤ 9223372036854775807) o2) bb2)))
            obtain ⟨s1, s2⟩ := S0.out
            obtain ⟨sA1, sA2⟩ := deed2 (HDD.out.below bA HDD.out.lt)
            obtain ⟨sC1, sC2⟩ := deed2 (HDD.out.below bC HDD.out.lt)
            have hwdz : wr.heap.size < wd.heap.size := HDD.out.lt
            clear om1 mf1 bb1 om2 mf2 bb2 bA bC
            go_cut [14] (fun v wx => v = .map (some wd.heap.size) ∧ ∃ (D : DataW Unit) (f : Int → Option Int), Hid (wx.ownsMap Try.prog 3 (plainElem (H := Unit) Try.prog 3) wd.heap.size 2 D) ∧ Hid (MapF D f) ∧ Hid (FOk f) ∧ Hid (Below wd.heap.size wd wx))
            case first =>
              go_region
              all_goals
                go_wp2_with fail
                go_meet
                first
                  | exact ⟨rfl, _, _, Lib.hid WAY1.out.1, Lib.hid WAY1.out.2.1, Lib.hid WAY1.out.2.2.1, Lib.hid WAY1.out.2.2.2⟩
                  | exact ⟨rfl, _, _, Lib.hid WAY2.out.1, Lib.hid WAY2.out.2.1, Lib.hid WAY2.out.2.2.1, Lib.hid WAY2.out.2.2.2⟩
            case rest =>
              clear run1 run2 run3 run4 s1 s2 sA1 sA2 sC1 sC2 WAY1 WAY2
              obtain ⟨wf, rfl⟩ : ∃ wf : World, wf = wc := ⟨_, rfl⟩
              obtain ⟨rfl, D, f, HMAP, HMF, HFO, HBF⟩ := hcut
              have HRf := Lib.hid (HRd.out.below HBF.out)
              have HDf := Lib.hid (HDD.out.below HBF.out HDD.out.lt)
              have HSf := Lib.hid (Nat.le_trans HRf.out.b12 HRf.out.s2)
              obtain ⟨RB, hRB⟩ : ∃ RB, wd.heap.size = RB := ⟨_, rfl⟩
              have HRB := Lib.hid (And.intro hRB (show RB ≠ P ∧ RB ≠ b2 from ⟨by have := Blk.lt HRd.out.tr.phs; omega, by obtain ⟨kx, Dx, m1, _⟩ := HRd.out.md.map; have := m1.lt; omega⟩))
              rw [hRB] at HMAP
              rw [hRB]
              clear hRB hwdz
              go_wp2_with fail
              refine (moved_any HRf.out.tr HSf.out HMAP.out HMF.out HRf.out.rs).mono ?_
              rintro e w3 ⟨rfl, ht, hb⟩
              have HH3 := Lib.hid (HRf.out.half ht hb (by decide))
              have HD3 := Lib.hid (hb.deed HDf.out (by decide) HPD.out)
              have HM3 := Lib.hid (map_tn HMAP.out hb HRB.out.2.1)
              clear ht hb
              obtain ⟨A, c, x1, x2⟩ := HH3.out.md.ex
              obtain ⟨kx, Dx, x3, x4, x5⟩ := HH3.out.md.map
              have c2 := x1.cell 2
              simp at c2
              have hfew := HH3.out.md.good.few
              have hml := HH3.out.md.good.len
              obtain ⟨m, hm⟩ : ∃ m, t.recs.length = m := ⟨_, rfl⟩
              rw [hm] at x1 x2 c2 hml
              have HX1 := Lib.hid x1
              have HX2 := Lib.hid x2
              have HX3 := Lib.hid x3
              have HX5 := Lib.hid (And.intro x4 x5)
              have HMM := Lib.hid hm
              have HG3 := Lib.hid HH3.out.md.good
              clear x1 x2 x3 x4 x5 hm
              obtain ⟨wo, rfl⟩ : ∃ wo : World, wo = wr := ⟨_, rfl⟩
              go_wp2_with fail
              go_loopg [59] (m + 1) (fun gk iv wr => ∃ i : Nat, i ≤ m ∧ gk = m - i + 1 ∧ iv = .int .i64 i ∧ Hid (Blk wr q 30 #[.int .i64 (t.ph.length : Nat), .int .i64 (t.starts.length : Nat), .slice A m c, .map (some b2)]) ∧ Hid (wr.ownsRow b2 42 3 (.slice A m c) m (stepsV (movK f i t.recs))) ∧
                Hid (wr.ownsMap Try.prog 3 (plainElem (H := Unit) Try.prog 4) b2 kx Dx) ∧ Hid (wr.ownsMap Try.prog 3 (plainElem (H := Unit) Try.prog 3) RB 2 D) ∧ Hid (Tn modT b2 b2 w3 wr))
              case atStart => exact ⟨0, by omega, by omega, rfl, HX1, Lib.hid (by rw [movK_zero]; exact HX2.out), HX3, HM3, Lib.hid (Tn.refl _)⟩
              case round =>
                obtain ⟨i, hi1, rfl, rfl, KX1, KX2, KX3, KM, KT⟩ := hrel
                by_cases hlt2 : i < m
                · obtain ⟨r, hr⟩ : ∃ r, t.recs[i]? = some r := ⟨_, List.getElem?_eq_getElem (by have := HMM.out; omega)⟩
                  obtain ⟨G, rfl⟩ : ∃ G, A = some ⟨G, 0, none⟩ := by
                    rcases KX2.out.2 with ⟨hv, hz⟩ | ⟨G, cap, cur, hv, hb, hh, _⟩
                    · omega
                    · injection hv with hv
                      exact ⟨G, hv⟩
                  have hget := movK_get f hr
                  obtain ⟨t0, t1, t2⟩ := stepsV_get hget
                  have y0 := (World.ownsRow.cellAt KX2.out (i * 3) (by omega)).trans t0
                  have y1 := (World.ownsRow.cellAt KX2.out (i * 3 + 1) (by omega)).trans t1
                  have y2 := (World.ownsRow.cellAt KX2.out (i * 3 + 2) (by omega)).trans t2
                  have yf := World.ownsRow.frozenAt KX2.out (i * 3 + 2)
                  have c2 := KX1.out.cell 2
                  simp at c2
                  have hrr := HRf.out.rs r (List.mem_of_getElem? hr)
                  obtain ⟨hh, hat0⟩ := HMF.out r.rs hrr.1 hrr.2
                  have hGl : G < wr.heap.size := (KX2.out.lt G rfl).2
                  have hql : q < wr.heap.size := KX1.out.lt
                  have HSTEP := Lib.hid (movK_step f hr)
                  have HWHY := Lib.hid (fun y => stepsV_why hget y)
                  obtain ⟨wl, hwl⟩ : ∃ wl, wl = wr.alloc (.cells #[.int .i64 r.l, .int .i64 (r.lev : Nat), .int .i64 r.rs] 42) := ⟨_, rfl⟩
                  have hbl : Below wr.heap.size wr wl := by rw [hwl]; exact (Below.refl _ _).alloc (Nat.le_refl _) _
                  have LX1 := Lib.hid (KX1.out.below hbl hql)
                  have LX2 := Lib.hid (own3_below KX2.out hbl fun g hg => (KX2.out.lt g hg).2)
                  have LX3 := Lib.hid (show wl.ownsMap Try.prog 3 (plainElem (H := Unit) Try.prog 4) b2 kx Dx by rw [hwl]; exact KX3.out.alloc _)
                  have LM := Lib.hid (show wl.ownsMap Try.prog 3 (plainElem (H := Unit) Try.prog 3) RB 2 D by rw [hwl]; exact KM.out.alloc _)
                  have LT := Lib.hid (KT.out.trans (Tn.of_below hbl (Nat.le_trans HH3.out.s2 KT.out.low.size)))
                  have HWL := Lib.hid hwl
                  have HLZ := Lib.hid (show wl.heap.size = wr.heap.size + 1 by rw [hwl]; simp)
                  obtain ⟨rl, hrl⟩ : ∃ rl, r.l = rl := ⟨_, rfl⟩
                  obtain ⟨lv, hlv⟩ : ∃ lv, r.lev = lv := ⟨_, rfl⟩
                  obtain ⟨z, hz⟩ : ∃ z, r.rs = z := ⟨_, rfl⟩
                  rw [hrl] at y0
                  rw [hlv] at y1
                  rw [hz] at y2 hh hat0 hrr
                  rcases hfz : f z with _ | y
                  · rw [hfz] at hh
                    simp only [Option.isSome_none] at hh
                    have HSAME := Lib.hid (movK_same f hr (by rw [hz]; exact hfz))
                    rw [hrl, hlv, hz] at HWL
                    clear hr hget t0 t1 t2 hat0 hfz hwl hbl hrl hlv hz
                    go_wp2_with (at_lookup; rw [← HWL.out]; refine wpList_lookup_own_ok_int _ rfl _ _ 39 rfl 3 3 .i64 intLaw12 Try.underlying39 Try.underlying3 (zeroI12 _) RB 2 D rfl LM.out _ _ rfl (Maps.keyOf_int_mk Try.underlying3 (WalkArith.wf_i64 (by omega))) ?_; intro c9 hat hwc)
                    go_roundg (m - i)
                    case measure => omega
                    case rel => exact ⟨i + 1, by omega, by omega, by go_num, LX1, Lib.hid (by rw [HSAME.out]; exact LX2.out), LX3, LM, LT⟩
                  · rw [hfz] at hh
                    simp only [Option.isSome_some] at hh
                    have hy := hat0 y hfz
                    have HYY := Lib.hid hy
                    have HMV := Lib.hid (show moveR f r = ⟨r.l, r.lev, y⟩ by unfold moveR; rw [hz, hfz]; rfl)
                    have PX2 := own3_put LX2.out (i * 3 + 2) (.int .i64 y)
                    rw [HWHY.out y, ← HMV.out, HSTEP.out] at PX2
                    have hGblk := KX2.out
                    have hqG : q ≠ G := fun e => (own3_blk LX2.out LX1.out (by decide)) (by rw [e]; rfl)
                    have MX1 := Lib.hid (LX1.out.farN12 hqG (i * 3 + 2) (.int .i64 y))
                    have MX2 := Lib.hid PX2
                    have MX3 := Lib.hid (LX3.out.setCell (a := ⟨G, i * 3 + 2, none⟩) (fun e => (map_ne_own LX3.out LX2.out) (by rw [e]; rfl)) (.int .i64 y))
                    have MM := Lib.hid (LM.out.setCell (a := ⟨G, i * 3 + 2, none⟩) (fun e => (map_ne_own LM.out LX2.out) (by rw [e]; rfl)) (.int .i64 y))
                    have MT := Lib.hid (LT.out.grown3 (v := .slice (some ⟨G, 0, none⟩) m c) LX2.out (by simp [modT]) (grown_setCell wl ⟨G, i * 3 + 2, none⟩ (.int .i64 y)) (by have := HH3.out.s2; have := KT.out.low.size; have := HLZ.out; omega))
                    have z2 : wl.cell? ⟨G, i * 3 + 2, none⟩ = some (.int .i64 z) := by rw [hwl]; exact (World.cell?_alloc_lt wr _ ⟨G, i * 3 + 2, none⟩ hGl).trans y2
                    have zf := World.ownsRow.frozenAt LX2.out (i * 3 + 2)
                    have zc := LX1.out.cell 2
                    simp at zc
                    rw [hrl, hlv, hz] at HWL
                    clear hr hget t0 t1 t2 hat0 hfz hwl hbl hrl hlv hz PX2 hGblk hy
                    go_wp2_with (at_lookup; rw [← HWL.out]; refine wpList_lookup_own_ok_int _ rfl _ _ 39 rfl 3 3 .i64 intLaw12 Try.underlying39 Try.underlying3 (zeroI12 _) RB 2 D rfl LM.out _ _ rfl (Maps.keyOf_int_mk Try.underlying3 (WalkArith.wf_i64 (by omega))) ?_; intro c9 hat hwc; obtain rfl : c9 = y := by rw [HYY.out] at hat; injection hat with hat; injection hat with _ hat; exact hat.symm)
                    go_roundg (m - i)
                    case measure => omega
                    case rel => exact ⟨i + 1, by omega, by omega, by go_num, MX1, MX2, MX3, MM, MT⟩
                · obtain rfl : m = i := by omega
                  have hMd : Md wr b2 q b2 (k + 1) (t.moved f) := by
                    have hsf := KX2.out
                    rw [movK_full f (by rw [HMM.out]; exact Nat.le_refl _)] at hsf
                    have hrl : (t.moved f).recs = t.recs.map (moveR f) := rfl
                    have hll : (t.moved f).recs.length = m := by rw [hrl]; simp [HMM.out]
                    refine ⟨⟨A, c, ?_, ?_⟩, ⟨kx, Dx, KX3.out, by have := HX5.out.1; omega, HX5.out.2⟩, HG3.out.moved f, HH3.out.md.hq, HH3.out.md.hmp⟩
                    · rw [hll]; exact KX1.out
                    · rw [hll, hrl]; exact hsf
                  have R4 := Lib.hid (HH3.out.whole hMd KT.out (by decide) (show (t.moved f).ph.length = n from HRf.out.len) (HRf.out.rs.moved HFO.out))
                  have D4 := Lib.hid (KT.out.deed HD3.out (by decide) HMD.out)
                  clear hMd
                  go_wp2_with fail
                  go_meet
                  exact ⟨_, R4, D4⟩
      case rest =>
        as_aux_lemma =>
          clear d0 d1 d2 low
          obtain ⟨wy, rfl⟩ : ∃ wy : World, wy = wc := ⟨_, rfl⟩
          obtain ⟨wo, rfl⟩ : ∃ wo : World, wo = wr := ⟨_, rfl⟩
          obtain ⟨t, HR, HD⟩ := hcut
          obtain ⟨s1, -⟩ := deed2 HD.out
          obtain ⟨A, c, x1, x2⟩ := HR.out.md.ex
          have c1 := x1.cell 1
          have c2 := x1.cell 2
          simp at c1 c2
          have hlen := HR.out.len
          have hgood := HR.out.tr.good
          have hmlen := hgood.len
          obtain ⟨m, hm⟩ : ∃ m, t.recs.length = m := ⟨_, rfl⟩
          obtain ⟨L, hL⟩ : ∃ L, t.starts.length = L := ⟨_, rfl⟩
          rw [hlen, hm] at hmlen
          have hdl := HD.out.lt
          have hql := x1.lt
          have hkeep : ∀ (a : Nat) (os : Array Obj) (p : Addr), p.block < wy.heap.size → (Go.Sort.grow (wy.drewN a) os).cell? p = wy.cell? p := fun a os p hp => Go.Sort.cell?_grow (wy.drewN a) os p hp
          have f0 : ∀ (a : Nat) (os : Array Obj), (Go.Sort.grow (wy.drewN a) os).cell? ⟨wo.heap.size, 1, none⟩ = some (.int .i64 d.l) := fun a os => (hkeep a os _ hdl).trans s1
          have f1 : ∀ (a : Nat) (os : Array Obj), (Go.Sort.grow (wy.drewN a) os).cell? ⟨q, 1, none⟩ = some (.int .i64 (L : Nat)) := fun a os => by rw [← hL]; exact (hkeep a os _ hql).trans c1
          have f2 : ∀ (a : Nat) (os : Array Obj), (Go.Sort.grow (wy.drewN a) os).cell? ⟨q, 2, none⟩ = some (.slice A m c) := fun a os => by rw [← hm]; exact (hkeep a os _ hql).trans c2
          have HRW := fun (a : Nat) (os : Array Obj) => HR.out.below (wx := Go.Sort.grow (wy.drewN a) os) (Gr.below ⟨a, os, rfl⟩)
          have CLev := Lib.hid (fun (a : Nat) (os : Array Obj) => grown_same (hL ▸ level_any (HRW a os).tr))
          have CLen := Lib.hid (fun (a : Nat) (os : Array Obj) => grown_same (hm ▸ len_any (HRW a os).tr))
          have CFul := Lib.hid (fun (a : Nat) (os : Array Obj) => grown_drew (hlen ▸ hm ▸ full_any (HRW a os).tr))
          have CSam := Lib.hid (fun (a : Nat) (os : Array Obj) => grown_gr (same_any (HRW a os).tr (HRW a os).md d.l o2))
          have hat1 : atT t.recs (m : Int) = 0 := by unfold atT; rw [if_pos (by omega), Int.toNat_natCast, List.getElem?_eq_none (by omega)]; rfl
          have hat2 : atT t.recs (-1) = 0 := by unfold atT; rw [if_neg (by omega)]
          have CAt1 := Lib.hid (fun (a : Nat) (os : Array Obj) => grown_drew (hat1 ▸ at_any12 (HRW a os).tr (m : Int)))
          have CAt2 := Lib.hid (fun (a : Nat) (os : Array Obj) => grown_drew (hat2 ▸ at_any12 (HRW a os).tr (-1)))
          have HM := Lib.hid hm
          have HG := Lib.hid hgood
          clear x1 x2 hlen hgood hm hL hdl hql hkeep HRW hat1 hat2 s1
          go_upto_region 45 with fail
          go_cut [223] (fun v wx => v = .bool false ∧ Hid (Gr wy wx))
          case first =>
            obtain ⟨b, hb⟩ : ∃ b, decide (m = n) = b := ⟨_, rfl⟩
            have hb2 : ((m : Int) == (n : Int)) = b := by rw [← hb, Bool.eq_iff_iff]; simp; omega
            have CFu := Lib.hid (fun a os => hb ▸ CFul.out a os)
            clear hb CFul
            refine wp_region_quiet_grown (by kernel_rfl) (by kernel_rfl) ?_
            repeat (go_big_quiet_step (first
                | (go_at_call 16; with_reducible exact Calls.grown_of (CLev.out _ _))
                | (go_at_call 17; with_reducible exact Calls.grown_of (CLen.out _ _))
                | (go_at_call 18; with_reducible exact Calls.grown_of (CFu.out _ _))
                | (go_at_call 19; with_reducible exact Calls.grown_of (CSam.out _ _))
                | (go_at_call 20; first | with_reducible exact Calls.grown_of (CAt1.out _ _) | with_reducible exact Calls.grown_of (CAt2.out _ _))))
            refine wpQuiet_nil ?_
            rintro _ ⟨⟨nq, osq⟩, rfl⟩
            go_wp2_with fail
            go_meet
            exact ⟨rfl, Lib.hid ⟨_, _, rfl⟩⟩
          case rest =>
            obtain ⟨wz, rfl⟩ : ∃ wz : World, wz = wc := ⟨_, rfl⟩
            obtain ⟨rfl, HGR⟩ := hcut
            have HRz := Lib.hid (HR.out.below HGR.out.below)
            clear f0 f1 f2 c1 c2 CLev CLen CFul CSam CAt1 CAt2
            go_wp2_with fail
            go_loopg [19] (2 * n + 4) (fun gk iv wr => ∃ (j : Nat) (x : Int), j ≤ 2 * n + 3 ∧ gk = 2 * n + 3 - j + 1 ∧ x = (j : Int) - n - 1 ∧ iv = .int .i64 x ∧ Hid (Rn w wr b1 b2 g P q b2 (k + 1) n t))
            case atStart => exact ⟨0, _, by omega, by omega, by first | rfl | omega | (simp; omega), rfl, HRz⟩
            case round =>
              obtain ⟨j, x, hj, rfl, hx, rfl, HRj⟩ := hrel
              by_cases hlt2 : j < 2 * n + 3
              · have hxl : x ≤ (n : Int) + 1 := by omega
                have hxb : -20 ≤ x ∧ x ≤ 20 := by omega
                have HXJ := Lib.hid hx
                clear hx
                go_wp2_with fail
                refine (same_any HRj.out.tr HRj.out.md x (by omega)).mono ?_
                rintro e w9 ⟨rfl, hg⟩
                have HR9 := Lib.hid (HRj.out.below hg.below)
                clear hg
                go_wp2_with fail
                go_roundg (2 * n + 3 - j)
                case measure => omega
                case rel => exact ⟨j + 1, x + 1, by omega, by omega, by have := HXJ.out; omega, by first | rfl | go_num, HR9⟩
              · have hxl : ¬ x ≤ (n : Int) + 1 := by omega
                clear hx
                obtain ⟨wv, rfl⟩ : ∃ wv : World, wv = wr := ⟨_, rfl⟩
                obtain ⟨A5, c5, x1, x2⟩ := HRj.out.md.ex
                have c2 := x1.cell 2
                simp at c2
                rw [HM.out] at c2 x2
                have HX2 := Lib.hid x2
                clear x1 x2
                go_wp2_with fail
                go_loopg [243] (m + 1) (fun gk iv wr => ∃ i : Nat, i ≤ m ∧ gk = m - i + 1 ∧ iv = .int .i64 i ∧ Hid (Below wv.heap.size wv wr))
                case atStart => exact ⟨0, by omega, by omega, rfl, Lib.hid (Below.refl _ _)⟩
                case round =>
                  obtain ⟨i, hi1, rfl, rfl, HBv⟩ := hrel
                  by_cases hlt3 : i < m
                  · obtain ⟨r, hr⟩ : ∃ r, t.recs[i]? = some r := ⟨_, List.getElem?_eq_getElem (by have := HM.out; omega)⟩
                    obtain ⟨G, rfl⟩ : ∃ G, A5 = some ⟨G, 0, none⟩ := by
                      rcases HX2.out.2 with ⟨hv, hz⟩ | ⟨G, cap, cur, hv, hb, hh, _⟩
                      · omega
                      · injection hv with hv
                        exact ⟨G, hv⟩
                    have hGl : G < wv.heap.size := (HX2.out.lt G rfl).2
                    obtain ⟨t0, t1, t2⟩ := stepsV_get hr
                    have y0 := (HBv.out.cell (p := ⟨G, i * 3, none⟩) hGl).trans ((World.ownsRow.cellAt HX2.out (i * 3) (by omega)).trans t0)
                    have y1 := (HBv.out.cell (p := ⟨G, i * 3 + 1, none⟩) hGl).trans ((World.ownsRow.cellAt HX2.out (i * 3 + 1) (by omega)).trans t1)
                    have y2 := (HBv.out.cell (p := ⟨G, i * 3 + 2, none⟩) hGl).trans ((World.ownsRow.cellAt HX2.out (i * 3 + 2) (by omega)).trans t2)
                    obtain ⟨wl, hwl⟩ : ∃ wl, wl = wr.alloc (.cells #[.int .i64 r.l, .int .i64 (r.lev : Nat), .int .i64 r.rs] 42) := ⟨_, rfl⟩
                    have hbl : Below wv.heap.size wv wl := by rw [hwl]; exact HBv.out.alloc HBv.out.size _
                    have hcl : wl.cell? ⟨wr.heap.size, 0, none⟩ = some (.int .i64 r.l) := by rw [hwl]; exact (Blk.new wr 42 #[.int .i64 r.l, .int .i64 (r.lev : Nat), .int .i64 r.rs]).cell 0
                    have HAT := Lib.hid (fun (a : Nat) => atT_at hr ▸ at_any12 ((HRj.out.tr.below hbl).drewN a) (i : Int))
                    have HBL := Lib.hid hbl
                    have HWL := Lib.hid hwl
                    obtain ⟨rl, hrl⟩ : ∃ rl, r.l = rl := ⟨_, rfl⟩
                    obtain ⟨lv, hlv⟩ : ∃ lv, r.lev = lv := ⟨_, rfl⟩
                    obtain ⟨z, hz⟩ : ∃ z, r.rs = z := ⟨_, rfl⟩
                    rw [hrl] at y0 hcl HAT
                    rw [hlv] at y1
                    rw [hz] at y2
                    rw [hrl, hlv, hz] at HWL
                    clear hr t0 t1 t2 hbl hwl hrl hlv hz
                    go_wp2_with fail
                    rw [← HWL.out]
                    go_quiet ((go_at_call 20; first | exact Calls.quiet_of (HAT.out _) | exact quiet_add_of (HAT.out _)))
                    go_wp2_with fail
                    go_roundg (m - i)
                    case measure => omega
                    case rel => exact ⟨i + 1, by omega, by omega, by go_num, Lib.hid (below_drewN HBL.out _)⟩
                  · go_wp2_with fail
                    go_roundg (ds.length - k)
                    case measure => omega
                    case rel => exact ⟨k + 1, t, by omega, by omega, by go_num, Lib.hid (HRj.out.below HBv.out)⟩
    · go_wp2
      go_ret
      exact ⟨rfl, HR.out.fr⟩
end Go.Proofs.Ytihljekdipengaa
