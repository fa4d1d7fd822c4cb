/- The law on what is counted, and on a propagator without clauses: the walk. -/
import Derived.Test.YtfmcgodgflpggaaTwo13
import Derived.Test.YtfmcgodgflpggaaOpen
import Derived.Deep.DeepCutAuto
import Derived.Deep.RegionLaw
namespace Go.Proofs.Ytfmcgodgflpggaa
open Go.RowKit
set_option linter.unusedVariables false
set_option linter.unusedSimpArgs false

theorem nil_ends {e : Ending} {w' : World} {F gY MY bY : Nat} {py : Px} {H8 : Nat → Prop} {t : TS} {s : WS}
    (h : (∃ r : Int, e = .returned (.tuple #[.int .i64 r, .bool false]) ∧ Clash [] t.lits ∧ Seen w' py s.vis) ∨ (e = .returned (.tuple #[.int .i64 0, .bool true]) ∧ ∃ cs' t' s' hd', Lv w' bY F [] gY MY py H8 cs' t' s' hd' ∧ Told [] t.lits t'.lits true ∧ Grw (csOf []) t t' ∧ s.vis ≤ s'.vis ∧ s'.vis ≤ s.vis + 1000000)) (hg : t.Good) :
    e = .returned (.tuple #[.int .i64 0, .bool true]) ∧ ∃ cs' t' s' hd', Lv w' bY F [] gY MY py H8 cs' t' s' hd' ∧ Told [] t.lits t'.lits true ∧ Grw (csOf []) t t' ∧ s.vis ≤ s'.vis ∧ s'.vis ≤ s.vis + 1000000 := by
  rcases h with ⟨r, _, hc, _⟩ | h
  · exact absurd hc (clash_nil hg)
  · exact h
/-- the side that has clauses -/
structure XS (w : World) (bX F : Nat) (yss : List (List Int)) (gX ML : Nat) (px : Px) (G : Nat → Prop) (lo hi : Nat) (b : Bool) : Prop where
  seen : Seen w px lo
  blk : Blk w gX 43 #[.pointer (some ⟨px.gA, 0, none⟩), .pointer (some ⟨px.gT, 0, none⟩), .pointer (some ⟨px.gW, 0, none⟩), .map (some ML)]
  st : b = true → ∃ cs t s hd, Lv w bX F yss gX ML px G cs t s hd ∧ lo ≤ s.vis ∧ s.vis ≤ hi
theorem XS.apart {w w' : World} {bX F : Nat} {yss : List (List Int)} {gX ML : Nat} {px : Px} {G H : Nat → Prop} {lo hi : Nat} {b : Bool} (h : XS w bX F yss gX ML px G lo hi b) (hf : Ft H w w') (hd : ∀ q, G q → H q → False) (hx : ¬ H gX) (hw : ¬ H px.gW) : XS w' bX F yss gX ML px G lo hi b :=
  ⟨h.seen.ft hf hw, hf.blk h.blk hx, fun e => by obtain ⟨cs, t, s, hd', h1, h2⟩ := h.st e; exact ⟨cs, t, s, hd', h1.apart hf hd hx, h2⟩⟩
theorem XS.bd {w : World} {bX F : Nat} {yss : List (List Int)} {gX ML : Nat} {px : Px} {G : Nat → Prop} {lo hi : Nat} {b : Bool} (h : XS w bX F yss gX ML px G lo hi b) (e : b = true) : ∀ q, G q → q < w.heap.size := fun q hq => by
  obtain ⟨cs, t, s, hd, h1, _⟩ := h.st e
  exact (h1.ob.bd q hq).2
theorem XS.below {w w' : World} {bX F : Nat} {yss : List (List Int)} {gX ML : Nat} {px : Px} {G : Nat → Prop} {lo hi : Nat} {b : Bool} (h : XS w bX F yss gX ML px G lo hi b) (hb : Below w.heap.size w w') : XS w' bX F yss gX ML px G lo hi b :=
  ⟨h.seen.below hb, h.blk.below hb h.blk.lt, fun e => by obtain ⟨cs, t, s, hd', h1, h2⟩ := h.st e; exact ⟨cs, t, s, hd', h1.below hb, h2⟩⟩
/-- the side without -/
structure YS (w : World) (bY F gY MY : Nat) (py : Px) (H : Nat → Prop) (i hi : Nat) : Prop where
  ex : ∃ cs t s hd, Lv w bY F [] gY MY py H cs t s hd ∧ s.vis ≤ hi ∧ Deci t ∧ t.recs.length ≤ i
/-- between two rounds -/
structure VS (w w4 wr : World) (F : Nat) (yss : List (List Int)) (A4 : Option Addr) (xl c4 gX ML : Nat) (px : Px) (bX gY MY : Nat) (py : Px) (bY last i : Nat) (b : Bool) : Prop where
  ex : ∃ G H, XS wr bX F yss gX ML px G last ((i + 1) * 1000000) b ∧ YS wr bY F gY MY py H i ((i + 1) * 1000000) ∧ ¬ H gX ∧ ¬ H px.gW ∧ (b = true → (∀ q, G q → H q → False) ∧ ¬ G gY)
  fb : Blk wr w4.heap.size 29 #[Value.int IntKind.i64 F, Value.slice A4 xl c4]
  bel : Below w.heap.size w wr
  szX : bX ≤ wr.heap.size
  szY : bY ≤ wr.heap.size
theorem VS.below {w w4 wr w' : World} {F : Nat} {yss : List (List Int)} {A4 : Option Addr} {xl c4 gX ML : Nat} {px : Px} {bX gY MY : Nat} {py : Px} {bY last i : Nat} {b : Bool} (h : VS w w4 wr F yss A4 xl c4 gX ML px bX gY MY py bY last i b) (hb : Below wr.heap.size wr w') : VS w w4 w' F yss A4 xl c4 gX ML px bX gY MY py bY last i b := by
  obtain ⟨G, H, h1, ⟨cs, t, s, hd, h2, h3⟩, h4⟩ := h.ex
  exact ⟨⟨G, H, h1.below hb, ⟨cs, t, s, hd, h2.below hb, h3⟩, h4⟩, h.fb.below hb h.fb.lt, h.bel.trans (hb.mono h.bel.size), Nat.le_trans h.szX hb.size, Nat.le_trans h.szY hb.size⟩

set_option maxRecDepth 100000 in
set_option maxHeartbeats 4000000 in
theorem visits13_any (v : Nat) (nss : List (List Int)) (A : Option Addr) (c : Nat) (w : World) (Al : Option Addr) (len cap : Nat) (z : Nat → Int) (hlc : len ≤ cap) (hcm : cap ≤ maxLen) (hz : ∀ j, j < cap → 0 ≤ z j ∧ z j ≤ 65535) (hce : 0 < cap → ∃ b off, Al = some ⟨b, off, none⟩ ∧ b < w.heap.size ∧ ∀ j, j < cap → w.cell? ⟨b, off + j, none⟩ = some (.int .u16 (z j)))  (hv : v ≤ 255)
    (hx : nss.length ≤ 140737488355328) (hl : ∀ j, (nss.getD j []).length ≤ 140737488355328) (hn : ∀ j k, -32768 ≤ (nss.getD j []).getD k 0 ∧ (nss.getD j []).getD k 0 ≤ 32767) (h : KRows .i16 w w.heap.size A nss) :
    Calls Try.prog 6 #[.agg #[.int .u8 v, .slice A nss.length c], .slice Al len cap] w fun e w' => e = .returned (.bool true) ∧ Below w.heap.size w w' := by
  have HZ := Lib.hid (And.intro hz hce)
  unfold maxLen at hcm
  clear hz hce
  have H := Lib.hid h
  have HL := Lib.hid hl
  have HN := Lib.hid hn
  clear h hl hn
  go_enter Try.func6, Try.ntmps6
  go_wp2_with fail
  obtain ⟨w1, hw1⟩ : ∃ w1, w1 = w.alloc (Obj.cells #[Value.int IntKind.u8 v, Value.slice A nss.length c] 24) := ⟨_, rfl⟩
  have HR1 := Lib.hid (show KRows .i16 w1 w.heap.size A nss by rw [hw1]; exact H.out.alloc (Nat.le_refl _) _)
  have HB1 := Lib.hid (show Below w.heap.size w w1 by rw [hw1]; exact (Below.refl _ _).alloc (Nat.le_refl _) _)
  have HK1 := Lib.hid (show Blk w1 w.heap.size 24 #[Value.int IntKind.u8 v, Value.slice A nss.length c] by rw [hw1]; exact Blk.new w _ _)
  rw [← hw1]
  clear hw1
  refine (fit13_any w1).mono ?_
  rintro e w2 ⟨rfl, hb2⟩
  have HR2 := Lib.hid (HR1.out.below (hb2.mono HB1.out.size))
  have HB2 := Lib.hid (HB1.out.trans (hb2.mono HB1.out.size))
  have HK2 := Lib.hid (HK1.out.below hb2 HK1.out.lt)
  clear hb2 HR1 HB1 HK1
  have k0 := HK2.out.cell 0
  have k1 := HK2.out.cell 1
  simp at k0 k1
  go_wp2_with fail
  refine (light_any v nss _ A c 40 w2 (by omega) hx HL.out HR2.out HB2.out.size).mono ?_
  rintro e w3 ⟨rfl, hb3⟩
  have HR3 := Lib.hid (HR2.out.below (hb3.mono HB2.out.size))
  have HB3 := Lib.hid (HB2.out.trans (hb3.mono HB2.out.size))
  have HK3 := Lib.hid (HK2.out.below hb3 HK2.out.lt)
  clear hb3 HR2 HB2 HK2 k0 k1
  have k0 := HK3.out.cell 0
  have k1 := HK3.out.cell 1
  simp at k0 k1
  rcases hlt : light nss 40 with _ | _
  · go_wp2
    go_ret
    exact ⟨rfl, HB3.out⟩
  · have hls := light_rows hlt
    have hF : v % (12 + 1) ≤ 12 := by omega
    have hFM := lightForm_rawW (F := v % (12 + 1)) (W := 6) (by omega) hlt
    clear hlt
    by_cases hlen : 20 < len
    · go_wp2
      go_ret
      exact ⟨rfl, HB3.out⟩
    go_wp2_with fail
    refine (formula_any v nss _ A c 12 6 w3 hv (by omega) (by omega) hls.1 hls.2 HN.out HR3.out HB3.out.size).mono ?_
    obtain ⟨F, hFF⟩ : ∃ F, F = v % (12 + 1) := ⟨_, rfl⟩
    rw [← hFF] at hF hFM ⊢
    clear hFF
    obtain ⟨xss, hxs⟩ : ∃ xss, xss = rawForm F 6 nss := ⟨_, rfl⟩
    rw [← hxs] at hFM ⊢
    have HFM := Lib.hid hFM
    have hx1 := hFM.few
    rintro e w4 ⟨A4, c4, vs4, rfl, hown4, hlist4, hb4⟩
    have HB4 := Lib.hid (HB3.out.trans (hb4.mono HB3.out.size))
    have HRO4 := Lib.hid (hlist4.rows hown4)
    clear hFM hxs hown4 hlist4 hb4 HR3 HB3 HK3 k0 k1 hls
    go_wp2_with fail
    obtain ⟨w5, hw5⟩ : ∃ w5, w5 = w4.alloc (Obj.cells #[Value.int IntKind.i64 F, Value.slice A4 xss.length c4] 29) := ⟨_, rfl⟩
    have HFB5 := Lib.hid (show Blk w5 w4.heap.size 29 #[Value.int IntKind.i64 F, Value.slice A4 xss.length c4] by rw [hw5]; exact Blk.new w4 _ _)
    have HRO5 := Lib.hid (show Rows w5 w4.heap.size A4 xss by rw [hw5]; exact HRO4.out.alloc (Nat.le_refl _) _)
    have HB5 := Lib.hid (show Below w.heap.size w w5 by rw [hw5]; exact HB4.out.alloc HB4.out.size _)
    have hs5 : w4.heap.size + 1 ≤ w5.heap.size := by rw [hw5]; simp
    have hs4 := HB4.out.size
    rw [← hw5]
    clear hw5 HRO4 HB4
    have CX0 := fun w' (hb : Below w5.heap.size w5 w') => begin_any (w := w') F (by omega) xss HFM.out w4.heap.size A4 c4 (HRO5.out.below (hb.mono (by omega))) (by have := hb.size; omega)
    have CY0 := fun w' => begin_any (w := w') F (by omega) [] light_nil w'.heap.size none 0 Rows.nil_ (Nat.le_refl _)
    have hn0 : normForm [] = [] := rfl
    have e0 : ([] : List (List Int)).length = 0 := rfl
    simp only [hn0, e0] at CY0
    have CY := Lib.hid CY0
    have HYF := Lib.hid HFM.out.norm
    obtain ⟨yss, hys⟩ : ∃ yss, normForm xss = yss := ⟨_, rfl⟩
    rw [hys] at HYF
    simp only [hys] at CX0
    have CX := Lib.hid CX0
    have HFC := Lib.hid (fun w' (hb : Below w5.heap.size w5 w') => (show w'.cell? ⟨w4.heap.size, 0, none⟩ = some (.int .i64 F) ∧ w'.cell? ⟨w4.heap.size, 1, none⟩ = some (.slice A4 xss.length c4) ∧ w4.heap.size < w'.heap.size from by
      have h0 := (HFB5.out.below hb HFB5.out.lt).cell 0
      have h1 := (HFB5.out.below hb HFB5.out.lt).cell 1
      simp at h0 h1
      exact ⟨h0, h1, (HFB5.out.below hb HFB5.out.lt).lt⟩))
    have f0 := HFB5.out.cell 0
    have f1 := HFB5.out.cell 1
    simp at f0 f1
    clear hys CX0 CY0 hn0 e0
    have hy40 := HYF.out.few
    have HTOT := Lib.hid (csOf_total HYF.out)
    obtain ⟨xl, hxl⟩ : ∃ xl, xss.length = xl := ⟨_, rfl⟩
    rw [hxl] at CX HFC f1 hx1 HFB5
    clear hxl
    go_upto_region 6 with fail
    go_cut [6, 7] (fun x y wx => ∃ gX ML px G s hd gY MY py H sy hy, x = .pointer (some ⟨gX, 0, none⟩) ∧ y = .pointer (some ⟨gY, 0, none⟩) ∧ Hid (Two w5 wx F yss [] gX ML px G s hd gY MY py H sy hy))
    case first =>
      go_region_law (first
        | (go_simp; go_at_call 10; with_reducible refine (CX.out _ (by first | exact HYB.out | exact (Below.refl _ w5).drew)).mono ?_; rintro e1 w6 ⟨gX, ML, px, G, s, hd, vs, rfl, hbX⟩; have HXB := Lib.hid (show Below w5.heap.size w5 w6 from by first | exact HYB.out.trans (hbX.below.mono HYB.out.size) | exact below_undrew hbX.below); have HX := Lib.hid hbX; obtain ⟨p0, p1, p2⟩ := HFC.out w6 HXB.out; clear hbX)
        | (go_simp; go_at_call 10; with_reducible refine (CY.out _).mono ?_; rintro e2 w7 ⟨gY, MY, py, H, sy, hy, vs', rfl, hbY⟩; have HYB := Lib.hid (show Below w5.heap.size w5 w7 from by first | exact HXB.out.trans (hbY.below.mono HXB.out.size) | exact below_undrew hbY.below); have HY := Lib.hid hbY; obtain ⟨q0, q1, q2⟩ := HFC.out w7 HYB.out; clear hbY))
      all_goals
        go_wp2_with fail
        go_meet
        refine ⟨gX, ML, px, G, s, hd, gY, MY, py, H, sy, hy, rfl, rfl, Lib.hid ?_⟩
        first
          | exact two_of HX.out HY.out ((Below.refl _ w5).drew) (Below.refl _ _) (by omega) (by simp)
          | exact (two_of HY.out HX.out ((Below.refl _ w5).drew) (Below.refl _ _) (by simp) (by omega)).symm
    case rest =>
      obtain ⟨gX, ML, px, G, s, hd, gY, MY, py, H, sy, hy, rfl, rfl, HTW⟩ := hcut
      obtain ⟨w6, rfl⟩ : ∃ w6, w6 = wc := ⟨_, rfl⟩
      obtain ⟨bX, hx1b, hx2b, LX0⟩ := HTW.out.x
      obtain ⟨bY, hy1b, hy2b, LY0⟩ := HTW.out.y
      have CV0 := visits_any LX0.ob
      rw [HTW.out.vx] at CV0
      have CV := Lib.hid CV0
      have FB6 := Lib.hid (HFB5.out.below HTW.out.below HFB5.out.lt)
      have HB6 := Lib.hid (HB5.out.trans (HTW.out.below.mono HB5.out.size))
      have x2 := LX0.blk.cell 2
      have y2 := LY0.blk.cell 2
      simp at x2 y2
      have hxl := LX0.blk.lt
      have CP := Lib.hid (lv_propagate LX0 hx2b (by omega) HTOT.out (by rw [HTW.out.vx]; omega))
      have LX := Lib.hid LX0
      have LY := Lib.hid LY0
      have hs56 := HTW.out.below.size
      clear CX CY f0 f1 LX0 LY0 CV0 HFB5 HRO5 HB5 HFC
      go_wp2_with fail
      refine CV.out.mono ?_
      rintro e w7 ⟨rfl, rfl⟩
      go_wp2_with fail
      refine CP.out.mono ?_
      rintro e w7 ⟨G7, hs7, hE⟩
      have hX7 : ∃ (r : Int) (b : Bool), e = .returned (.tuple #[.int .i64 r, .bool b]) ∧ XS w7 bX F yss gX ML px G7 0 1000000 b := by
        have hbk := hs7.ft.blk LX.out.blk LX.out.nG
        rcases hE with ⟨r, rfl, _, hsn⟩ | ⟨rfl, cs', t', s', hd', hL, _, _, hv1, hv2⟩
        · exact ⟨r, false, rfl, hsn.less (Nat.zero_le _), hbk, fun e => by cases e⟩
        · exact ⟨0, true, rfl, hL.ob.seen.less (Nat.zero_le _), hbk, fun _ => ⟨cs', t', s', hd', hL, Nat.zero_le _, by rw [HTW.out.vx] at hv2; omega⟩⟩
      obtain ⟨r7, b7, rfl, hX7⟩ := hX7
      have X7 := Lib.hid hX7
      have HS7 := Lib.hid hs7
      have DJ7 := Lib.hid (dj_new hs7 HTW.out.dj fun q hq => (LY.out.ob.bd q hq).2)
      have NY7 := Lib.hid (n_new hs7 HTW.out.ny LY.out.blk.lt)
      have LY7 := Lib.hid (LY.out.apart hs7.ft (fun q h1 h2 => HTW.out.dj q h2 h1) HTW.out.ny)
      have hbl7 : Below (w4.heap.size + 1) w6 w7 := hs7.ft.below (by omega) (LX.out.bd (by omega))
      have FB7 := Lib.hid (FB6.out.below hbl7 (Nat.lt_succ_self _))
      have HB7 := Lib.hid (HB6.out.trans (hbl7.mono (by omega)))
      have hs67 := hs7.size
      have z2 := LY7.out.blk.cell 2
      simp at z2
      have hyl7 := LY7.out.blk.lt
      have NG7 := Lib.hid (show ¬ H px.gW from fun e => by
        obtain ⟨FT, FW, har, htr, hwm, d1, d2, d3, d4⟩ := LX.out.ob.ex
        exact HTW.out.dj _ (d4 _ (.inr (.inr hwm.inF.1))) e)
      have CP2 := Lib.hid (lv_propagate LY7.out (by omega) (by omega) (by decide) (by rw [HTW.out.vy]; omega))
      clear hs7 hE hX7 hbl7 CP CV x2 y2 hxl FB6 HB6
      go_wp2_with fail
      refine CP2.out.mono ?_
      rintro e w8 ⟨H8, hs8, hE⟩
      obtain ⟨rfl, cs8, t8, s8, hd8, hL8, hT8, hg8, hv8, hv8'⟩ := nil_ends hE LY7.out.pi.good
      have hV8 : VS w w4 w8 F yss A4 xl c4 gX ML px bX gY MY py bY 0 0 b7 := by
        have hbl8 : Below (w4.heap.size + 1) w7 w8 := hs8.ft.below (by omega) (LY7.out.bd (by omega))
        refine ⟨⟨G7, H8, X7.out.apart hs8.ft (fun q h1 h2 => DJ7.out q h1 h2) HTW.out.nx NG7.out, ⟨cs8, t8, s8, hd8, hL8, by rw [HTW.out.vy] at hv8'; omega, ?_, ?_⟩, n_new hs8 HTW.out.nx (X7.out.blk.lt), n_new hs8 NG7.out X7.out.seen.1, fun e => ⟨fun q h1 h2 => dj_new hs8 (fun q a b => DJ7.out q b a) (X7.out.bd e) q h2 h1, NY7.out⟩⟩, FB7.out.below hbl8 (Nat.lt_succ_self _), HB7.out.trans (hbl8.mono (by omega)), by have := hs8.size; omega, by have := hs8.size; omega⟩
        · have h1 := nil_told LY7.out.pi.good hL8.pi.good hT8
          have h2 : t8.starts = (TS.fresh F).starts := hg8.1
          unfold Deci
          rw [h1, h2]
          rfl
        · have h1 := nil_told LY7.out.pi.good hL8.pi.good hT8
          rw [h1]
          exact Nat.le_refl _
      have V8 := Lib.hid hV8
      clear hV8 hE hs8 hL8 hT8 hg8 hv8 hv8' CP2 z2 hyl7 FB7 HB7 LY7 NY7 DJ7 X7 HS7 LX LY NG7 HTW
      have hbx9 : w4.heap.size < bX ∧ w.heap.size ≤ w4.heap.size ∧ w4.heap.size < bY := ⟨by omega, by omega, by omega⟩
      have HBX := Lib.hid hbx9
      clear hs67 hs56 hx2b hy2b hx1b hy1b hbx9
      go_wp2_with fail
      go_loopg [8, 10, 61] (len + 1) (fun gk la o iv wr => ∃ (i last : Nat) (b : Bool), i ≤ len ∧ gk = len - i + 1 ∧ la = .int .i64 (last : Nat) ∧ o = .bool b ∧ iv = .int .i64 i ∧ Hid (VS w w4 wr F yss A4 xl c4 gX ML px bX gY MY py bY last i b))
      case atStart => exact ⟨0, 0, b7, by omega, by omega, rfl, rfl, rfl, V8⟩
      case round =>
        obtain ⟨i, last, b, hil, rfl, rfl, rfl, rfl, HV⟩ := hrel
        clear V8
        obtain ⟨hb1, hb2, hb3⟩ := HBX.out
        by_cases hlt : i < len
        · have hszX := HV.out.szX
          have hszY := HV.out.szY
          have f0 := HV.out.fb.cell 0
          simp at f0
          have hfl := HV.out.fb.lt
          obtain ⟨qb, qo, rfl, hqb, hqc⟩ := HZ.out.2 (by omega)
          have n0 : wr.cell? ⟨qb, qo + i, none⟩ = some (.int .u16 (z i)) := (HV.out.bel.cell (p := ⟨qb, qo + i, none⟩) hqb).trans (hqc i (by omega))
          obtain ⟨hz0, hz1⟩ := HZ.out.1 i (by omega)
          have hqw : qb < wr.heap.size := Nat.lt_of_lt_of_le hqb HV.out.bel.size
          obtain ⟨n, hn⟩ : ∃ n, z i = n := ⟨_, rfl⟩
          rw [hn] at n0 hz0 hz1
          obtain ⟨G, H, hX, ⟨csy, ty, sy', hdy, hLy, hvy, hdc, hry⟩, hnX, hnW, hDJ⟩ := HV.out.ex
          have x2 := hX.blk.cell 2
          simp at x2
          have hxl := hX.blk.lt
          have HBr := Lib.hid HV.out.bel
          have hsr := HV.out.bel.size
          clear hn hqc
          rcases b with _ | _
          · obtain ⟨hgw, u, hlu, c7⟩ := hX.seen
            have CV := Lib.hid (visits_cell c7 hgw)
            have LY := Lib.hid hLy
            clear hLy hX hDJ c7 hgw hnX hnW f0
            go_wp2_with fail
            refine CV.out.mono ?_
            rintro e w20 ⟨rfl, rfl⟩
            go_wp2_with fail
            refine CV.out.mono ?_
            rintro e w20 ⟨rfl, rfl⟩
            have hz0 := back0_recs hdc LY.out.pi.good
            obtain ⟨nn, hnn⟩ : ∃ nn, ty.recs.length = nn := ⟨_, rfl⟩
            rw [hnn] at hz0
            have CLn := Lib.hid (hnn ▸ len_any LY.out.tr)
            have CVy := Lib.hid (visits_any LY.out.ob)
            have CB := Lib.hid (hz0.2 ▸ wback13_any LY.out.ob LY.out.pi.good hszY)
            have hz1 := Lib.hid hz0.1
            have y1 := LY.out.blk.cell 1
            have y2 := LY.out.blk.cell 2
            simp at y1 y2
            have hyl := LY.out.blk.lt
            have hcnn : ((nn : Int) == (nn : Int)) = true := by simp
            have HPN := Lib.hid (show gY ≠ py.P from by
              obtain ⟨FT, FW, har, htr, hwm, d1, d2, d3, d4⟩ := LY.out.ob.ex
              exact LY.out.blk.ne_ htr.phs (by decide))
            clear hz0 hnn
            go_wp2_with fail
            refine CLn.out.mono ?_
            rintro e w20 ⟨rfl, rfl⟩
            go_wp2_with fail
            refine CVy.out.mono ?_
            rintro e w20 ⟨rfl, rfl⟩
            go_wp2_with fail
            refine CB.out.mono ?_
            rintro e w21 ⟨A9, c9, rfl, htr9, hkeep9, hbb9⟩
            have k9 := (hkeep9 _ _ _ LY.out.blk (by decide) HPN.out)
            have HB9 := Lib.hid (HBr.out.trans (hbb9.mono (by omega)))
            have CL2 := Lib.hid (hz1.out ▸ len_any htr9)
            have y1' := k9.cell 1
            simp at y1'
            have hyl9 := k9.lt
            clear k9 htr9 hkeep9 hbb9 y1 y2
            go_wp2_with fail
            refine CL2.out.mono ?_
            rintro e w22 ⟨rfl, rfl⟩
            go_wp2
            go_ret
            exact ⟨rfl, HB9.out⟩
          · obtain ⟨csx, tx, sx, hdx, hLx, hlo, hhi⟩ := hX.st rfl
            obtain ⟨hdj, hnY⟩ := hDJ rfl
            obtain ⟨u, hu⟩ : ∃ u, sx.vis = u := ⟨_, rfl⟩
            have CV0 := visits_any hLx.ob
            rw [hu] at CV0 hlo hhi
            have CV := Lib.hid CV0
            have CD := Lib.hid (lv_decided hLx hszX (by omega) n hz0 hz1)
            have LX := Lib.hid hLx
            have LY := Lib.hid hLy
            have DJ := Lib.hid (And.intro hdj (And.intro hnY (And.intro hnX hnW)))
            have HU := Lib.hid hu
            clear CV0 hLx hLy hX hDJ hdj hnY hnX hnW hu
            go_wp2_with fail
            refine CV.out.mono ?_
            rintro e w20 ⟨rfl, rfl⟩
            go_wp2_with fail
            refine CV.out.mono ?_
            rintro e w20 ⟨rfl, rfl⟩
            go_wp2_with fail
            refine CD.out.mono ?_
            rintro e w1 ⟨rfl, G1, hL1, hs1⟩
            have CP1 := Lib.hid (lv_propagate hL1 (Nat.le_trans hszX hs1.size) (by omega) HTOT.out (by rw [HU.out]; omega))
            have x2' := hL1.blk.cell 2
            simp at x2'
            have hxl1 := hL1.blk.lt
            have HS1 := Lib.hid hs1
            have L1 := Lib.hid hL1
            clear hL1 hs1 CD x2 hxl CV n0
            go_wp2_with fail
            refine CP1.out.mono ?_
            rintro e w2 ⟨G2, hs2, hE⟩
            have hst := HS1.out.trans hs2
            have hX2 : ∃ (r : Int) (b : Bool), e = .returned (.tuple #[.int .i64 r, .bool b]) ∧ XS w2 bX F yss gX ML px G2 u ((i + 1 + 1) * 1000000) b := by
              have hbk := hs2.ft.blk L1.out.blk L1.out.nG
              rcases hE with ⟨r, rfl, _, hsn⟩ | ⟨rfl, cs', t', s', hd', hL, _, _, hv1, hv2⟩
              · exact ⟨r, false, rfl, HU.out ▸ hsn, hbk, fun e => by cases e⟩
              · rw [HU.out] at hv1 hv2
                exact ⟨0, true, rfl, hL.ob.seen.less hv1, hbk, fun _ => ⟨cs', t', s', hd', hL, hv1, by omega⟩⟩
            obtain ⟨r2, b2, rfl, hX2⟩ := hX2
            have X2 := Lib.hid hX2
            have DJ2 := Lib.hid (dj_new hst DJ.out.1 fun q hq => (LY.out.ob.bd q hq).2)
            have NY2 := Lib.hid (n_new hst DJ.out.2.1 LY.out.blk.lt)
            have LY2 := Lib.hid (LY.out.apart hst.ft (fun q h1 h2 => DJ.out.1 q h2 h1) DJ.out.2.1)
            have hbl2 : Below (w4.heap.size + 1) wr w2 := hst.ft.below (by omega) (LX.out.bd (by omega))
            have FB2 := Lib.hid (HV.out.fb.below hbl2 (Nat.lt_succ_self _))
            have HB2 := Lib.hid (HBr.out.trans (hbl2.mono (by omega)))
            have hs02 := hst.size
            obtain ⟨nn, hnn⟩ : ∃ nn, ty.recs.length = nn := ⟨_, rfl⟩
            have CLn := Lib.hid (hnn ▸ len_any LY2.out.tr)
            have z1 := LY2.out.blk.cell 1
            simp at z1
            have hyl2 := LY2.out.blk.lt
            have g0 := FB2.out.cell 0
            simp at g0
            have hgl2 := FB2.out.lt
            have CD2 := Lib.hid (lv_decided LY2.out (by omega) (by omega) n hz0 hz1)
            have HNN := Lib.hid hnn
            clear hX2 hst hs2 hE hbl2 CP1 x2' hxl1 f0 hfl L1 HS1 hnn
            go_wp2_with fail
            refine CLn.out.mono ?_
            rintro e w20 ⟨rfl, rfl⟩
            go_wp2_with fail
            refine CD2.out.mono ?_
            rintro e w3 ⟨rfl, H3, hL3, hs3⟩
            have CP3 := Lib.hid (lv_propagate hL3 (by have := hs3.size; omega) (by omega) (by decide) (by omega))
            have z2' := hL3.blk.cell 2
            simp at z2'
            have hyl3 := hL3.blk.lt
            have HS3 := Lib.hid hs3
            have L3 := Lib.hid hL3
            clear hL3 hs3 CD2 z1 hyl2 CLn g0 hgl2
            go_wp2_with fail
            refine CP3.out.mono ?_
            rintro e w9 ⟨H4, hs9, hE9⟩
            obtain ⟨rfl, cs9, t9, s9, hd9, hL9, hT9, hg9, hv9, hv9'⟩ := nil_ends hE9 L3.out.pi.good
            have hst := HS3.out.trans hs9
            obtain ⟨hd1, hd2⟩ := Deci.decN (N := F) hdc LY2.out.pi.good (.inr LY2.out.pi.ph.symm) n hz0 hz1
            have ht9 := nil_told L3.out.pi.good hL9.pi.good hT9
            have hst9 : t9.starts = (decN F n ty).starts := hg9.1
            have hd9' : Deci t9 := by unfold Deci at hd1 ⊢; rw [ht9, hst9]; exact hd1
            obtain ⟨m, hm⟩ : ∃ m, t9.recs.length = m := ⟨_, rfl⟩
            have hnb : nn ≤ 20 := by have := HNN.out; omega
            have hm1 : m ≤ nn + 1 := by have := HNN.out; omega
            have hm2 : m ≤ i + 1 := by have := HNN.out; omega
            have hml : t9.starts.length = m := by unfold Deci at hd9'; omega
            have CLq := Lib.hid (fun (a : Nat) => hm ▸ len_any (hL9.drewE (w' := w9.drewN a) ⟨a, rfl⟩).tr)
            have CVq := Lib.hid (fun (a : Nat) => hml ▸ level_any (hL9.drewE (w' := w9.drewN a) ⟨a, rfl⟩).tr)
            have hbl9 : Below (w4.heap.size + 1) w2 w9 := hst.ft.below (by omega) (LY2.out.bd (by omega))
            have y1 := hL9.blk.cell 1
            simp at y1
            have hyl9 := hL9.blk.lt
            have hs29 := hst.size
            have HNX := Lib.hid (show VS w w4 w9 F yss A4 xl c4 gX ML px bX gY MY py bY u (i + 1) b2 from
              ⟨⟨G2, H4, X2.out.apart hst.ft (fun q h1 h2 => DJ2.out q h1 h2) DJ.out.2.2.1 DJ.out.2.2.2, ⟨cs9, t9, s9, hd9, hL9, by omega, hd9', by omega⟩, n_new hst DJ.out.2.2.1 X2.out.blk.lt, n_new hst DJ.out.2.2.2 X2.out.seen.1, fun e => ⟨fun q h1 h2 => dj_new hst (fun q a b => DJ2.out q b a) (X2.out.bd e) q h2 h1, NY2.out⟩⟩, FB2.out.below hbl9 (Nat.lt_succ_self _), HB2.out.trans (hbl9.mono (by omega)), by omega, by omega⟩)
            clear hst hs9 hE9 hL9 hT9 hg9 hv9 hv9' hd1 hd2 ht9 hst9 hd9' hm hml hbl9 CP3 z2' hyl3 L3 HS3 X2 DJ2 NY2 LY2 FB2 HB2 LX LY DJ HNN hdc hry hvy
            go_wp2_with fail
            have hq1 : decide (((nn : Nat) : Int) + 1 < (m : Nat)) = false := by simp; omega
            have hq3 : decide (((i : Nat) : Int) + 1 < (m : Nat)) = false := by simp; omega
            have hq2 : (((m : Nat) : Int) == (m : Nat)) = true := by simp
            have hq4 : ¬ (((nn : Nat) : Int) + 1 < (m : Nat)) := by omega
            have hq5 : ¬ (((i : Nat) : Int) + 1 < (m : Nat)) := by omega
            go_quiet (first
              | (go_at_call 14; first | with_reducible exact quiet_left (CLq.out _) | with_reducible exact quiet_add_left (CLq.out _))
              | (go_at_call 25; first | with_reducible exact quiet_left (CVq.out _) | with_reducible exact quiet_add_left (CVq.out _)))
            go_wp2_with fail
            go_roundg (len - i)
            case measure => omega
            case rel => exact ⟨i + 1, u, b2, by omega, by omega, rfl, rfl, by go_num, Lib.hid (HNX.out.below (below_drewN (Below.refl _ _) _))⟩
        · obtain ⟨G, H, hx, ⟨csy, ty, sy', hdy, hLy, hvy, hdc, hry⟩, -⟩ := HV.out.ex
          have hszY := HV.out.szY
          have HBr := Lib.hid HV.out.bel
          have LY := Lib.hid hLy
          clear hLy hx
          have hz0 := back0_recs hdc LY.out.pi.good
          obtain ⟨nn, hnn⟩ : ∃ nn, ty.recs.length = nn := ⟨_, rfl⟩
          rw [hnn] at hz0
          have CLn := Lib.hid (hnn ▸ len_any LY.out.tr)
          have CVy := Lib.hid (visits_any LY.out.ob)
          have CB := Lib.hid (hz0.2 ▸ wback13_any LY.out.ob LY.out.pi.good hszY)
          have hz1 := Lib.hid hz0.1
          have y1 := LY.out.blk.cell 1
          have y2 := LY.out.blk.cell 2
          simp at y1 y2
          have hyl := LY.out.blk.lt
          have hcnn : ((nn : Int) == (nn : Int)) = true := by simp
          have HPN := Lib.hid (show gY ≠ py.P from by
            obtain ⟨FT, FW, har, htr, hwm, d1, d2, d3, d4⟩ := LY.out.ob.ex
            exact LY.out.blk.ne_ htr.phs (by decide))
          clear hz0 hnn
          go_wp2_with fail
          refine CLn.out.mono ?_
          rintro e w20 ⟨rfl, rfl⟩
          go_wp2_with fail
          refine CVy.out.mono ?_
          rintro e w20 ⟨rfl, rfl⟩
          go_wp2_with fail
          refine CB.out.mono ?_
          rintro e w21 ⟨A9, c9, rfl, htr9, hkeep9, hbb9⟩
          have k9 := (hkeep9 _ _ _ LY.out.blk (by decide) HPN.out)
          have HB9 := Lib.hid (HBr.out.trans (hbb9.mono (by omega)))
          have CL2 := Lib.hid (hz1.out ▸ len_any htr9)
          have y1' := k9.cell 1
          simp at y1'
          have hyl9 := k9.lt
          clear k9 htr9 hkeep9 hbb9 y1 y2
          go_wp2_with fail
          refine CL2.out.mono ?_
          rintro e w22 ⟨rfl, rfl⟩
          go_wp2
          go_ret
          exact ⟨rfl, HB9.out⟩

theorem visits13_raw (u : Int) (nss : List (List Int)) (A : Option Addr) (c : Nat) (w : World) (Al : Option Addr) (len cap : Nat) (z : Nat → Int) (hu : (Lit.int .u8 u).wf = true)
    (hx : nss.length ≤ 5864062014805) (m : ∀ j, (nss.getD j []).length * 2 ≤ 140737488351232) (hn : ∀ j i, (Lit.int .i16 ((nss.getD j []).getD i 0)).wf = true) (h : KRows .i16 w w.heap.size A nss) (hi : IsInts .u16 w Al len cap z) :
    Calls Try.prog 6 #[.agg #[.int .u8 u, .slice A nss.length c], .slice Al len cap] w fun e w' => e = .returned (.bool true) ∧ Below w.heap.size w w' := by
  obtain ⟨v, rfl, hv⟩ := u8_nat13 hu
  obtain ⟨h1, h2, h3, h4⟩ := hi
  exact visits13_any v nss A c w Al len cap z h1 h2 (fun j hj => bounds_u16 (h3 j hj)) h4 hv (by omega) (fun j => by have := m j; omega) (fun j k => by have := bounds_i16 (hn j k); omega) h
end Go.Proofs.Ytfmcgodgflpggaa
