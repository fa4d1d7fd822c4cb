/- The law that a full trail without clash satisfies the clauses: the walk. -/
import Derived.Test.YtfmcgodgflpggaaLaw13
import Derived.Test.YtfmcgodgflpggaaHolds04
import Derived.Deep.OwnRows
namespace Go.Proofs.Ytfmcgodgflpggaa
open Go.RowKit
set_option linter.unusedVariables false
set_option linter.unusedSimpArgs false

/-- between two rounds -/
structure FS (w w4 wr : World) (gX ML base F : Nat) (yss xss : List (List Int)) (A4 : Option Addr) (c4 : Nat) (px : Px) (k : Nat) (b : Bool) : Prop where
  fb : Blk wr w4.heap.size 29 #[Value.int IntKind.i64 F, Value.slice A4 xss.length c4]
  ro : Rows wr w4.heap.size A4 xss
  bel : Below w.heap.size w wr
  sz : base ≤ wr.heap.size
  st : b = true → ∃ G cs t s hd L, Lv wr base F yss gX ML px G cs t s hd ∧ s.vis ≤ (k + 1) * 1000000 ∧ Told yss L t.lits true ∧ ∀ j, j < k → Has t j

set_option maxRecDepth 100000 in
set_option maxHeartbeats 4000000 in
theorem full13_any (v : Nat) (nss : List (List Int)) (A : Option Addr) (c : Nat) (bits : Int) (hb0 : 0 ≤ bits) (hb1 : bits ≤ 65535) (w : World) (hv : v ≤ 255)
    (hx : nss.length ≤ 140737488355328) (hl : ∀ j, (nss.getD j []).length ≤ 140737488355328) (hn : ∀ j k, -32768 ≤ (nss.getD j []).getD k 0 ∧ (nss.getD j []).getD k 0 ≤ 32767) (h : KRows .i16 w w.heap.size A nss) :
    Calls Try.prog 5 #[.agg #[.int .u8 v, .slice A nss.length c], .int .u16 bits] w fun e w' => e = .returned (.bool true) ∧ Below w.heap.size w w' := by
  have H := Lib.hid h
  have HL := Lib.hid hl
  have HN := Lib.hid hn
  clear h hl hn
  go_enter Try.func5, Try.ntmps5
  go_wp2_with fail
  obtain ⟨w1, hw1⟩ : ∃ w1, w1 = w.alloc (Obj.cells #[Value.int IntKind.u8 v, Value.slice A nss.length c] 24) := ⟨_, rfl⟩
  have HR1 := Lib.hid (show KRows .i16 w1 w.heap.size A nss by rw [hw1]; exact H.out.alloc (Nat.le_refl _) _)
  have HB1 := Lib.hid (show Below w.heap.size w w1 by rw [hw1]; exact (Below.refl _ _).alloc (Nat.le_refl _) _)
  have HK1 := Lib.hid (show Blk w1 w.heap.size 24 #[Value.int IntKind.u8 v, Value.slice A nss.length c] by rw [hw1]; exact Blk.new w _ _)
  rw [← hw1]
  clear hw1
  refine (fit13_any w1).mono ?_
  rintro e w2 ⟨rfl, hb2⟩
  have HR2 := Lib.hid (HR1.out.below (hb2.mono HB1.out.size))
  have HB2 := Lib.hid (HB1.out.trans (hb2.mono HB1.out.size))
  have HK2 := Lib.hid (HK1.out.below hb2 HK1.out.lt)
  clear hb2 HR1 HB1 HK1
  have k0 := HK2.out.cell 0
  have k1 := HK2.out.cell 1
  simp at k0 k1
  go_wp2_with fail
  refine (light_any v nss _ A c 40 w2 (by omega) hx HL.out HR2.out HB2.out.size).mono ?_
  rintro e w3 ⟨rfl, hb3⟩
  have HR3 := Lib.hid (HR2.out.below (hb3.mono HB2.out.size))
  have HB3 := Lib.hid (HB2.out.trans (hb3.mono HB2.out.size))
  have HK3 := Lib.hid (HK2.out.below hb3 HK2.out.lt)
  clear hb3 HR2 HB2 HK2 k0 k1
  have k0 := HK3.out.cell 0
  have k1 := HK3.out.cell 1
  simp at k0 k1
  rcases hlt : light nss 40 with _ | _
  · go_wp2
    go_ret
    exact ⟨rfl, HB3.out⟩
  · have hls := light_rows hlt
    have hF : v % (12 + 1) ≤ 12 := by omega
    have hFM := lightForm_rawW (F := v % (12 + 1)) (W := 6) (by omega) hlt
    clear hlt
    go_wp2_with fail
    refine (formula_any v nss _ A c 12 6 w3 hv (by omega) (by omega) hls.1 hls.2 HN.out HR3.out HB3.out.size).mono ?_
    obtain ⟨F, hFF⟩ : ∃ F, F = v % (12 + 1) := ⟨_, rfl⟩
    rw [← hFF] at hF hFM ⊢
    clear hFF
    obtain ⟨xss, hxs⟩ : ∃ xss, xss = rawForm F 6 nss := ⟨_, rfl⟩
    rw [← hxs] at hFM ⊢
    have HFM := Lib.hid hFM
    have hx1 := hFM.few
    rintro e w4 ⟨A4, c4, vs4, rfl, hown4, hlist4, hb4⟩
    have HB4 := Lib.hid (HB3.out.trans (hb4.mono HB3.out.size))
    have HRO4 := Lib.hid (hlist4.rows hown4)
    clear hFM hxs hown4 hlist4 hb4 HR3 HB3 HK3 k0 k1 hls
    go_wp2_with fail
    obtain ⟨w5, hw5⟩ : ∃ w5, w5 = w4.alloc (Obj.cells #[Value.int IntKind.i64 F, Value.slice A4 xss.length c4] 29) := ⟨_, rfl⟩
    have HFB5 := Lib.hid (show Blk w5 w4.heap.size 29 #[Value.int IntKind.i64 F, Value.slice A4 xss.length c4] by rw [hw5]; exact Blk.new w4 _ _)
    have HRO5 := Lib.hid (show Rows w5 w4.heap.size A4 xss by rw [hw5]; exact HRO4.out.alloc (Nat.le_refl _) _)
    have HB5 := Lib.hid (show Below w.heap.size w w5 by rw [hw5]; exact HB4.out.alloc HB4.out.size _)
    have hs5 : w4.heap.size + 1 ≤ w5.heap.size := by rw [hw5]; simp
    have hs4 := HB4.out.size
    rw [← hw5]
    clear hw5 HRO4 HB4
    have HRO5' := Lib.hid HRO5.out
    refine (begin_any F (by omega) xss HFM.out _ A4 c4 HRO5.out (by omega)).mono ?_
    have HYF := Lib.hid HFM.out.norm
    have HYSAT := Lib.hid (fun z (hz : z.length = F) => norm_sat (z := z) (xss := xss) fun c hc l hl => by rw [hz]; exact HFM.out.lits c hc l hl)
    obtain ⟨yss, hys⟩ : ∃ yss, yss = normForm xss := ⟨_, rfl⟩
    rw [← hys] at HYF HYSAT ⊢
    clear hys
    rintro e w6 ⟨gX, ML, px, G, s, hd, vs, rfl, hbg⟩
    have L6 := Lib.hid (hbg.lv (by have := HYF.out.few; omega))
    have HTOT := Lib.hid (csOf_total HYF.out)
    have HV := Lib.hid hbg.vis
    have HB6 := Lib.hid (HB5.out.trans (hbg.below.mono HB5.out.size))
    have HFB6 := Lib.hid (HFB5.out.below hbg.below HFB5.out.lt)
    have HRO6 := Lib.hid (HRO5.out.below (hbg.below.mono (by omega)))
    have HGX := Lib.hid hbg.hX
    have y2 := hbg.blk.cell 2
    simp at y2
    have hgl := hbg.blk.lt
    have hs6 := hbg.below.size
    have hB6 : w5.heap.size + 1 ≤ w6.heap.size := by have := hbg.hX; omega
    have CP := Lib.hid (lv_propagate L6.out hB6 (by omega) HTOT.out (by rw [HV.out]; omega))
    clear hbg HRO5 HFB5 HB5 HRO5'
    go_wp2_with fail
    refine CP.out.mono ?_
    rintro e w7 ⟨G7, hs7, hE⟩
    have hFS : ∃ (r : Int) (b : Bool), e = .returned (.tuple #[.int .i64 r, .bool b]) ∧ FS w w4 w7 gX ML (w5.heap.size + 1) F yss xss A4 c4 px 0 b := by
      have hbl : Below (w4.heap.size + 1) w6 w7 := hs7.ft.below (by omega) (L6.out.bd (by omega))
      have h1 := HFB6.out.below hbl (Nat.lt_succ_self _)
      have h2 := HRO6.out.below (hbl.mono (Nat.le_succ _))
      have h3 := HB6.out.trans (hbl.mono (by omega))
      have h4 := Nat.le_trans hB6 hs7.size
      rcases hE with ⟨r, rfl, _⟩ | ⟨rfl, cs', t', s', hd', hL, hT, _, _, hv⟩
      · exact ⟨r, false, rfl, h1, h2, h3, h4, fun e => by cases e⟩
      · exact ⟨0, true, rfl, h1, h2, h3, h4, fun _ => ⟨G7, cs', t', s', hd', _, hL, by rw [HV.out] at hv; omega, hT, fun j hj => absurd hj (Nat.not_lt_zero _)⟩⟩
    obtain ⟨r, b, rfl, hfs⟩ := hFS
    have HFS := Lib.hid hfs
    clear hs7 hE hfs CP HFB6 HRO6 HB6 y2 hgl L6 HGX HV
    go_wp2_with fail
    go_loopg [8, 9] (F + 1) (fun gk o i wr => ∃ (k : Nat) (b : Bool), k ≤ F ∧ gk = F - k + 1 ∧ o = .bool b ∧ i = .int .i64 ((k : Int) + 1) ∧ Hid (FS w w4 wr gX ML (w5.heap.size + 1) F yss xss A4 c4 px k b))
    case atStart => exact ⟨0, b, by omega, by omega, rfl, rfl, HFS⟩
    case round =>
      obtain ⟨k, b, hk, rfl, rfl, rfl, HQ⟩ := hrel
      clear HFS
      have f0 := HQ.out.fb.cell 0
      simp at f0
      have hfl := HQ.out.fb.lt
      rcases b with _ | _
      · rcases Nat.lt_or_ge k F with hkf | hkf
        · go_wp2
          go_ret
          exact ⟨rfl, HQ.out.bel⟩
        · go_wp2
          go_ret
          exact ⟨rfl, HQ.out.bel⟩
      · by_cases hlt : k < F
        · rcases hbit : (Go.bits BinOp.and IntKind.u16 (bits / 2 ^ k) 1 == 1) with _ | _
          · obtain ⟨G, cs, t, s, hd, L, hLv, hvis, hT, hh⟩ := HQ.out.st rfl
            have HLv := Lib.hid hLv
            have HH := Lib.hid hh
            have HT := Lib.hid hT
            have CD := Lib.hid (lv_decide hLv HQ.out.sz ((k : Int) + 1) (by omega) (by omega))
            have y1 := hLv.blk.cell 1
            simp at y1
            have hgl := hLv.blk.lt
            clear hLv hT hh
            go_wp2_with fail
            refine CD.out.mono ?_
            rintro e w8 ⟨rfl, G8, hL8, hs8⟩
            have L8 := Lib.hid hL8
            have HS8 := Lib.hid hs8
            have hB8 : w5.heap.size + 1 ≤ w8.heap.size := Nat.le_trans HQ.out.sz hs8.size
            have CP8 := Lib.hid (lv_propagate hL8 hB8 (by omega) HTOT.out (by omega))
            have z2 := hL8.blk.cell 2
            simp at z2
            have hgl8 := hL8.blk.lt
            clear hL8 hs8 CD y1 hgl f0 hfl
            go_wp2_with fail
            refine CP8.out.mono ?_
            rintro e w9 ⟨G9, hs9, hE⟩
            have hFS : ∃ (r : Int) (b : Bool), e = .returned (.tuple #[.int .i64 r, .bool b]) ∧ FS w w4 w9 gX ML (w5.heap.size + 1) F yss xss A4 c4 px (k + 1) b := by
              have hst := HS8.out.trans hs9
              have hbl : Below (w4.heap.size + 1) wr w9 := hst.ft.below (by have := HQ.out.sz; omega) (HLv.out.bd (by omega))
              have h1 := HQ.out.fb.below hbl (Nat.lt_succ_self _)
              have h2 := HQ.out.ro.below (hbl.mono (Nat.le_succ _))
              have h3 := HQ.out.bel.trans (hbl.mono (by omega))
              have h4 := Nat.le_trans HQ.out.sz hst.size
              rcases hE with ⟨r, rfl, _⟩ | ⟨rfl, cs', t', s', hd', hL, hT, _, _, hv⟩
              · exact ⟨r, false, rfl, h1, h2, h3, h4, fun e => by cases e⟩
              · have hdc := Has.dec HLv.out.pi.good (k := k) (l := (k : Int) + 1) (by omega) (by rw [HLv.out.pi.ph]; omega)
                have hm := told_more hT
                refine ⟨0, true, rfl, h1, h2, h3, h4, fun _ => ⟨G9, cs', t', s', hd', _, hL, by omega, hT, fun j hj => ?_⟩⟩
                rcases (by omega : j < k ∨ j = k) with hj | rfl
                · exact ((HH.out j hj).more hdc.2).more hm
                · exact hdc.1.more hm
            obtain ⟨r9, b9, rfl, hfs9⟩ := hFS
            have HFS9 := Lib.hid hfs9
            clear hs9 hE hfs9 CP8 z2 hgl8 L8 HS8 HLv HH HT
            go_wp2_with fail
            go_roundg (F - k)
            case measure => omega
            case rel => exact ⟨k + 1, b9, by omega, by omega, rfl, by go_num, HFS9⟩
          · obtain ⟨G, cs, t, s, hd, L, hLv, hvis, hT, hh⟩ := HQ.out.st rfl
            have HLv := Lib.hid hLv
            have HH := Lib.hid hh
            have HT := Lib.hid hT
            have CD := Lib.hid (lv_decide hLv HQ.out.sz (-((k : Int) + 1)) (by omega) (by omega))
            have y1 := hLv.blk.cell 1
            simp at y1
            have hgl := hLv.blk.lt
            clear hLv hT hh
            go_wp2_with fail
            refine CD.out.mono ?_
            rintro e w8 ⟨rfl, G8, hL8, hs8⟩
            have L8 := Lib.hid hL8
            have HS8 := Lib.hid hs8
            have hB8 : w5.heap.size + 1 ≤ w8.heap.size := Nat.le_trans HQ.out.sz hs8.size
            have CP8 := Lib.hid (lv_propagate hL8 hB8 (by omega) HTOT.out (by omega))
            have z2 := hL8.blk.cell 2
            simp at z2
            have hgl8 := hL8.blk.lt
            clear hL8 hs8 CD y1 hgl f0 hfl
            go_wp2_with fail
            refine CP8.out.mono ?_
            rintro e w9 ⟨G9, hs9, hE⟩
            have hFS : ∃ (r : Int) (b : Bool), e = .returned (.tuple #[.int .i64 r, .bool b]) ∧ FS w w4 w9 gX ML (w5.heap.size + 1) F yss xss A4 c4 px (k + 1) b := by
              have hst := HS8.out.trans hs9
              have hbl : Below (w4.heap.size + 1) wr w9 := hst.ft.below (by have := HQ.out.sz; omega) (HLv.out.bd (by omega))
              have h1 := HQ.out.fb.below hbl (Nat.lt_succ_self _)
              have h2 := HQ.out.ro.below (hbl.mono (Nat.le_succ _))
              have h3 := HQ.out.bel.trans (hbl.mono (by omega))
              have h4 := Nat.le_trans HQ.out.sz hst.size
              rcases hE with ⟨r, rfl, _⟩ | ⟨rfl, cs', t', s', hd', hL, hT, _, _, hv⟩
              · exact ⟨r, false, rfl, h1, h2, h3, h4, fun e => by cases e⟩
              · have hdc := Has.dec HLv.out.pi.good (k := k) (l := -((k : Int) + 1)) (by omega) (by rw [HLv.out.pi.ph]; omega)
                have hm := told_more hT
                refine ⟨0, true, rfl, h1, h2, h3, h4, fun _ => ⟨G9, cs', t', s', hd', _, hL, by omega, hT, fun j hj => ?_⟩⟩
                rcases (by omega : j < k ∨ j = k) with hj | rfl
                · exact ((HH.out j hj).more hdc.2).more hm
                · exact hdc.1.more hm
            obtain ⟨r9, b9, rfl, hfs9⟩ := hFS
            have HFS9 := Lib.hid hfs9
            clear hs9 hE hfs9 CP8 z2 hgl8 L8 HS8 HLv HH HT
            go_wp2_with fail
            go_roundg (F - k)
            case measure => omega
            case rel => exact ⟨k + 1, b9, by omega, by omega, rfl, by go_num, HFS9⟩
        · obtain rfl : k = F := by omega
          obtain ⟨G, cs, t, s, hd, L, hLv, hvis, hT, hh⟩ := HQ.out.st rfl
          have hph : t.ph.length = k := hLv.pi.ph
          have hfull := full_len hLv.pi.good fun j hj => hh j (by omega)
          have hsat := full_sat hLv.pi.good (fun j hj => hh j (by omega)) (yss := yss) (fun c hc l hl => by have := HYF.out.lits c hc l hl; omega) hT
          rw [HYSAT.out _ (by rw [TS.asg_len]; exact hph)] at hsat
          have hfd : (decide (t.recs.length = t.ph.length)) = true := by simp [hfull]
          have CF := Lib.hid (fun w' (hb : Below wr.heap.size wr w') => (hfd ▸ full_any (hLv.below hb).tr).mono fun e w'' ⟨h1, m, h2⟩ => (show e = Ending.returned (.bool true) ∧ Below wr.heap.size wr w'' from ⟨h1, h2 ▸ below_drewN hb m⟩))
          have CA := Lib.hid (fun w' (hb : Below wr.heap.size wr w') => (hph ▸ assign_any (hLv.below hb).tr (Nat.le_trans HQ.out.sz hb.size)).mono fun e w'' ⟨A', c', h1, h2, h3⟩ => (show ∃ A' c' lo, e = Ending.returned (.slice A' k c') ∧ w''.ownsRow lo 4 1 (.slice A' k c') k (t.asg.map Value.bool) ∧ Below wr.heap.size wr w'' from ⟨A', c', _, h1, h2, hb.trans (h3.mono hb.size)⟩))
          have hasl : t.asg.length = k := by rw [TS.asg_len]; exact hph
          have CH := Lib.hid (fun w' A' c' lo (hb : Below wr.heap.size wr w') (ho : w'.ownsRow lo 4 1 (.slice A' k c') k (t.asg.map Value.bool)) => (hsat ▸ hasl ▸ docholds_any k xss w4.heap.size w'.heap.size A4 A' t.asg c4 c' w' (by omega) (fun j => by have := HFM.out.len j; omega) (fun j i => by rw [hasl]; exact HFM.out.bd j i) (by omega) (HQ.out.ro.below (hb.mono (Nat.le_of_lt hfl))) (bools_of_own hasl ho) (by have h5 := hb.size; omega) (Nat.le_refl _)).mono fun e w'' ⟨h1, h2⟩ => (show e = Ending.returned (.bool true) ∧ Below wr.heap.size wr w'' from ⟨h1, hb.trans (h2.mono hb.size)⟩))
          have HFC := Lib.hid (fun w' (hb : Below wr.heap.size wr w') => (show w'.cell? ⟨w4.heap.size, 0, none⟩ = some (.int .i64 k) ∧ w'.cell? ⟨w4.heap.size, 1, none⟩ = some (.slice A4 xss.length c4) ∧ w'.cell? ⟨gX, 1, none⟩ = some (.pointer (some ⟨px.gT, 0, none⟩)) ∧ w4.heap.size < w'.heap.size ∧ gX < w'.heap.size from by
            have h0 := (HQ.out.fb.below hb hfl).cell 0
            have h1 := (HQ.out.fb.below hb hfl).cell 1
            have h2 := (hLv.below hb).blk.cell 1
            simp at h0 h1 h2
            exact ⟨h0, h1, h2, (HQ.out.fb.below hb hfl).lt, (hLv.below hb).blk.lt⟩))
          have HBE := Lib.hid HQ.out.bel
          have hwr := HQ.out.bel.size
          have f1 := HQ.out.fb.cell 1
          simp at f1
          have y1 := hLv.blk.cell 1
          simp at y1
          have hgl := hLv.blk.lt
          clear hLv hT hh hfull hsat hfd hph hasl HQ
          go_wp2_with fail
          go_region_law (first
            | (go_simp; go_at_call 22; refine (CF.out _ (Below.refl _ wr).drew).mono ?_; rintro e8 w8 ⟨rfl, hb8⟩; have HB8 := Lib.hid hb8; obtain ⟨p0, p1, p2, p3, p4⟩ := HFC.out w8 hb8; clear hb8)
            | (go_simp; go_at_call 24; refine (CA.out _ HB8.out).mono ?_; rintro e9 w9 ⟨A9, c9, lo9, rfl, ho9, hb9⟩; have HO9 := Lib.hid ho9; have HB9 := Lib.hid hb9; obtain ⟨q0, q1, q2, q3, q4⟩ := HFC.out w9 hb9; clear ho9 hb9)
            | (go_simp; go_at_call 23; refine (CH.out _ _ _ _ HB9.out HO9.out).mono ?_; rintro e10 w10 ⟨rfl, hb10⟩; have HB10 := Lib.hid hb10; clear hb10))
          all_goals (go_wp2; go_ret; exact ⟨rfl, HBE.out.trans (HB10.out.mono hwr)⟩)

theorem full13_raw (u : Int) (nss : List (List Int)) (A : Option Addr) (c : Nat) (bits : Int) (w : World) (hu : (Lit.int .u8 u).wf = true)
    (hx : nss.length ≤ 5864062014805) (m : ∀ j, (nss.getD j []).length * 2 ≤ 140737488351232) (hn : ∀ j i, (Lit.int .i16 ((nss.getD j []).getD i 0)).wf = true) (h : KRows .i16 w w.heap.size A nss) (hb : (Lit.int .u16 bits).wf = true) :
    Calls Try.prog 5 #[.agg #[.int .u8 u, .slice A nss.length c], .int .u16 bits] w fun e w' => e = .returned (.bool true) ∧ Below w.heap.size w w' := by
  obtain ⟨v, rfl, hv⟩ := u8_nat13 hu
  exact full13_any v nss A c bits (by have := bounds_u16 hb; omega) (by have := bounds_u16 hb; omega) w hv (by omega) (fun j => by have := m j; omega) (fun j k => by have := bounds_i16 (hn j k); omega) h
end Go.Proofs.Ytfmcgodgflpggaa
