/- The statement on levels. -/
import Derived.Test.YtihljekdipengaaPhases12
namespace Go.Proofs.Ytihljekdipengaa
open Go.RowKit
set_option linter.unusedVariables false
set_option linter.unusedSimpArgs false

/-- how many literals stand at a level and below -/
def TS.upto (t : TS) (K : Nat) : Nat := (t.starts[K]?).getD t.recs.length
theorem TS.upto_le {t : TS} (h : t.Good) (K : Nat) : t.upto K ≤ t.recs.length := by
  unfold TS.upto
  rcases hs : t.starts[K]? with _ | s
  · exact Nat.le_refl _
  · exact Nat.le_of_lt (h.start s (List.mem_of_getElem? hs))
theorem TS.lev_upto {t : TS} (h : t.Good) {K i : Nat} {r : Rec} (hr : t.recs[i]? = some r) : r.lev ≤ K ↔ i < t.upto K := by
  obtain ⟨h1, h2⟩ := h.lev i r hr
  unfold TS.upto
  rcases hs : t.starts[K]? with _ | s
  · have := List.getElem?_eq_none_iff.1 hs
    have := (List.getElem?_eq_some_iff.1 hr).1
    show r.lev ≤ K ↔ i < t.recs.length
    omega
  · have := h2 K s hs
    show r.lev ≤ K ↔ i < s
    omega
theorem TS.back_recs (t : TS) (K : Int) : (t.back K).recs = t.recs.take (t.upto K.toNat) := by
  unfold TS.back TS.upto
  rcases hs : t.starts[K.toNat]? with _ | s
  · show t.recs = t.recs.take t.recs.length
    rw [List.take_of_length_le (Nat.le_refl _)]
  · rfl
theorem TS.gone_upto (t : TS) (K : Int) : t.gone K = ((t.recs.drop (t.upto K.toNat)).map Rec.l).reverse := by
  unfold TS.gone TS.upto
  rcases hs : t.starts[K.toNat]? with _ | s
  · show [] = ((t.recs.drop t.recs.length).map Rec.l).reverse
    simp
  · rfl
theorem TS.back_starts (t : TS) (K : Int) : (t.back K).starts.length = min K.toNat t.starts.length := by
  unfold TS.back
  rcases hs : t.starts[K.toNat]? with _ | s
  · have := List.getElem?_eq_none_iff.1 hs
    show t.starts.length = _
    omega
  · show (t.starts.take K.toNat).length = _
    simp
theorem levT_at {t : TS} (h : t.Good) {i : Nat} {r : Rec} (hr : t.recs[i]? = some r) : levT t.recs r.l = r.lev := by
  unfold levT
  rw [find_uniq h.uniq hr (.inl rfl)]
theorem atT_at {rs : List Rec} {i : Nat} {r : Rec} (hr : rs[i]? = some r) : atT rs (i : Int) = r.l := by
  unfold atT
  rw [if_pos (by omega), Int.toNat_natCast, hr]
  rfl
theorem gone_top (t : TS) : t.gone (t.starts.length : Nat) = [] := by
  unfold TS.gone
  rw [Int.toNat_natCast, List.getElem?_eq_none (Nat.le_refl _)]

theorem upto_snoc {rs : List Rec} {s i : Nat} {r : Rec} (hr : rs[i]? = some r) (hi : i < s) : (rs.take (min (i + 1) s)).map (fun x => Value.int .i64 x.l) = (rs.take (min i s)).map (fun x => Value.int .i64 x.l) ++ [.int .i64 r.l] := by
  rw [show min (i + 1) s = i + 1 by omega, show min i s = i by omega, List.take_add_one, hr]
  simp

set_option maxRecDepth 100000 in
set_option maxHeartbeats 8000000 in
theorem levels_in (kk : Nat) (hkk : kk ≤ 255) (ds : List DeedV) (A0 : Option Addr) (c0 : Nat) (K : Nat) (hK : K ≤ 9223372036854775807) (w : World) (hn : ds.length ≤ 100) (hok : ∀ d ∈ ds, d.ok) (h : Deeds w w.heap.size A0 ds) :
    Calls Try.prog 4 #[.int .u8 kk, .slice A0 ds.length c0, .int .i64 (K : Int)] w fun e w' => e = .returned (.bool true) ∧ Below w.heap.size w w' := by
  have H := Lib.hid h
  have OK := Lib.hid hok
  have KD := Lib.hid (show ((K : Int) : Int).toNat = K by omega)
  obtain ⟨n, hn12⟩ : ∃ n, kk % 12 = n := ⟨_, rfl⟩
  have e1 : (kk : Int) % 12 = (n : Int) := by omega
  have e2 : Int.tmod (kk : Int) 12 = (n : Int) := by rw [Int.tmod_eq_emod_of_nonneg (by omega)]; exact e1
  have hn11 : n ≤ 11 := by omega
  have e3 : IntKind.u8.wrap (n : Int) = (n : Int) := by simp [IntKind.wrap, IntKind.signed, IntKind.bits]; omega
  have HNEW := Lib.hid (fun w => new_any n (by omega) w)
  clear h hok hn12
  go_enter Try.func4, Try.ntmps4
  go_wp2_with fail
  refine (fit_any w).mono ?_
  rintro e w1 ⟨rfl, hb⟩
  have HB1 := Lib.hid hb
  clear hb
  go_wp2_with fail
  refine (HNEW.out w1).mono ?_
  rintro e w2 ⟨g, P, rfl, ht, hb⟩
  have HS1 := Lib.hid HB1.out.size
  have HT2 := Lib.hid ht
  have HB2 := Lib.hid (HB1.out.trans (hb.mono HS1.out))
  have HS2 := Lib.hid (hb.size)
  clear ht hb
  go_wp2_with fail
  go_loopg [32] (ds.length + 1) (fun gk i wr => ∃ (k : Nat) (t : TS), k ≤ ds.length ∧ gk = ds.length - k + 1 ∧ i = .int .i64 k ∧ Hid (Tr wr w1.heap.size g P t) ∧ Hid (Below w.heap.size w wr) ∧ Hid (w1.heap.size ≤ wr.heap.size) ∧ Hid (t.ph.length = n) ∧ Hid (PhOk t))
  case atStart => exact ⟨0, _, by omega, by omega, rfl, HT2, HB2, HS2, Lib.hid (by simp [TS.fresh]), Lib.hid fun r hr => by simp [TS.fresh] at hr⟩
  case round =>
    obtain ⟨k, t, hk, rfl, rfl, HT, HB, HS, HL, HP⟩ := hrel
    by_cases hlt : k < ds.length
    · obtain ⟨b2, off, rfl, _, d, hd, d0, d1, d2⟩ := (H.out.below HB.out).at_ hlt
      have hdo : d.ok := by rw [hd, List.getD, List.getElem?_eq_getElem hlt]; exact OK.out _ (List.getElem_mem hlt)
      obtain ⟨o1, o2, o3⟩ := hdo
      have low := (u8_low o1).1
      obtain ⟨wd, hwd⟩ : ∃ wd, wd = wr.alloc (.cells #[.int .u8 d.kd, .int .i64 d.l, .int .i64 d.r] 32) := ⟨_, rfl⟩
      have hbd : Below wr.heap.size wr wd := by rw [hwd]; exact (Below.refl _ _).alloc (Nat.le_refl _) _
      have HTd := Lib.hid (HT.out.below hbd)
      have HBd := Lib.hid (HB.out.trans (hbd.mono HB.out.size))
      have HSd := Lib.hid (Nat.le_trans HS.out hbd.size)
      have HWD := Lib.hid hwd
      clear hd hwd hbd
      by_cases h2 : d.kd % 2 = 0
      · have low2 : bits BinOp.and IntKind.u8 (d.kd : Int) 1 = 0 := by rw [low, h2]; rfl
        clear low h2
        go_wp2_with fail
        rw [← HWD.out]
        refine (put_any HTd.out HSd.out d.l d.r o2).mono ?_
        rintro e w3 ⟨rfl, ht, hb⟩
        have HT3 := Lib.hid ht
        have HB3 := Lib.hid (HBd.out.trans (hb.low.mono (Nat.le_trans HB1.out.size (Nat.le_refl _))))
        have HS3 := Lib.hid (hb.sz HSd.out)
        clear ht hb
        go_wp2_with fail
        go_roundg (ds.length - k)
        case measure => omega
        case rel => exact ⟨k + 1, _, by omega, by omega, by go_num, HT3, HB3, HS3, Lib.hid (by rw [TS.put_ph]; exact HL.out), Lib.hid (HP.out.put HT.out.good _ _)⟩
      · have low2 : bits BinOp.and IntKind.u8 (d.kd : Int) 1 = 1 := by rw [low, show d.kd % 2 = 1 by omega]; rfl
        clear low h2
        go_wp2_with fail
        rw [← HWD.out]
        refine (decide_any HTd.out HSd.out d.l o2).mono ?_
        rintro e w3 ⟨rfl, ht, hb⟩
        have HT3 := Lib.hid ht
        have HB3 := Lib.hid (HBd.out.trans (hb.low.mono (Nat.le_trans HB1.out.size (Nat.le_refl _))))
        have HS3 := Lib.hid (hb.sz HSd.out)
        clear ht hb
        go_wp2_with fail
        go_roundg (ds.length - k)
        case measure => omega
        case rel => exact ⟨k + 1, _, by omega, by omega, by go_num, HT3, HB3, HS3, Lib.hid (by rw [TS.dec_ph]; exact HL.out), Lib.hid (HP.out.dec HT.out.good _)⟩
    · obtain ⟨wz, rfl⟩ : ∃ wz : World, wz = wr := ⟨_, rfl⟩
      obtain ⟨i0, hi, hz0, hz1, hz2⟩ := info_parts infoI12
      obtain ⟨m, hm⟩ : ∃ m, t.recs.length = m := ⟨_, rfl⟩
      obtain ⟨s, hs⟩ : ∃ s, t.upto K = s := ⟨_, rfl⟩
      have hsm : s ≤ m := by rw [← hs, ← hm]; exact TS.upto_le HT.out.good _
      have hmn : m ≤ n := by rw [← hm, ← HL.out]; exact HT.out.good.len
      have HM := Lib.hid hm
      have HSU := Lib.hid hs
      clear hm hs
      go_wp2_with fail
      refine (len_any HT.out).mono ?_
      rintro e wq ⟨rfl, rfl⟩
      rw [HM.out]
      go_wp2_with fail
      go_loopg [11, 53] (m + 1) (fun gk kv iv wr => ∃ (i : Nat) (A : Option Addr) (c : Nat), i ≤ m ∧ gk = m - i + 1 ∧ iv = .int .i64 i ∧ kv = .slice A (min i s) c ∧ Hid (wr.ownsRow wz.heap.size 3 1 (.slice A (min i s) c) (min i s) ((t.recs.take (min i s)).map fun x => Value.int .i64 x.l)) ∧ Hid (Below wz.heap.size wz wr))
      case atStart => exact ⟨0, none, 0, by omega, by omega, rfl, by rw [Nat.zero_min], Lib.hid (by rw [Nat.zero_min]; exact World.ownsRow_nil _ _ _ _), Lib.hid (Below.refl _ _)⟩
      case round =>
        obtain ⟨i, A, c, hi1, rfl, rfl, rfl, HO, HBw⟩ := hrel
        have HTr := Lib.hid (HT.out.below HBw.out)
        by_cases hlt2 : i < m
        · obtain ⟨r, hr⟩ : ∃ r, t.recs[i]? = some r := ⟨_, List.getElem?_eq_getElem (by have := HM.out; omega)⟩
          have HR := Lib.hid hr
          have hrl := HT.out.good.lit r (List.mem_of_getElem? hr)
          have hle := TS.lev_upto HT.out.good (K := K) hr
          rw [HSU.out] at hle
          have HAT := Lib.hid (fun (w' : World) (h : Tr w' w1.heap.size g P t) => atT_at hr ▸ at_any12 h (i : Int))
          have HLV := Lib.hid (fun (w' : World) (h : Tr w' w1.heap.size g P t) => levT_at HT.out.good hr ▸ levelOf_any h r.l (by have := HT.out.good.few; omega))
          obtain ⟨x, hx⟩ : ∃ x, r.l = x := ⟨_, rfl⟩
          obtain ⟨v, hv⟩ : ∃ v, r.lev = v := ⟨_, rfl⟩
          have HXL := Lib.hid hx
          rw [hx] at HAT HLV
          rw [hv] at HLV hle
          clear hr hx hv hrl
          go_wp2_with fail
          refine (HAT.out _ HTr.out).mono ?_
          rintro e w3 ⟨rfl, hw⟩
          have HTq := Lib.hid (HTr.out.drewE hw)
          have HWq := Lib.hid hw
          clear hw
          go_wp2_with fail
          refine (HLV.out _ HTq.out).mono ?_
          rintro e w4 ⟨rfl, hw⟩
          have HW4 := Lib.hid (show ∃ q, w4 = wr.drewN q by obtain ⟨a, rfl⟩ := HWq.out; obtain ⟨b, rfl⟩ := hw; exact ⟨_, World.drewN_drewN _ _ _⟩)
          have HT4 := Lib.hid (HTq.out.drewE hw)
          clear hw
          by_cases hvK : v ≤ K
          · have his : i < s := hle.1 hvK
            have hvI : (v : Int) ≤ (K : Int) := by omega
            clear hle hvK
            go_wp2_with fail
            refine (HAT.out _ HT4.out).mono ?_
            rintro e w5 ⟨rfl, hw⟩
            have HW5 := Lib.hid (show ∃ q, w5 = wr.drewN q by obtain ⟨a, rfl⟩ := HW4.out; obtain ⟨b, rfl⟩ := hw; exact ⟨_, World.drewN_drewN _ _ _⟩)
            have HO5 := Lib.hid (show w5.ownsRow wz.heap.size 3 1 (.slice A (min i s) c) (min i s) ((t.recs.take (min i s)).map fun x => Value.int .i64 x.l) by obtain ⟨q, rfl⟩ := HW5.out; exact HO.out)
            have HB5 := Lib.hid (below_drewE12 HBw.out HW5.out)
            clear hw
            go_wp2_with (at_builtin; refine wpList_append1 _ rfl _ _ 36 rfl wz.heap.size 3 i0 (.int .i64 0) 8 Try.underlying36 hi hz0 hz1 hz2 rfl _ (min i s) _ rfl (own_below HO5.out ((Below.refl _ _).alloc (Nat.le_refl _) _) fun q hq => (HO5.out.lt q hq).2) (.int .i64 x) w5.heap.size rfl ?_ rfl (by unfold maxLen; omega) (by omega) ?_ ?_)
            · exact (Blk.new w5 3 #[.int .i64 x]).cell 0
            · have := HB5.out.size
              simp
              omega
            intro v' w9 ho hgr hat
            obtain ⟨A', c', rfl, _⟩ := own_slice ho
            have hmin : min i s + 1 = min (i + 1) s := by omega
            have e4 := upto_snoc HR.out his
            rw [HXL.out] at e4
            rw [← List.map_take, ← e4, hmin] at ho
            rw [hmin]
            have HO9 := Lib.hid ho
            have HB9 := Lib.hid (show Below wz.heap.size wz w9 from ((HB5.out).alloc (by exact HB5.out.size) _).grown hgr (by have := HB5.out.size; simp; omega) (fun q hq => (HO5.out.lt q hq).1))
            clear ho hgr hat e4 hmin
            go_wp2_with fail
            go_roundg (m - i)
            case measure => omega
            case rel => exact ⟨i + 1, _, _, by omega, by omega, by go_num, rfl, HO9, HB9⟩
          · have his : ¬ i < s := fun e => hvK (hle.2 e)
            have hvI : ¬ (v : Int) ≤ (K : Int) := by omega
            have hmin : min i s = min (i + 1) s := by omega
            clear hle hvK
            rw [hmin] at HO
            rw [hmin]
            clear hmin
            have HO5 := Lib.hid (show w4.ownsRow wz.heap.size 3 1 (.slice A (min (i + 1) s) c) (min (i + 1) s) ((t.recs.take (min (i + 1) s)).map fun x => Value.int .i64 x.l) by obtain ⟨q, rfl⟩ := HW4.out; exact HO.out)
            have HB5 := Lib.hid (below_drewE12 HBw.out HW4.out)
            go_wp2_with fail
            go_roundg (m - i)
            case measure => omega
            case rel => exact ⟨i + 1, _, _, by omega, by omega, by go_num, rfl, HO5, HB5⟩
        · obtain rfl : m = i := by omega
          rw [show min m s = s by omega] at HO
          rw [show min m s = s by omega]
          obtain ⟨wk, rfl⟩ : ∃ wk : World, wk = wr := ⟨_, rfl⟩
          have HBk := Lib.hid (HB.out.trans (HBw.out.mono HB.out.size))
          have HSk := Lib.hid (Nat.le_trans HS.out HBw.out.size)
          have hlr := HT.out.good.starts_len
          go_wp2_with fail
          refine (len_any HTr.out).mono ?_
          rintro e wq ⟨rfl, rfl⟩
          rw [HM.out]
          go_wp2_with fail
          refine (level_any HTr.out).mono ?_
          rintro e wq ⟨rfl, rfl⟩
          obtain ⟨L0, hL0⟩ : ∃ L0, t.starts.length = L0 := ⟨_, rfl⟩
          rw [hL0] at hlr ⊢
          have HL0 := Lib.hid hL0
          clear hL0
          go_wp2_with fail
          refine (back_any HTr.out HSk.out (K : Int)).mono ?_
          rintro e w6 ⟨A6, c6, rfl, hog, ht, hb⟩
          have HOK := Lib.hid (hb.own HO.out (by decide) (Ne.symm (own_blk_ne HO.out HTr.out.phs (by decide))))
          have HB6 := Lib.hid (HBk.out.trans (hb.low.mono HS1.out))
          have HS6 := Lib.hid (hb.sz HSk.out)
          have hT1 : (t.back (K : Int)).recs = t.recs.take s := by rw [TS.back_recs, KD.out, HSU.out]
          have hT2 : t.gone (K : Int) = ((t.recs.drop s).map Rec.l).reverse := by rw [TS.gone_upto, KD.out, HSU.out]
          have hT3 : (t.back (K : Int)).starts.length = min K L0 := by rw [TS.back_starts, KD.out, HL0.out]
          have hT4 := TS.back_ph t (K : Int)
          obtain ⟨t6, ht6⟩ : ∃ t6, t.back (K : Int) = t6 := ⟨_, rfl⟩
          obtain ⟨gs, hgs⟩ : ∃ gs, t.gone (K : Int) = gs := ⟨_, rfl⟩
          obtain ⟨gl, hgl⟩ : ∃ gl, gs.length = gl := ⟨_, rfl⟩
          rw [hgs, hgl] at hog
          rw [hgs, hgl]
          rw [ht6] at ht hT1 hT3 hT4
          rw [hgs] at hT2
          have hgm : gl = m - s := by rw [← hgl, hT2]; simp [HM.out]
          have hrl6 : t6.recs.length = s := by rw [hT1, List.length_take, HM.out]; omega
          have HT6 := Lib.hid ht
          have HOG := Lib.hid hog
          have HR6 := Lib.hid hT1
          have HG6 := Lib.hid hT2
          have HGL := Lib.hid hgl
          have HP6 := Lib.hid hT4
          have HLEN := Lib.hid (fun (w' : World) (h : Tr w' w1.heap.size g P t6) => hrl6 ▸ len_any h)
          have hsum : (gl : Int) + (s : Int) = (m : Int) := by omega
          by_cases hKL : K ≤ L0
          · have HLVL := Lib.hid (fun (w' : World) (h : Tr w' w1.heap.size g P t6) => (show ((t6.starts.length : Nat) : Int) = (K : Int) by rw [hT3]; omega) ▸ level_any h)
            have HTOP := Lib.hid (show t6.gone (K : Int) = [] by have := gone_top t6; rw [show ((t6.starts.length : Nat) : Int) = (K : Int) by rw [hT3]; omega] at this; exact this)
            have hKI : (K : Int) ≤ (L0 : Int) := by omega
            clear hog ht hb hT1 hT2 hT3 hT4 ht6 hgs hgl hgm hrl6 hKL
            go_wp2_with fail
            refine (HLEN.out _ HT6.out).mono ?_
            rintro e wq ⟨rfl, rfl⟩
            go_wp2_with fail
            refine (HLVL.out _ HT6.out).mono ?_
            rintro e wq ⟨rfl, rfl⟩
            go_wp2_with fail
            go_loopg [103] (s + 1) (fun gk iv wr => ∃ (i q : Nat), i ≤ s ∧ gk = s - i + 1 ∧ iv = .int .i64 i ∧ wr = w6.drewN q)
            case atStart => exact ⟨0, 0, by omega, by omega, rfl, rfl⟩
            case round =>
              obtain ⟨i, q, hi1, rfl, rfl, rfl⟩ := hrel
              by_cases hlt3 : i < s
              · obtain ⟨r, hr⟩ : ∃ r, t.recs[i]? = some r := ⟨_, List.getElem?_eq_getElem (by have := HM.out; omega)⟩
                have hr6 : t6.recs[i]? = some r := by rw [HR6.out, List.getElem?_take, if_pos hlt3]; exact hr
                have HAT := Lib.hid (atT_at hr6 ▸ at_any12 (HT6.out.drewN q) (i : Int))
                obtain ⟨LK, rfl, -, -⟩ := own_addr HOK.out (by omega)
                have q1 := World.ownsRow.cellAt HOK.out i (by omega)
                have er : ((t.recs.take s).map fun x => Value.int .i64 x.l)[i]? = some (.int .i64 r.l) := by
                  rw [List.getElem?_map, List.getElem?_take, if_pos hlt3, hr]; rfl
                rw [er] at q1
                obtain ⟨x, hx⟩ : ∃ x, r.l = x := ⟨_, rfl⟩
                rw [hx] at HAT q1
                clear hr hr6 er hx
                go_wp2_with fail
                refine HAT.out.mono ?_
                rintro e w9 ⟨rfl, hw⟩
                have HW9 := Lib.hid (show ∃ a, w9 = w6.drewN a by obtain ⟨a, rfl⟩ := hw; exact ⟨_, World.drewN_drewN _ _ _⟩)
                clear hw
                go_wp2_with fail
                go_roundg (s - i)
                case measure => omega
                case rel => exact ⟨i + 1, HW9.out.choose, by omega, by omega, by go_num, HW9.out.choose_spec⟩
              · obtain rfl : s = i := by omega
                obtain ⟨w7, hw7⟩ : ∃ w7, w6.drewN q = w7 := ⟨_, rfl⟩
                have HT7 := Lib.hid (hw7 ▸ HT6.out.drewN q)
                have HOG7 := Lib.hid (show w7.ownsRow wk.heap.size 3 1 (.slice A6 gl c6) gl (gs.map (Value.int .i64)) by rw [← hw7]; exact HOG.out)
                have HB7 := Lib.hid (show Below w.heap.size w w7 by rw [← hw7]; exact below_drewN HB6.out q)
                have HS7 := Lib.hid (show w1.heap.size ≤ w7.heap.size by rw [← hw7]; exact HS6.out)
                rw [hw7]
                clear hw7
                go_wp2_with fail
                go_loopg [116] (gl + 1) (fun gk iv wr => ∃ (i q : Nat), i ≤ gl ∧ gk = gl - i + 1 ∧ iv = .int .i64 i ∧ wr = w7.drewN q)
                case atStart => exact ⟨0, 0, by omega, by omega, rfl, rfl⟩
                case round =>
                  obtain ⟨i, q, hi1, rfl, rfl, rfl⟩ := hrel
                  by_cases hlt4 : i < gl
                  · obtain ⟨r, hr⟩ : ∃ r, t.recs[m - 1 - i]? = some r := ⟨_, List.getElem?_eq_getElem (by have := HM.out; omega)⟩
                    have eg : gs[i]? = some r.l := by
                      have hl : ((t.recs.drop s).map Rec.l).length = m - s := by simp [HM.out]
                      rw [HG6.out, List.getElem?_reverse (by omega), List.getElem?_map, List.getElem?_drop, hl, show s + (m - s - 1 - i) = m - 1 - i by omega, hr]
                      rfl
                    obtain ⟨LG, rfl, -, -⟩ := own_addr HOG7.out (by omega)
                    have q1 := World.ownsRow.cellAt HOG7.out i (by omega)
                    rw [List.getElem?_map, eg] at q1
                    have hlit := HT.out.good.lit r (List.mem_of_getElem? hr)
                    have hfw := HT.out.good.few
                    have hv0 : valT t6.recs r.l = 0 := by
                      refine valT_none.2 (find_none.2 fun y hy ho => ?_)
                      rw [HR6.out] at hy
                      obtain ⟨j, hj, ej⟩ := List.mem_take_iff_getElem.1 hy
                      have h5 := find_uniq HT.out.good.uniq (i := j) (r := y) (l := r.l) (List.getElem?_eq_some_iff.2 ⟨by omega, ej⟩) ho
                      rw [find_uniq HT.out.good.uniq hr (.inl rfl)] at h5
                      simp only [Option.some.injEq, Prod.mk.injEq] at h5
                      omega
                    have hph := HP.out r (List.mem_of_getElem? hr)
                    have HVL := Lib.hid (hv0 ▸ value_any (HT7.out.drewN q) r.l (by omega))
                    by_cases hp : 0 < r.l
                    · have hpv : phT t6.ph r.l = true := by
                        obtain ⟨j, hj⟩ : ∃ j : Nat, r.l = (j : Int) + 1 := ⟨r.l.natAbs - 1, by omega⟩
                        rw [show r.l.natAbs - 1 = j by omega] at hph
                        rw [hj, phT_at, HP6.out, List.getD, hph]
                        simp; omega
                      have HPH := Lib.hid (fun (w' : World) (h : Tr w' w1.heap.size g P t6) => hpv ▸ phase_any h r.l)
                      obtain ⟨x, hx⟩ : ∃ x, r.l = x := ⟨_, rfl⟩
                      rw [hx] at HVL HPH q1 hlit hp
                      have h2 : -x < x := by omega
                      have h3 : ¬ x < -x := by omega
                      clear hr eg hv0 hph hpv hx
                      simp only [Option.map_some] at q1
                      go_wp2_with fail
                      refine HVL.out.mono ?_
                      rintro e w8 ⟨rfl, hw⟩
                      have HT8 := Lib.hid ((HT7.out.drewN q).drewE hw)
                      have HW8 := Lib.hid (show ∃ a, w8 = w7.drewN a by obtain ⟨a, rfl⟩ := hw; exact ⟨_, World.drewN_drewN _ _ _⟩)
                      clear hw
                      go_wp2_with fail
                      refine (HPH.out _ HT8.out).mono ?_
                      rintro e w9 ⟨rfl, hw⟩
                      have HW9 := Lib.hid (show ∃ a, w9 = w7.drewN a by obtain ⟨a, rfl⟩ := HW8.out; obtain ⟨b, rfl⟩ := hw; exact ⟨_, World.drewN_drewN _ _ _⟩)
                      clear hw
                      go_wp2_with fail
                      go_roundg (gl - i)
                      case measure => omega
                      case rel => exact ⟨i + 1, HW9.out.choose, by omega, by omega, by go_num, HW9.out.choose_spec⟩
                    · have hpv : phT t6.ph (-r.l) = false := by
                        obtain ⟨j, hj⟩ : ∃ j : Nat, -r.l = (j : Int) + 1 := ⟨r.l.natAbs - 1, by omega⟩
                        rw [show r.l.natAbs - 1 = j by omega] at hph
                        rw [hj, phT_at, HP6.out, List.getD, hph]
                        simp; omega
                      have HPH := Lib.hid (fun (w' : World) (h : Tr w' w1.heap.size g P t6) => hpv ▸ phase_any h (-r.l))
                      obtain ⟨x, hx⟩ : ∃ x, r.l = x := ⟨_, rfl⟩
                      rw [hx] at HVL HPH q1 hlit hp
                      have h2 : x < -x := by omega
                      have h3 : ¬ -x < x := by omega
                      clear hr eg hv0 hph hpv hx
                      simp only [Option.map_some] at q1
                      go_wp2_with fail
                      refine HVL.out.mono ?_
                      rintro e w8 ⟨rfl, hw⟩
                      have HT8 := Lib.hid ((HT7.out.drewN q).drewE hw)
                      have HW8 := Lib.hid (show ∃ a, w8 = w7.drewN a by obtain ⟨a, rfl⟩ := hw; exact ⟨_, World.drewN_drewN _ _ _⟩)
                      clear hw
                      go_wp2_with fail
                      refine (HPH.out _ HT8.out).mono ?_
                      rintro e w9 ⟨rfl, hw⟩
                      have HW9 := Lib.hid (show ∃ a, w9 = w7.drewN a by obtain ⟨a, rfl⟩ := HW8.out; obtain ⟨b, rfl⟩ := hw; exact ⟨_, World.drewN_drewN _ _ _⟩)
                      clear hw
                      go_wp2_with fail
                      go_roundg (gl - i)
                      case measure => omega
                      case rel => exact ⟨i + 1, HW9.out.choose, by omega, by omega, by go_num, HW9.out.choose_spec⟩
                  · go_wp2_with fail
                    refine (HLVL.out _ (HT7.out.drewN q)).mono ?_
                    rintro e wq ⟨rfl, rfl⟩
                    go_wp2_with fail
                    refine (back_any (HT7.out.drewN q) HS7.out (K : Int)).mono ?_
                    rintro e w10 ⟨A10, c10, rfl, -, -, hb⟩
                    rw [HTOP.out]
                    have HB10 := Lib.hid ((below_drewN HB7.out q).trans (hb.low.mono HS1.out))
                    clear hb
                    go_wp2
                    go_ret
                    exact ⟨rfl, HB10.out⟩
          · have HLVL := Lib.hid (fun (w' : World) (h : Tr w' w1.heap.size g P t6) => (show ((t6.starts.length : Nat) : Int) = (L0 : Int) by rw [hT3]; omega) ▸ level_any h)
            have HTOP := Lib.hid (show t6.gone (L0 : Int) = [] by have := gone_top t6; rw [show ((t6.starts.length : Nat) : Int) = (L0 : Int) by rw [hT3]; omega] at this; exact this)
            have hKI : (L0 : Int) < (K : Int) := by omega
            clear hog ht hb hT1 hT2 hT3 hT4 ht6 hgs hgl hgm hrl6 hKL
            go_wp2_with fail
            refine (HLEN.out _ HT6.out).mono ?_
            rintro e wq ⟨rfl, rfl⟩
            go_wp2_with fail
            refine (HLVL.out _ HT6.out).mono ?_
            rintro e wq ⟨rfl, rfl⟩
            go_wp2_with fail
            go_loopg [103] (s + 1) (fun gk iv wr => ∃ (i q : Nat), i ≤ s ∧ gk = s - i + 1 ∧ iv = .int .i64 i ∧ wr = w6.drewN q)
            case atStart => exact ⟨0, 0, by omega, by omega, rfl, rfl⟩
            case round =>
              obtain ⟨i, q, hi1, rfl, rfl, rfl⟩ := hrel
              by_cases hlt3 : i < s
              · obtain ⟨r, hr⟩ : ∃ r, t.recs[i]? = some r := ⟨_, List.getElem?_eq_getElem (by have := HM.out; omega)⟩
                have hr6 : t6.recs[i]? = some r := by rw [HR6.out, List.getElem?_take, if_pos hlt3]; exact hr
                have HAT := Lib.hid (atT_at hr6 ▸ at_any12 (HT6.out.drewN q) (i : Int))
                obtain ⟨LK, rfl, -, -⟩ := own_addr HOK.out (by omega)
                have q1 := World.ownsRow.cellAt HOK.out i (by omega)
                have er : ((t.recs.take s).map fun x => Value.int .i64 x.l)[i]? = some (.int .i64 r.l) := by
                  rw [List.getElem?_map, List.getElem?_take, if_pos hlt3, hr]; rfl
                rw [er] at q1
                obtain ⟨x, hx⟩ : ∃ x, r.l = x := ⟨_, rfl⟩
                rw [hx] at HAT q1
                clear hr hr6 er hx
                go_wp2_with fail
                refine HAT.out.mono ?_
                rintro e w9 ⟨rfl, hw⟩
                have HW9 := Lib.hid (show ∃ a, w9 = w6.drewN a by obtain ⟨a, rfl⟩ := hw; exact ⟨_, World.drewN_drewN _ _ _⟩)
                clear hw
                go_wp2_with fail
                go_roundg (s - i)
                case measure => omega
                case rel => exact ⟨i + 1, HW9.out.choose, by omega, by omega, by go_num, HW9.out.choose_spec⟩
              · obtain rfl : s = i := by omega
                obtain ⟨w7, hw7⟩ : ∃ w7, w6.drewN q = w7 := ⟨_, rfl⟩
                have HT7 := Lib.hid (hw7 ▸ HT6.out.drewN q)
                have HOG7 := Lib.hid (show w7.ownsRow wk.heap.size 3 1 (.slice A6 gl c6) gl (gs.map (Value.int .i64)) by rw [← hw7]; exact HOG.out)
                have HB7 := Lib.hid (show Below w.heap.size w w7 by rw [← hw7]; exact below_drewN HB6.out q)
                have HS7 := Lib.hid (show w1.heap.size ≤ w7.heap.size by rw [← hw7]; exact HS6.out)
                rw [hw7]
                clear hw7
                go_wp2_with fail
                go_loopg [116] (gl + 1) (fun gk iv wr => ∃ (i q : Nat), i ≤ gl ∧ gk = gl - i + 1 ∧ iv = .int .i64 i ∧ wr = w7.drewN q)
                case atStart => exact ⟨0, 0, by omega, by omega, rfl, rfl⟩
                case round =>
                  obtain ⟨i, q, hi1, rfl, rfl, rfl⟩ := hrel
                  by_cases hlt4 : i < gl
                  · obtain ⟨r, hr⟩ : ∃ r, t.recs[m - 1 - i]? = some r := ⟨_, List.getElem?_eq_getElem (by have := HM.out; omega)⟩
                    have eg : gs[i]? = some r.l := by
                      have hl : ((t.recs.drop s).map Rec.l).length = m - s := by simp [HM.out]
                      rw [HG6.out, List.getElem?_reverse (by omega), List.getElem?_map, List.getElem?_drop, hl, show s + (m - s - 1 - i) = m - 1 - i by omega, hr]
                      rfl
                    obtain ⟨LG, rfl, -, -⟩ := own_addr HOG7.out (by omega)
                    have q1 := World.ownsRow.cellAt HOG7.out i (by omega)
                    rw [List.getElem?_map, eg] at q1
                    have hlit := HT.out.good.lit r (List.mem_of_getElem? hr)
                    have hfw := HT.out.good.few
                    have hv0 : valT t6.recs r.l = 0 := by
                      refine valT_none.2 (find_none.2 fun y hy ho => ?_)
                      rw [HR6.out] at hy
                      obtain ⟨j, hj, ej⟩ := List.mem_take_iff_getElem.1 hy
                      have h5 := find_uniq HT.out.good.uniq (i := j) (r := y) (l := r.l) (List.getElem?_eq_some_iff.2 ⟨by omega, ej⟩) ho
                      rw [find_uniq HT.out.good.uniq hr (.inl rfl)] at h5
                      simp only [Option.some.injEq, Prod.mk.injEq] at h5
                      omega
                    have hph := HP.out r (List.mem_of_getElem? hr)
                    have HVL := Lib.hid (hv0 ▸ value_any (HT7.out.drewN q) r.l (by omega))
                    by_cases hp : 0 < r.l
                    · have hpv : phT t6.ph r.l = true := by
                        obtain ⟨j, hj⟩ : ∃ j : Nat, r.l = (j : Int) + 1 := ⟨r.l.natAbs - 1, by omega⟩
                        rw [show r.l.natAbs - 1 = j by omega] at hph
                        rw [hj, phT_at, HP6.out, List.getD, hph]
                        simp; omega
                      have HPH := Lib.hid (fun (w' : World) (h : Tr w' w1.heap.size g P t6) => hpv ▸ phase_any h r.l)
                      obtain ⟨x, hx⟩ : ∃ x, r.l = x := ⟨_, rfl⟩
                      rw [hx] at HVL HPH q1 hlit hp
                      have h2 : -x < x := by omega
                      have h3 : ¬ x < -x := by omega
                      clear hr eg hv0 hph hpv hx
                      simp only [Option.map_some] at q1
                      go_wp2_with fail
                      refine HVL.out.mono ?_
                      rintro e w8 ⟨rfl, hw⟩
                      have HT8 := Lib.hid ((HT7.out.drewN q).drewE hw)
                      have HW8 := Lib.hid (show ∃ a, w8 = w7.drewN a by obtain ⟨a, rfl⟩ := hw; exact ⟨_, World.drewN_drewN _ _ _⟩)
                      clear hw
                      go_wp2_with fail
                      refine (HPH.out _ HT8.out).mono ?_
                      rintro e w9 ⟨rfl, hw⟩
                      have HW9 := Lib.hid (show ∃ a, w9 = w7.drewN a by obtain ⟨a, rfl⟩ := HW8.out; obtain ⟨b, rfl⟩ := hw; exact ⟨_, World.drewN_drewN _ _ _⟩)
                      clear hw
                      go_wp2_with fail
                      go_roundg (gl - i)
                      case measure => omega
                      case rel => exact ⟨i + 1, HW9.out.choose, by omega, by omega, by go_num, HW9.out.choose_spec⟩
                    · have hpv : phT t6.ph (-r.l) = false := by
                        obtain ⟨j, hj⟩ : ∃ j : Nat, -r.l = (j : Int) + 1 := ⟨r.l.natAbs - 1, by omega⟩
                        rw [show r.l.natAbs - 1 = j by omega] at hph
                        rw [hj, phT_at, HP6.out, List.getD, hph]
                        simp; omega
                      have HPH := Lib.hid (fun (w' : World) (h : Tr w' w1.heap.size g P t6) => hpv ▸ phase_any h (-r.l))
                      obtain ⟨x, hx⟩ : ∃ x, r.l = x := ⟨_, rfl⟩
                      rw [hx] at HVL HPH q1 hlit hp
                      have h2 : x < -x := by omega
                      have h3 : ¬ -x < x := by omega
                      clear hr eg hv0 hph hpv hx
                      simp only [Option.map_some] at q1
                      go_wp2_with fail
                      refine HVL.out.mono ?_
                      rintro e w8 ⟨rfl, hw⟩
                      have HT8 := Lib.hid ((HT7.out.drewN q).drewE hw)
                      have HW8 := Lib.hid (show ∃ a, w8 = w7.drewN a by obtain ⟨a, rfl⟩ := hw; exact ⟨_, World.drewN_drewN _ _ _⟩)
                      clear hw
                      go_wp2_with fail
                      refine (HPH.out _ HT8.out).mono ?_
                      rintro e w9 ⟨rfl, hw⟩
                      have HW9 := Lib.hid (show ∃ a, w9 = w7.drewN a by obtain ⟨a, rfl⟩ := HW8.out; obtain ⟨b, rfl⟩ := hw; exact ⟨_, World.drewN_drewN _ _ _⟩)
                      clear hw
                      go_wp2_with fail
                      go_roundg (gl - i)
                      case measure => omega
                      case rel => exact ⟨i + 1, HW9.out.choose, by omega, by omega, by go_num, HW9.out.choose_spec⟩
                  · go_wp2_with fail
                    refine (HLVL.out _ (HT7.out.drewN q)).mono ?_
                    rintro e wq ⟨rfl, rfl⟩
                    go_wp2_with fail
                    refine (back_any (HT7.out.drewN q) HS7.out (L0 : Int)).mono ?_
                    rintro e w10 ⟨A10, c10, rfl, -, -, hb⟩
                    rw [HTOP.out]
                    have HB10 := Lib.hid ((below_drewN HB7.out q).trans (hb.low.mono HS1.out))
                    clear hb
                    go_wp2
                    go_ret
                    exact ⟨rfl, HB10.out⟩

set_option maxRecDepth 100000 in
set_option maxHeartbeats 8000000 in
theorem levels_low (kk : Nat) (hkk : kk ≤ 255) (ds : List DeedV) (A0 : Option Addr) (c0 : Nat) (lo : Int) (hto : lo < 0) (hto2 : -9223372036854775808 ≤ lo) (w : World) (hn : ds.length ≤ 100) (hok : ∀ d ∈ ds, d.ok) (h : Deeds w w.heap.size A0 ds) :
    Calls Try.prog 4 #[.int .u8 kk, .slice A0 ds.length c0, .int .i64 lo] w fun e w' => e = .returned (.bool true) ∧ Below w.heap.size w w' := by
  have H := Lib.hid h
  have OK := Lib.hid hok
  have KD := Lib.hid (show (lo : Int).toNat = 0 by omega)
  obtain ⟨n, hn12⟩ : ∃ n, kk % 12 = n := ⟨_, rfl⟩
  have e1 : (kk : Int) % 12 = (n : Int) := by omega
  have e2 : Int.tmod (kk : Int) 12 = (n : Int) := by rw [Int.tmod_eq_emod_of_nonneg (by omega)]; exact e1
  have hn11 : n ≤ 11 := by omega
  have e3 : IntKind.u8.wrap (n : Int) = (n : Int) := by simp [IntKind.wrap, IntKind.signed, IntKind.bits]; omega
  have HNEW := Lib.hid (fun w => new_any n (by omega) w)
  clear h hok hn12
  go_enter Try.func4, Try.ntmps4
  go_wp2_with fail
  refine (fit_any w).mono ?_
  rintro e w1 ⟨rfl, hb⟩
  have HB1 := Lib.hid hb
  clear hb
  go_wp2_with fail
  refine (HNEW.out w1).mono ?_
  rintro e w2 ⟨g, P, rfl, ht, hb⟩
  have HS1 := Lib.hid HB1.out.size
  have HT2 := Lib.hid ht
  have HB2 := Lib.hid (HB1.out.trans (hb.mono HS1.out))
  have HS2 := Lib.hid (hb.size)
  clear ht hb
  go_wp2_with fail
  go_loopg [32] (ds.length + 1) (fun gk i wr => ∃ (k : Nat) (t : TS), k ≤ ds.length ∧ gk = ds.length - k + 1 ∧ i = .int .i64 k ∧ Hid (Tr wr w1.heap.size g P t) ∧ Hid (Below w.heap.size w wr) ∧ Hid (w1.heap.size ≤ wr.heap.size) ∧ Hid (t.ph.length = n) ∧ Hid (PhOk t))
  case atStart => exact ⟨0, _, by omega, by omega, rfl, HT2, HB2, HS2, Lib.hid (by simp [TS.fresh]), Lib.hid fun r hr => by simp [TS.fresh] at hr⟩
  case round =>
    obtain ⟨k, t, hk, rfl, rfl, HT, HB, HS, HL, HP⟩ := hrel
    by_cases hlt : k < ds.length
    · obtain ⟨b2, off, rfl, _, d, hd, d0, d1, d2⟩ := (H.out.below HB.out).at_ hlt
      have hdo : d.ok := by rw [hd, List.getD, List.getElem?_eq_getElem hlt]; exact OK.out _ (List.getElem_mem hlt)
      obtain ⟨o1, o2, o3⟩ := hdo
      have low := (u8_low o1).1
      obtain ⟨wd, hwd⟩ : ∃ wd, wd = wr.alloc (.cells #[.int .u8 d.kd, .int .i64 d.l, .int .i64 d.r] 32) := ⟨_, rfl⟩
      have hbd : Below wr.heap.size wr wd := by rw [hwd]; exact (Below.refl _ _).alloc (Nat.le_refl _) _
      have HTd := Lib.hid (HT.out.below hbd)
      have HBd := Lib.hid (HB.out.trans (hbd.mono HB.out.size))
      have HSd := Lib.hid (Nat.le_trans HS.out hbd.size)
      have HWD := Lib.hid hwd
      clear hd hwd hbd
      by_cases h2 : d.kd % 2 = 0
      · have low2 : bits BinOp.and IntKind.u8 (d.kd : Int) 1 = 0 := by rw [low, h2]; rfl
        clear low h2
        go_wp2_with fail
        rw [← HWD.out]
        refine (put_any HTd.out HSd.out d.l d.r o2).mono ?_
        rintro e w3 ⟨rfl, ht, hb⟩
        have HT3 := Lib.hid ht
        have HB3 := Lib.hid (HBd.out.trans (hb.low.mono (Nat.le_trans HB1.out.size (Nat.le_refl _))))
        have HS3 := Lib.hid (hb.sz HSd.out)
        clear ht hb
        go_wp2_with fail
        go_roundg (ds.length - k)
        case measure => omega
        case rel => exact ⟨k + 1, _, by omega, by omega, by go_num, HT3, HB3, HS3, Lib.hid (by rw [TS.put_ph]; exact HL.out), Lib.hid (HP.out.put HT.out.good _ _)⟩
      · have low2 : bits BinOp.and IntKind.u8 (d.kd : Int) 1 = 1 := by rw [low, show d.kd % 2 = 1 by omega]; rfl
        clear low h2
        go_wp2_with fail
        rw [← HWD.out]
        refine (decide_any HTd.out HSd.out d.l o2).mono ?_
        rintro e w3 ⟨rfl, ht, hb⟩
        have HT3 := Lib.hid ht
        have HB3 := Lib.hid (HBd.out.trans (hb.low.mono (Nat.le_trans HB1.out.size (Nat.le_refl _))))
        have HS3 := Lib.hid (hb.sz HSd.out)
        clear ht hb
        go_wp2_with fail
        go_roundg (ds.length - k)
        case measure => omega
        case rel => exact ⟨k + 1, _, by omega, by omega, by go_num, HT3, HB3, HS3, Lib.hid (by rw [TS.dec_ph]; exact HL.out), Lib.hid (HP.out.dec HT.out.good _)⟩
    · obtain ⟨wz, rfl⟩ : ∃ wz : World, wz = wr := ⟨_, rfl⟩
      obtain ⟨i0, hi, hz0, hz1, hz2⟩ := info_parts infoI12
      obtain ⟨m, hm⟩ : ∃ m, t.recs.length = m := ⟨_, rfl⟩
      obtain ⟨s, hs⟩ : ∃ s, t.upto 0 = s := ⟨_, rfl⟩
      have hsm : s ≤ m := by rw [← hs, ← hm]; exact TS.upto_le HT.out.good _
      have hmn : m ≤ n := by rw [← hm, ← HL.out]; exact HT.out.good.len
      have HM := Lib.hid hm
      have HSU := Lib.hid hs
      clear hm hs
      go_wp2_with fail
      refine (len_any HT.out).mono ?_
      rintro e wq ⟨rfl, rfl⟩
      rw [HM.out]
      go_wp2_with fail
      go_loopg [11, 53] (m + 1) (fun gk kv iv wr => ∃ (i : Nat) (A : Option Addr) (c : Nat), i ≤ m ∧ gk = m - i + 1 ∧ iv = .int .i64 i ∧ kv = .slice A (min i s) c ∧ Hid (wr.ownsRow wz.heap.size 3 1 (.slice A (min i s) c) (min i s) ((t.recs.take (min i s)).map fun x => Value.int .i64 x.l)) ∧ Hid (Below wz.heap.size wz wr))
      case atStart => exact ⟨0, none, 0, by omega, by omega, rfl, by rw [Nat.zero_min], Lib.hid (by rw [Nat.zero_min]; exact World.ownsRow_nil _ _ _ _), Lib.hid (Below.refl _ _)⟩
      case round =>
        obtain ⟨i, A, c, hi1, rfl, rfl, rfl, HO, HBw⟩ := hrel
        have HTr := Lib.hid (HT.out.below HBw.out)
        by_cases hlt2 : i < m
        · obtain ⟨r, hr⟩ : ∃ r, t.recs[i]? = some r := ⟨_, List.getElem?_eq_getElem (by have := HM.out; omega)⟩
          have HR := Lib.hid hr
          have hrl := HT.out.good.lit r (List.mem_of_getElem? hr)
          have hle := TS.lev_upto HT.out.good (K := 0) hr
          rw [HSU.out] at hle
          have HAT := Lib.hid (fun (w' : World) (h : Tr w' w1.heap.size g P t) => atT_at hr ▸ at_any12 h (i : Int))
          have HLV := Lib.hid (fun (w' : World) (h : Tr w' w1.heap.size g P t) => levT_at HT.out.good hr ▸ levelOf_any h r.l (by have := HT.out.good.few; omega))
          obtain ⟨x, hx⟩ : ∃ x, r.l = x := ⟨_, rfl⟩
          obtain ⟨v, hv⟩ : ∃ v, r.lev = v := ⟨_, rfl⟩
          have HXL := Lib.hid hx
          rw [hx] at HAT HLV
          rw [hv] at HLV hle
          clear hr hx hv hrl
          go_wp2_with fail
          refine (HAT.out _ HTr.out).mono ?_
          rintro e w3 ⟨rfl, hw⟩
          have HTq := Lib.hid (HTr.out.drewE hw)
          have HWq := Lib.hid hw
          clear hw
          go_wp2_with fail
          refine (HLV.out _ HTq.out).mono ?_
          rintro e w4 ⟨rfl, hw⟩
          have HW4 := Lib.hid (show ∃ q, w4 = wr.drewN q by obtain ⟨a, rfl⟩ := HWq.out; obtain ⟨b, rfl⟩ := hw; exact ⟨_, World.drewN_drewN _ _ _⟩)
          have HT4 := Lib.hid (HTq.out.drewE hw)
          clear hw
          by_cases hvK : v ≤ 0
          · have his : i < s := hle.1 hvK
            have hvI : (v : Int) ≤ 0 := by omega
            clear hle hvK
            go_wp2_with fail
            refine (HAT.out _ HT4.out).mono ?_
            rintro e w5 ⟨rfl, hw⟩
            have HW5 := Lib.hid (show ∃ q, w5 = wr.drewN q by obtain ⟨a, rfl⟩ := HW4.out; obtain ⟨b, rfl⟩ := hw; exact ⟨_, World.drewN_drewN _ _ _⟩)
            have HO5 := Lib.hid (show w5.ownsRow wz.heap.size 3 1 (.slice A (min i s) c) (min i s) ((t.recs.take (min i s)).map fun x => Value.int .i64 x.l) by obtain ⟨q, rfl⟩ := HW5.out; exact HO.out)
            have HB5 := Lib.hid (below_drewE12 HBw.out HW5.out)
            clear hw
            go_wp2_with (at_builtin; refine wpList_append1 _ rfl _ _ 36 rfl wz.heap.size 3 i0 (.int .i64 0) 8 Try.underlying36 hi hz0 hz1 hz2 rfl _ (min i s) _ rfl (own_below HO5.out ((Below.refl _ _).alloc (Nat.le_refl _) _) fun q hq => (HO5.out.lt q hq).2) (.int .i64 x) w5.heap.size rfl ?_ rfl (by unfold maxLen; omega) (by omega) ?_ ?_)
            · exact (Blk.new w5 3 #[.int .i64 x]).cell 0
            · have := HB5.out.size
              simp
              omega
            intro v' w9 ho hgr hat
            obtain ⟨A', c', rfl, _⟩ := own_slice ho
            have hmin : min i s + 1 = min (i + 1) s := by omega
            have e4 := upto_snoc HR.out his
            rw [HXL.out] at e4
            rw [← List.map_take, ← e4, hmin] at ho
            rw [hmin]
            have HO9 := Lib.hid ho
            have HB9 := Lib.hid (show Below wz.heap.size wz w9 from ((HB5.out).alloc (by exact HB5.out.size) _).grown hgr (by have := HB5.out.size; simp; omega) (fun q hq => (HO5.out.lt q hq).1))
            clear ho hgr hat e4 hmin
            go_wp2_with fail
            go_roundg (m - i)
            case measure => omega
            case rel => exact ⟨i + 1, _, _, by omega, by omega, by go_num, rfl, HO9, HB9⟩
          · have his : ¬ i < s := fun e => hvK (hle.2 e)
            have hvI : ¬ (v : Int) ≤ 0 := by omega
            have hmin : min i s = min (i + 1) s := by omega
            clear hle hvK
            rw [hmin] at HO
            rw [hmin]
            clear hmin
            have HO5 := Lib.hid (show w4.ownsRow wz.heap.size 3 1 (.slice A (min (i + 1) s) c) (min (i + 1) s) ((t.recs.take (min (i + 1) s)).map fun x => Value.int .i64 x.l) by obtain ⟨q, rfl⟩ := HW4.out; exact HO.out)
            have HB5 := Lib.hid (below_drewE12 HBw.out HW4.out)
            go_wp2_with fail
            go_roundg (m - i)
            case measure => omega
            case rel => exact ⟨i + 1, _, _, by omega, by omega, by go_num, rfl, HO5, HB5⟩
        · obtain rfl : m = i := by omega
          rw [show min m s = s by omega] at HO
          rw [show min m s = s by omega]
          obtain ⟨wk, rfl⟩ : ∃ wk : World, wk = wr := ⟨_, rfl⟩
          have HBk := Lib.hid (HB.out.trans (HBw.out.mono HB.out.size))
          have HSk := Lib.hid (Nat.le_trans HS.out HBw.out.size)
          have hlr := HT.out.good.starts_len
          go_wp2_with fail
          refine (len_any HTr.out).mono ?_
          rintro e wq ⟨rfl, rfl⟩
          rw [HM.out]
          go_wp2_with fail
          refine (level_any HTr.out).mono ?_
          rintro e wq ⟨rfl, rfl⟩
          obtain ⟨L0, hL0⟩ : ∃ L0, t.starts.length = L0 := ⟨_, rfl⟩
          rw [hL0] at hlr ⊢
          have HL0 := Lib.hid hL0
          clear hL0
          go_wp2_with fail
          refine (back_any HTr.out HSk.out lo).mono ?_
          rintro e w6 ⟨A6, c6, rfl, hog, ht, hb⟩
          have HOK := Lib.hid (hb.own HO.out (by decide) (Ne.symm (own_blk_ne HO.out HTr.out.phs (by decide))))
          have HB6 := Lib.hid (HBk.out.trans (hb.low.mono HS1.out))
          have HS6 := Lib.hid (hb.sz HSk.out)
          have hT1 : (t.back lo).recs = t.recs.take s := by rw [TS.back_recs, KD.out, HSU.out]
          have hT2 : t.gone lo = ((t.recs.drop s).map Rec.l).reverse := by rw [TS.gone_upto, KD.out, HSU.out]
          have hT3 : (t.back lo).starts.length = min 0 L0 := by rw [TS.back_starts, KD.out, HL0.out]
          have hT4 := TS.back_ph t lo
          obtain ⟨t6, ht6⟩ : ∃ t6, t.back lo = t6 := ⟨_, rfl⟩
          obtain ⟨gs, hgs⟩ : ∃ gs, t.gone lo = gs := ⟨_, rfl⟩
          obtain ⟨gl, hgl⟩ : ∃ gl, gs.length = gl := ⟨_, rfl⟩
          rw [hgs, hgl] at hog
          rw [hgs, hgl]
          rw [ht6] at ht hT1 hT3 hT4
          rw [hgs] at hT2
          have hgm : gl = m - s := by rw [← hgl, hT2]; simp [HM.out]
          have hrl6 : t6.recs.length = s := by rw [hT1, List.length_take, HM.out]; omega
          have HT6 := Lib.hid ht
          have HOG := Lib.hid hog
          have HR6 := Lib.hid hT1
          have HG6 := Lib.hid hT2
          have HGL := Lib.hid hgl
          have HP6 := Lib.hid hT4
          have HLEN := Lib.hid (fun (w' : World) (h : Tr w' w1.heap.size g P t6) => hrl6 ▸ len_any h)
          have hsum : (gl : Int) + (s : Int) = (m : Int) := by omega
          by_cases hKL : 0 ≤ L0
          · have HLVL := Lib.hid (fun (w' : World) (h : Tr w' w1.heap.size g P t6) => (show ((t6.starts.length : Nat) : Int) = 0 by rw [hT3]; omega) ▸ level_any h)
            have HTOP := Lib.hid (show t6.gone 0 = [] by have := gone_top t6; rw [show ((t6.starts.length : Nat) : Int) = 0 by rw [hT3]; omega] at this; exact this)
            have hKI : 0 ≤ (L0 : Int) := by omega
            clear hog ht hb hT1 hT2 hT3 hT4 ht6 hgs hgl hgm hrl6 hKL
            go_wp2_with fail
            refine (HLEN.out _ HT6.out).mono ?_
            rintro e wq ⟨rfl, rfl⟩
            go_wp2_with fail
            refine (HLVL.out _ HT6.out).mono ?_
            rintro e wq ⟨rfl, rfl⟩
            go_wp2_with fail
            go_loopg [103] (s + 1) (fun gk iv wr => ∃ (i q : Nat), i ≤ s ∧ gk = s - i + 1 ∧ iv = .int .i64 i ∧ wr = w6.drewN q)
            case atStart => exact ⟨0, 0, by omega, by omega, rfl, rfl⟩
            case round =>
              obtain ⟨i, q, hi1, rfl, rfl, rfl⟩ := hrel
              by_cases hlt3 : i < s
              · obtain ⟨r, hr⟩ : ∃ r, t.recs[i]? = some r := ⟨_, List.getElem?_eq_getElem (by have := HM.out; omega)⟩
                have hr6 : t6.recs[i]? = some r := by rw [HR6.out, List.getElem?_take, if_pos hlt3]; exact hr
                have HAT := Lib.hid (atT_at hr6 ▸ at_any12 (HT6.out.drewN q) (i : Int))
                obtain ⟨LK, rfl, -, -⟩ := own_addr HOK.out (by omega)
                have q1 := World.ownsRow.cellAt HOK.out i (by omega)
                have er : ((t.recs.take s).map fun x => Value.int .i64 x.l)[i]? = some (.int .i64 r.l) := by
                  rw [List.getElem?_map, List.getElem?_take, if_pos hlt3, hr]; rfl
                rw [er] at q1
                obtain ⟨x, hx⟩ : ∃ x, r.l = x := ⟨_, rfl⟩
                rw [hx] at HAT q1
                clear hr hr6 er hx
                go_wp2_with fail
                refine HAT.out.mono ?_
                rintro e w9 ⟨rfl, hw⟩
                have HW9 := Lib.hid (show ∃ a, w9 = w6.drewN a by obtain ⟨a, rfl⟩ := hw; exact ⟨_, World.drewN_drewN _ _ _⟩)
                clear hw
                go_wp2_with fail
                go_roundg (s - i)
                case measure => omega
                case rel => exact ⟨i + 1, HW9.out.choose, by omega, by omega, by go_num, HW9.out.choose_spec⟩
              · obtain rfl : s = i := by omega
                obtain ⟨w7, hw7⟩ : ∃ w7, w6.drewN q = w7 := ⟨_, rfl⟩
                have HT7 := Lib.hid (hw7 ▸ HT6.out.drewN q)
                have HOG7 := Lib.hid (show w7.ownsRow wk.heap.size 3 1 (.slice A6 gl c6) gl (gs.map (Value.int .i64)) by rw [← hw7]; exact HOG.out)
                have HB7 := Lib.hid (show Below w.heap.size w w7 by rw [← hw7]; exact below_drewN HB6.out q)
                have HS7 := Lib.hid (show w1.heap.size ≤ w7.heap.size by rw [← hw7]; exact HS6.out)
                rw [hw7]
                clear hw7
                go_wp2_with fail
                go_loopg [116] (gl + 1) (fun gk iv wr => ∃ (i q : Nat), i ≤ gl ∧ gk = gl - i + 1 ∧ iv = .int .i64 i ∧ wr = w7.drewN q)
                case atStart => exact ⟨0, 0, by omega, by omega, rfl, rfl⟩
                case round =>
                  obtain ⟨i, q, hi1, rfl, rfl, rfl⟩ := hrel
                  by_cases hlt4 : i < gl
                  · obtain ⟨r, hr⟩ : ∃ r, t.recs[m - 1 - i]? = some r := ⟨_, List.getElem?_eq_getElem (by have := HM.out; omega)⟩
                    have eg : gs[i]? = some r.l := by
                      have hl : ((t.recs.drop s).map Rec.l).length = m - s := by simp [HM.out]
                      rw [HG6.out, List.getElem?_reverse (by omega), List.getElem?_map, List.getElem?_drop, hl, show s + (m - s - 1 - i) = m - 1 - i by omega, hr]
                      rfl
                    obtain ⟨LG, rfl, -, -⟩ := own_addr HOG7.out (by omega)
                    have q1 := World.ownsRow.cellAt HOG7.out i (by omega)
                    rw [List.getElem?_map, eg] at q1
                    have hlit := HT.out.good.lit r (List.mem_of_getElem? hr)
                    have hfw := HT.out.good.few
                    have hv0 : valT t6.recs r.l = 0 := by
                      refine valT_none.2 (find_none.2 fun y hy ho => ?_)
                      rw [HR6.out] at hy
                      obtain ⟨j, hj, ej⟩ := List.mem_take_iff_getElem.1 hy
                      have h5 := find_uniq HT.out.good.uniq (i := j) (r := y) (l := r.l) (List.getElem?_eq_some_iff.2 ⟨by omega, ej⟩) ho
                      rw [find_uniq HT.out.good.uniq hr (.inl rfl)] at h5
                      simp only [Option.some.injEq, Prod.mk.injEq] at h5
                      omega
                    have hph := HP.out r (List.mem_of_getElem? hr)
                    have HVL := Lib.hid (hv0 ▸ value_any (HT7.out.drewN q) r.l (by omega))
                    by_cases hp : 0 < r.l
                    · have hpv : phT t6.ph r.l = true := by
                        obtain ⟨j, hj⟩ : ∃ j : Nat, r.l = (j : Int) + 1 := ⟨r.l.natAbs - 1, by omega⟩
                        rw [show r.l.natAbs - 1 = j by omega] at hph
                        rw [hj, phT_at, HP6.out, List.getD, hph]
                        simp; omega
                      have HPH := Lib.hid (fun (w' : World) (h : Tr w' w1.heap.size g P t6) => hpv ▸ phase_any h r.l)
                      obtain ⟨x, hx⟩ : ∃ x, r.l = x := ⟨_, rfl⟩
                      rw [hx] at HVL HPH q1 hlit hp
                      have h2 : -x < x := by omega
                      have h3 : ¬ x < -x := by omega
                      clear hr eg hv0 hph hpv hx
                      simp only [Option.map_some] at q1
                      go_wp2_with fail
                      refine HVL.out.mono ?_
                      rintro e w8 ⟨rfl, hw⟩
                      have HT8 := Lib.hid ((HT7.out.drewN q).drewE hw)
                      have HW8 := Lib.hid (show ∃ a, w8 = w7.drewN a by obtain ⟨a, rfl⟩ := hw; exact ⟨_, World.drewN_drewN _ _ _⟩)
                      clear hw
                      go_wp2_with fail
                      refine (HPH.out _ HT8.out).mono ?_
                      rintro e w9 ⟨rfl, hw⟩
                      have HW9 := Lib.hid (show ∃ a, w9 = w7.drewN a by obtain ⟨a, rfl⟩ := HW8.out; obtain ⟨b, rfl⟩ := hw; exact ⟨_, World.drewN_drewN _ _ _⟩)
                      clear hw
                      go_wp2_with fail
                      go_roundg (gl - i)
                      case measure => omega
                      case rel => exact ⟨i + 1, HW9.out.choose, by omega, by omega, by go_num, HW9.out.choose_spec⟩
                    · have hpv : phT t6.ph (-r.l) = false := by
                        obtain ⟨j, hj⟩ : ∃ j : Nat, -r.l = (j : Int) + 1 := ⟨r.l.natAbs - 1, by omega⟩
                        rw [show r.l.natAbs - 1 = j by omega] at hph
                        rw [hj, phT_at, HP6.out, List.getD, hph]
                        simp; omega
                      have HPH := Lib.hid (fun (w' : World) (h : Tr w' w1.heap.size g P t6) => hpv ▸ phase_any h (-r.l))
                      obtain ⟨x, hx⟩ : ∃ x, r.l = x := ⟨_, rfl⟩
                      rw [hx] at HVL HPH q1 hlit hp
                      have h2 : x < -x := by omega
                      have h3 : ¬ -x < x := by omega
                      clear hr eg hv0 hph hpv hx
                      simp only [Option.map_some] at q1
                      go_wp2_with fail
                      refine HVL.out.mono ?_
                      rintro e w8 ⟨rfl, hw⟩
                      have HT8 := Lib.hid ((HT7.out.drewN q).drewE hw)
                      have HW8 := Lib.hid (show ∃ a, w8 = w7.drewN a by obtain ⟨a, rfl⟩ := hw; exact ⟨_, World.drewN_drewN _ _ _⟩)
                      clear hw
                      go_wp2_with fail
                      refine (HPH.out _ HT8.out).mono ?_
                      rintro e w9 ⟨rfl, hw⟩
                      have HW9 := Lib.hid (show ∃ a, w9 = w7.drewN a by obtain ⟨a, rfl⟩ := HW8.out; obtain ⟨b, rfl⟩ := hw; exact ⟨_, World.drewN_drewN _ _ _⟩)
                      clear hw
                      go_wp2_with fail
                      go_roundg (gl - i)
                      case measure => omega
                      case rel => exact ⟨i + 1, HW9.out.choose, by omega, by omega, by go_num, HW9.out.choose_spec⟩
                  · go_wp2_with fail
                    refine (HLVL.out _ (HT7.out.drewN q)).mono ?_
                    rintro e wq ⟨rfl, rfl⟩
                    go_wp2_with fail
                    refine (back_any (HT7.out.drewN q) HS7.out 0).mono ?_
                    rintro e w10 ⟨A10, c10, rfl, -, -, hb⟩
                    rw [HTOP.out]
                    have HB10 := Lib.hid ((below_drewN HB7.out q).trans (hb.low.mono HS1.out))
                    clear hb
                    go_wp2
                    go_ret
                    exact ⟨rfl, HB10.out⟩
          · exact absurd (Nat.zero_le _) hKL
end Go.Proofs.Ytihljekdipengaa
