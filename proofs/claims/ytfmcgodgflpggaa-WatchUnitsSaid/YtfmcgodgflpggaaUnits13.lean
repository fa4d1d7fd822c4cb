/- The law on what units say at the beginning: the walk. -/
import Derived.Test.YtfmcgodgflpggaaLaw13
import Derived.Test.YtfmcgodgflpggaaClauses13
import Derived.Test.YtfmcgodgflpggaaLits13
import Derived.Test.YtfmcgodgflpggaaRef07b
namespace Go.Proofs.Ytfmcgodgflpggaa
open Go.RowKit
set_option linter.unusedVariables false
set_option linter.unusedSimpArgs false

theorem flat_le {css : List (List Int)} (h : ∀ d, d ∈ css → d.length ≤ 9) (hl : css.length ≤ 1000) : css.flatten.length ≤ 1000000000 := by
  have : ∀ (zss : List (List Int)), (∀ d ∈ zss, d.length ≤ 9) → zss.flatten.length ≤ zss.length * 9 := fun zss => by
    induction zss with
    | nil => intro _; simp
    | cons z r ih =>
      intro hz
      have h1 := hz z (by simp)
      have h2 := ih fun d hd => hz d (List.mem_cons_of_mem _ hd)
      simp only [List.flatten_cons, List.length_append, List.length_cons]
      omega
  have := this css h
  omega
theorem lev0 {t : TS} (h : t.Good) (hs : t.starts = []) {i : Nat} (hi : i < t.recs.length) : levT t.recs (t.lits.getD i 0) = 0 := by
  have hr : t.recs[i]? = some t.recs[i] := List.getElem?_eq_getElem hi
  have e : t.lits.getD i 0 = t.recs[i].l := by simp [TS.lits, List.getD, hr]
  have hl := (h.lev i _ hr).1
  rw [hs] at hl
  unfold levT
  rw [e, find_uniq h.uniq hr (.inl rfl)]
  show ((t.recs[i].lev : Nat) : Int) = 0
  simp at hl
  omega

set_option maxRecDepth 100000 in
set_option maxHeartbeats 4000000 in
theorem units13_any (v : Nat) (nss : List (List Int)) (A : Option Addr) (c : Nat) (w : World) (hv : v ≤ 255)
    (hx : nss.length ≤ 140737488355328) (hl : ∀ j, (nss.getD j []).length ≤ 140737488355328) (hn : ∀ j k, -32768 ≤ (nss.getD j []).getD k 0 ∧ (nss.getD j []).getD k 0 ≤ 32767) (h : KRows .i16 w w.heap.size A nss) :
    Calls Try.prog 3 #[.agg #[.int .u8 v, .slice A nss.length c]] w fun e w' => e = .returned (.bool true) ∧ Below w.heap.size w w' := by
  have H := Lib.hid h
  have HL := Lib.hid hl
  have HN := Lib.hid hn
  clear h hl hn
  go_enter Try.func3, Try.ntmps3
  go_wp2_with fail
  obtain ⟨w1, hw1⟩ : ∃ w1, w1 = w.alloc (Obj.cells #[Value.int IntKind.u8 v, Value.slice A nss.length c] 24) := ⟨_, rfl⟩
  have HR1 := Lib.hid (show KRows .i16 w1 w.heap.size A nss by rw [hw1]; exact H.out.alloc (Nat.le_refl _) _)
  have HB1 := Lib.hid (show Below w.heap.size w w1 by rw [hw1]; exact (Below.refl _ _).alloc (Nat.le_refl _) _)
  have HK1 := Lib.hid (show Blk w1 w.heap.size 24 #[Value.int IntKind.u8 v, Value.slice A nss.length c] by rw [hw1]; exact Blk.new w _ _)
  rw [← hw1]
  clear hw1
  refine (fit13_any w1).mono ?_
  rintro e w2 ⟨rfl, hb2⟩
  have HR2 := Lib.hid (HR1.out.below (hb2.mono HB1.out.size))
  have HB2 := Lib.hid (HB1.out.trans (hb2.mono HB1.out.size))
  have HK2 := Lib.hid (HK1.out.below hb2 HK1.out.lt)
  clear hb2 HR1 HB1 HK1
  have k0 := HK2.out.cell 0
  have k1 := HK2.out.cell 1
  simp at k0 k1
  go_wp2_with fail
  refine (light_any v nss _ A c 40 w2 (by omega) hx HL.out HR2.out HB2.out.size).mono ?_
  rintro e w3 ⟨rfl, hb3⟩
  have HR3 := Lib.hid (HR2.out.below (hb3.mono HB2.out.size))
  have HB3 := Lib.hid (HB2.out.trans (hb3.mono HB2.out.size))
  have HK3 := Lib.hid (HK2.out.below hb3 HK2.out.lt)
  clear hb3 HR2 HB2 HK2 k0 k1
  have k0 := HK3.out.cell 0
  have k1 := HK3.out.cell 1
  simp at k0 k1
  rcases hlt : light nss 40 with _ | _
  · go_wp2
    go_ret
    exact ⟨rfl, HB3.out⟩
  · have hls := light_rows hlt
    have hF : v % (15 + 1) ≤ 15 := by omega
    have hFM := lightForm_rawW (F := v % (15 + 1)) (W := 3) (by omega) hlt
    clear hlt
    go_wp2_with fail
    refine (formula_any v nss _ A c 15 3 w3 hv (by omega) (by omega) hls.1 hls.2 HN.out HR3.out HB3.out.size).mono ?_
    obtain ⟨F, hFF⟩ : ∃ F, F = v % (15 + 1) := ⟨_, rfl⟩
    rw [← hFF] at hF hFM ⊢
    clear hFF
    obtain ⟨xss, hxs⟩ : ∃ xss, xss = rawForm F 3 nss := ⟨_, rfl⟩
    rw [← hxs] at hFM ⊢
    have HFM := Lib.hid hFM
    have hx1 := hFM.few
    rintro e w4 ⟨A4, c4, vs4, rfl, hown4, hlist4, hb4⟩
    have HB4 := Lib.hid (HB3.out.trans (hb4.mono HB3.out.size))
    have HRO4 := Lib.hid (hlist4.rows hown4)
    clear hFM hxs hown4 hlist4 hb4 HR3 HB3 HK3 k0 k1 hls
    go_wp2_with fail
    obtain ⟨w5, hw5⟩ : ∃ w5, w5 = w4.alloc (Obj.cells #[Value.int IntKind.i64 F, Value.slice A4 xss.length c4] 29) := ⟨_, rfl⟩
    have HFB5 := Lib.hid (show Blk w5 w4.heap.size 29 #[Value.int IntKind.i64 F, Value.slice A4 xss.length c4] by rw [hw5]; exact Blk.new w4 _ _)
    have HRO5 := Lib.hid (show Rows w5 w4.heap.size A4 xss by rw [hw5]; exact HRO4.out.alloc (Nat.le_refl _) _)
    have HB5 := Lib.hid (show Below w.heap.size w w5 by rw [hw5]; exact HB4.out.alloc HB4.out.size _)
    have hs5 : w4.heap.size + 1 ≤ w5.heap.size := by rw [hw5]; simp
    have hs4 := HB4.out.size
    rw [← hw5]
    clear hw5 HRO4 HB4
    refine (begin_any F (by omega) xss HFM.out _ A4 c4 HRO5.out (by omega)).mono ?_
    have HYF := Lib.hid HFM.out.norm
    obtain ⟨yss, hys⟩ : ∃ yss, yss = normForm xss := ⟨_, rfl⟩
    rw [← hys] at HYF ⊢
    clear hys
    rintro e w6 ⟨gX, ML, px, G, s, hd, vs, rfl, hbg⟩
    have L6 := Lib.hid (hbg.lv (by have := HYF.out.few; omega))
    have HTOT := Lib.hid (csOf_total HYF.out)
    have HV := Lib.hid hbg.vis
    have HB6 := Lib.hid (HB5.out.trans (hbg.below.mono HB5.out.size))
    have hgl := hbg.blk.lt
    have hX := hbg.hX
    have hs6 := hbg.below.size
    have hB6 : w5.heap.size + 1 ≤ w6.heap.size := by omega
    have CC := Lib.hid (clauses13_any hbg (by have := HYF.out.few; omega))
    clear hbg HRO5 HFB5 HB5
    go_wp2_with fail
    refine CC.out.mono ?_
    rintro e w7 ⟨A7, c7, css, rfl, hro7, hm7, hl7, hb7⟩
    have hy40 := HYF.out.few
    have hmid : ∀ d, d ∈ css → Mid d := fun d hd => ⟨by have := HYF.out.short d ((hm7 d).1 hd); omega, fun x hx => by have := HYF.out.lits d ((hm7 d).1 hd) x hx; omega⟩
    have hflat : css.flatten.length ≤ 1000000000 := flat_le (fun d hd => HYF.out.short d ((hm7 d).1 hd)) (by omega)
    have CFL := Lib.hid (follow_any07 css [] w7.heap.size w7.heap.size A7 none c7 0 w7 (by omega) hmid hflat ⟨by simp, fun x hx => by cases hx⟩ (by simp) hro7 (fun h => absurd h (by simp)) (Nat.le_refl _) (Nat.le_refl _))
    have L7 := Lib.hid (L6.out.below hb7)
    have HB7 := Lib.hid (HB6.out.trans (hb7.mono HB6.out.size))
    have HAL := Lib.hid (show Alike css yss from ⟨fun c hc => ⟨c, (hm7 c).1 hc, fun _ => Iff.rfl⟩, fun c hc => ⟨c, (hm7 c).2 hc, fun _ => Iff.rfl⟩⟩)
    have hs7 := hb7.size
    clear hro7 hm7 hl7 hb7 hmid hflat CC HB6
    go_wp2_with fail
    refine CFL.out.mono ?_
    rintro e w8 ⟨r, is, A8, c8, rfl, hT8, hmid8, hrl8, hown8, hb8⟩
    have HT8 := Lib.hid hT8
    have HO8 := Lib.hid hown8
    have L8 := Lib.hid (L7.out.below hb8)
    have HB8 := Lib.hid (HB7.out.trans (hb8.mono HB7.out.size))
    have hs8 := hb8.size
    have y2 := L8.out.blk.cell 2
    simp at y2
    have hgl8 := L8.out.blk.lt
    have CP := Lib.hid (lv_propagate L8.out (by omega) (by omega) HTOT.out (by rw [HV.out]; omega))
    clear hT8 hown8 hb8 L7 HB7 CFL hmid8
    go_wp2_with fail
    refine CP.out.mono ?_
    have h0 : (TS.fresh F).lits = [] := rfl
    rw [h0]
    rintro e w9 ⟨G9, hs9, ⟨r9, rfl, hcl, -⟩ | ⟨rfl, cs9, t9, s9, hd9, hL9, hT9, hg9, hv9, hv9'⟩⟩
    · have hbl : Below (w4.heap.size + 1) w8 w9 := hs9.ft.below (by omega) (L8.out.bd (by omega))
      have HB9 := Lib.hid (HB8.out.trans (hbl.mono (by omega)))
      have hi : is = false := by
        rcases is with _ | _
        · rfl
        · exact absurd ((clash_congr HAL.out fun _ => Iff.rfl).2 hcl) (HT8.out.yes rfl).1
      subst hi
      clear hs9 hbl CP y2 hgl8
      go_wp2
      go_ret
      exact ⟨rfl, HB9.out⟩
    · have hi : is = true := by
        rcases is with _ | _
        · exact absurd ((clash_congr HAL.out fun _ => Iff.rfl).1 (HT8.out.no rfl).1) (hT9.yes rfl).1
        · rfl
      subst hi
      have hbl : Below (w4.heap.size + 1) w8 w9 := hs9.ft.below (by omega) (L8.out.bd (by omega))
      have HB9 := Lib.hid (HB8.out.trans (hbl.mono (by omega)))
      have HO9 := Lib.hid (hs9.ft.own HO8.out fun q hq hG => by have := (HO8.out.lt q hq).1; have := (L6.out.ob.bd q hG).2; omega)
      have hsame : SameL r t9.lits := fun z => ((HT8.out.yes rfl).2 z).trans ((fol_congr HAL.out fun _ => Iff.rfl).trans ((hT9.yes rfl).2 z).symm)
      have hst : t9.starts = [] := hg9.1
      have HSM := Lib.hid hsame
      have HST := Lib.hid hst
      have L9 := Lib.hid hL9
      have hln : t9.recs.length ≤ 1000 := by have := hL9.pi.good.len; have := hL9.pi.ph; omega
      have hln2 : t9.lits.length = t9.recs.length := lits_len t9
      have CL0 := len_any hL9.tr
      have x1 := hL9.blk.cell 1
      simp at x1
      have hgl9 := hL9.blk.lt
      obtain ⟨n, hn⟩ : ∃ n, t9.recs.length = n := ⟨_, rfl⟩
      rw [hn] at CL0 hln hln2
      have CL := Lib.hid CL0
      have HN := Lib.hid hn
      have hw9 := HB9.out.size
      clear hs9 hbl CP y2 hgl8 hL9 hT9 hg9 hsame hst hn CL0 L8 HO8 HB8 L6
      go_wp2_with fail
      refine CL.out.mono ?_
      rintro e w10 ⟨rfl, rfl⟩
      go_wp2_with fail
      go_loopg [45] (n + 1) (fun gk i wr => ∃ k : Nat, k ≤ n ∧ gk = n - k + 1 ∧ i = .int .i64 k ∧ Hid (∃ m, wr = w9.drewN m))
      case atStart => exact ⟨0, by omega, by omega, rfl, Lib.hid ⟨0, rfl⟩⟩
      case round =>
        obtain ⟨k, hk, rfl, rfl, HD⟩ := hrel
        have hLr := L9.out.drewE HD.out
        by_cases hlt : k < n
        · have y1 := hLr.blk.cell 1
          simp at y1
          have hyl := hLr.blk.lt
          have hl0 := lits_ne hLr.pi.good (show t9.lits.getD k 0 ∈ t9.lits by
            have : k < t9.lits.length := by omega
            simp only [List.getD, List.getElem?_eq_getElem this, Option.getD_some]
            exact List.getElem_mem this)
          have hph := hLr.pi.ph
          have HAT := Lib.hid (fun (a : Nat) => atT_lits t9 k ▸ at_any12 (hLr.drewE (w' := wr.drewN a) ⟨a, rfl⟩).tr (k : Int))
          have HLV := Lib.hid (fun (a : Nat) => lev0 hLr.pi.good HST.out (i := k) (by have := HN.out; omega) ▸ levelOf_any (hLr.drewE (w' := wr.drewN a) ⟨a, rfl⟩).tr (t9.lits.getD k 0) (by omega))
          obtain ⟨l, hl⟩ : ∃ l, t9.lits.getD k 0 = l := ⟨_, rfl⟩
          rw [hl] at HAT HLV
          clear hLr hl hl0 x1
          go_wp2_with fail
          go_quiet (first
            | (go_at_call 16; first | exact Calls.quiet_of (HAT.out _) | exact quiet_add_of (HAT.out _))
            | (go_at_call 15; first | exact Calls.quiet_of (HLV.out _) | exact quiet_add_of (HLV.out _)))
          go_wp2_with fail
          go_roundg (n - k)
          case measure => omega
          case rel => exact ⟨k + 1, by omega, by omega, by go_num, Lib.hid (by obtain ⟨m, hm⟩ := HD.out; exact ⟨m + nq, by rw [hm, World.drewN_drewN]⟩)⟩
        · obtain rfl : k = n := by omega
          have HBr := Lib.hid (show Below w.heap.size w wr by obtain ⟨m, hm⟩ := HD.out; rw [hm]; exact below_drewN HB9.out m)
          have HOr := Lib.hid (show wr.ownsRow w7.heap.size 3 1 (.slice A8 r.length c8) r.length (r.map (Value.int .i64)) by obtain ⟨m, hm⟩ := HD.out; rw [hm]; exact HO9.out)
          have hll : t9.lits.length = k := by omega
          have CLI0 := lits13_any hLr
          rw [hll] at CLI0
          have CLI := Lib.hid CLI0
          have Lr := Lib.hid hLr
          clear hLr HD x1 CLI0
          go_wp2_with fail
          refine CLI.out.mono ?_
          rintro e w11 ⟨A11, c11, rfl, ho11, hb11⟩
          have hir := (Cells.below (ints_of_own HOr.out) hb11)
          rw [← hll] at ho11
          have CS0 := same_any07 r t9.lits _ _ A8 A11 c8 c11 w11 (by omega) (by omega) hir (ints_of_own ho11)
          rw [hll] at CS0
          have CS := Lib.hid CS0
          have L11 := Lib.hid (Lr.out.below hb11)
          have HB11 := Lib.hid (HBr.out.trans (hb11.mono HBr.out.size))
          clear ho11 hb11 hir CLI CS0
          go_wp2_with fail
          refine CS.out.mono ?_
          rintro e w12 ⟨b, rfl, hb, rfl⟩
          have hbt : b = true := hb.2 HSM.out
          subst hbt
          have y2 := L11.out.blk.cell 2
          simp at y2
          have hgl11 := L11.out.blk.lt
          have CV := Lib.hid (visits_any L11.out.ob)
          clear hb CS
          go_wp2_with fail
          refine CV.out.mono ?_
          rintro e w13 ⟨rfl, rfl⟩
          go_wp2
          go_ret
          exact ⟨rfl, HB11.out⟩

theorem units13_raw (u : Int) (nss : List (List Int)) (A : Option Addr) (c : Nat) (w : World) (hu : (Lit.int .u8 u).wf = true)
    (hx : nss.length ≤ 5864062014805) (m : ∀ j, (nss.getD j []).length * 2 ≤ 140737488351232) (hn : ∀ j i, (Lit.int .i16 ((nss.getD j []).getD i 0)).wf = true) (h : KRows .i16 w w.heap.size A nss) :
    Calls Try.prog 3 #[.agg #[.int .u8 u, .slice A nss.length c]] w fun e w' => e = .returned (.bool true) ∧ Below w.heap.size w w' := by
  obtain ⟨v, rfl, hv⟩ := u8_nat13 hu
  exact units13_any v nss A c w hv (by omega) (fun j => by have := m j; omega) (fun j k => by have := bounds_i16 (hn j k); omega) h
end Go.Proofs.Ytfmcgodgflpggaa
