/- More clauses never make less follow: the walk. -/
import Derived.Test.YtbjccfdmedbkjaaDoorUse07
import Derived.Test.YtbjccfdmedbkjaaDoorDoor7
namespace Go.Proofs.YtbjccfdmedbkjaaDoor
open Go.RowKit
set_option linter.unusedVariables false
set_option linter.unusedSimpArgs false

/-- taken as given, what follows makes nothing more follow -/
theorem told_again {cs : List (List Int)} {L a b : List Int} {again : Bool} (h : Told cs L a true) (h' : Told cs a b again) : again = true ∧ SameL a b := by
  obtain ⟨h1, h2⟩ := h.yes rfl
  have hfol : ∀ x, Fol cs a x → Fol cs L x := fun x hx => hx.least (fun y hy => (h2 y).1 hy) Fol.closed
  have hag : again = true := by
    cases ha : again with
    | true => rfl
    | false =>
      refine absurd ?_ h1
      rcases (h'.no ha).1 with ⟨x, p, q⟩ | ⟨c, hc, p⟩
      · exact .inl ⟨x, hfol _ p, hfol _ q⟩
      · exact .inr ⟨c, hc, fun y hy => hfol _ (p y hy)⟩
  refine ⟨hag, fun z => ?_⟩
  rw [(h'.yes hag).2 z]
  exact ⟨fun hz => .given hz, fun hz => (h2 z).2 (hfol z hz)⟩
theorem told_more {cs : List (List Int)} {L a d e : List Int} {ok is : Bool} (h : Told cs L a ok) (h' : Told (cs ++ [e]) L d is) : (is = true → ok = true) ∧ (is = true → ∀ y, y ∈ a → y ∈ d) := by
  have hsub : ∀ c, c ∈ cs → ∃ f, f ∈ cs ++ [e] ∧ ∀ y, y ∈ c ↔ y ∈ f := fun c hc => ⟨c, List.mem_append_left _ hc, fun _ => Iff.rfl⟩
  have h1 : is = true → ok = true := fun hi => by
    cases ho : ok with
    | true => rfl
    | false => exact absurd ((h.no ho).1.more hsub fun y hy => hy) (h'.yes hi).1
  exact ⟨h1, fun hi y hy => ((h'.yes hi).2 y).2 ((((h.yes (h1 hi)).2 y).1 hy).more hsub fun z hz => hz)⟩

set_option maxRecDepth 100000 in
set_option maxHeartbeats 3200000 in
theorem more_law (v : Nat) (nss : List (List Int)) (A : Option Addr) (c : Nat) (ns1 : List Int) (A1 : Option Addr) (c1 : Nat) (ns2 : List Int) (A2 : Option Addr) (c2 : Nat)  (w : World) (hv : v ≤ 255) (hx : nss.length ≤ 140737488355328) (hl : ∀ j, (nss.getD j []).length ≤ 140737488355328) (hn : ∀ j k, -32768 ≤ (nss.getD j []).getD k 0 ∧ (nss.getD j []).getD k 0 ≤ 32767) (h : KRows .i16 w w.heap.size A nss) (hm1 : ns1.length ≤ 70368744175616) (hb1 : ∀ k, -32768 ≤ ns1.getD k 0 ∧ ns1.getD k 0 ≤ 32767) (hi1 : KInts .i16 w w.heap.size A1 ns1) (hm2 : ns2.length ≤ 70368744175616) (hb2 : ∀ k, -32768 ≤ ns2.getD k 0 ∧ ns2.getD k 0 ≤ 32767) (hi2 : KInts .i16 w w.heap.size A2 ns2) (hT : Tab7 w) :
    Calls Tryd.prog 7 #[.agg #[.int .u8 v, .slice A nss.length c], .slice A1 ns1.length c1, .slice A2 ns2.length c2] w fun e w' => e = .returned (.bool true) ∧ Below w.heap.size w w' := by
  have H := Lib.hid h
  have HL := Lib.hid hl
  have HN := Lib.hid hn
  have HT := Lib.hid hT.b
  have HI1 := Lib.hid hi1
  have HBI1 := Lib.hid hb1
  have HI2 := Lib.hid hi2
  have HBI2 := Lib.hid hb2
  clear h hl hn hT hi1 hb1 hi2 hb2
  go_enter Tryd.func7, Tryd.ntmps7
  go_wp2_with fail
  obtain ⟨w1, hw1⟩ : ∃ w1, w1 = w.alloc (Obj.cells #[Value.int IntKind.u8 v, Value.slice A nss.length c] 24) := ⟨_, rfl⟩
  have HR1 := Lib.hid (show KRows .i16 w1 w.heap.size A nss by rw [hw1]; exact H.out.alloc (Nat.le_refl _) _)
  have HB1 := Lib.hid (show Below w.heap.size w w1 by rw [hw1]; exact (Below.refl _ _).alloc (Nat.le_refl _) _)
  have HK1 := Lib.hid (show Blk w1 w.heap.size 24 #[Value.int IntKind.u8 v, Value.slice A nss.length c] by rw [hw1]; exact Blk.new w _ _)
  rw [← hw1]
  clear hw1
  refine (fit07_any w1 (HT.out.on HB1.out).here).mono ?_
  rintro e w2 ⟨rfl, hb2⟩
  have HR2 := Lib.hid (HR1.out.below (hb2.mono HB1.out.size))
  have HB2 := Lib.hid (HB1.out.trans (hb2.mono HB1.out.size))
  have HK2 := Lib.hid (HK1.out.below hb2 HK1.out.lt)
  clear hb2 HR1 HB1 HK1
  have k0 := HK2.out.cell 0
  have k1 := HK2.out.cell 1
  simp at k0 k1
  go_wp2_with fail
  refine (light_any v nss _ A c 40 w2 (by omega) hx HL.out HR2.out HB2.out.size).mono ?_
  rintro e w3 ⟨rfl, hb3⟩
  have HR3 := Lib.hid (HR2.out.below (hb3.mono HB2.out.size))
  have HB3 := Lib.hid (HB2.out.trans (hb3.mono HB2.out.size))
  have HK3 := Lib.hid (HK2.out.below hb3 HK2.out.lt)
  clear hb3 HR2 HB2 HK2 k0 k1
  have k0 := HK3.out.cell 0
  have k1 := HK3.out.cell 1
  simp at k0 k1
  rcases hlt : light nss 40 with _ | _
  · go_wp2
    go_ret
    exact ⟨rfl, HB3.out⟩
  · have hww : IntKind.i64.wrap ((ns1.length : Int) + (ns2.length : Int)) = ((ns1.length + ns2.length : Nat) : Int) := by rw [IntWalk.i64_in _ (by omega)]; omega
    by_cases hov : 30 < ns1.length + ns2.length
    · go_wp2
      go_ret
      exact ⟨rfl, HB3.out⟩
    · have hls := rows_light7 hlt (by omega)
      have hF : v % (12 + 1) ≤ 12 := by omega
      have hFM := form7_raw (F := v % (12 + 1)) (width := 6) hlt (by omega) (by omega)
      clear hlt
      go_wp2_with fail
      refine (formula_any v nss _ A c 12 6 w3 hv (by omega) (by omega) hls.1 hls.2 HN.out HR3.out HB3.out.size).mono ?_
      obtain ⟨F, hFF⟩ : ∃ F, F = v % (12 + 1) := ⟨_, rfl⟩
      rw [← hFF] at hF hFM ⊢
      clear hFF
      obtain ⟨cs, hcs⟩ : ∃ cs, cs = rawForm F 6 nss := ⟨_, rfl⟩
      rw [← hcs] at hFM ⊢
      clear hcs
      have HFM := Lib.hid hFM
      have hfew := hFM.few
      rintro e w4 ⟨A4, c4, vs, rfl, hown4, hlist4, hb4⟩
      have HB4 := Lib.hid (HB3.out.trans (hb4.mono HB3.out.size))
      have HO4 := Lib.hid hown4
      have HLI4 := Lib.hid hlist4
      clear hFM hown4 hlist4 hb4 HR3 HB3 HK3 k0 k1 hls
      obtain ⟨w5, hw5⟩ : ∃ w5, w5 = w4.alloc (Obj.cells #[Value.int IntKind.i64 F, Value.slice A4 cs.length c4] 30) := ⟨_, rfl⟩
      have HFB5 := Lib.hid (show Blk w5 w4.heap.size 30 #[Value.int IntKind.i64 F, Value.slice A4 cs.length c4] by rw [hw5]; exact Blk.new w4 _ _)
      have hb45 : Below w4.heap.size w4 w5 := by rw [hw5]; exact (Below.refl _ _).alloc (Nat.le_refl _) _
      have HO5 := Lib.hid (own_below HO4.out hb45 fun g hg => (HO4.out.lt g hg).2)
      have HLI5 := Lib.hid (HLI4.out.below hb45 (Nat.le_refl _))
      have HB5 := Lib.hid (HB4.out.trans (hb45.mono HB4.out.size))
      have hs5 : w4.heap.size + 1 = w5.heap.size := by rw [hw5]; simp
      have hs4 := HB4.out.size
      have HST := Lib.hid (store_sx F cs vs _ _ A4 c4 w5 (by omega) (by omega) HFM.out.big HO5.out HLI5.out (HT.out.on HB5.out).here)
      have HW5 := Lib.hid hw5
      clear hw5 hb45 HO4 HLI4 HB4
      go_wp2_with fail
      rw [← HW5.out]
      refine HST.out.mono ?_
      rintro e w6 ⟨base, s, X, rfl, hbase, hsx, hb6⟩
      have HSX := Lib.hid hsx
      have HB6 := Lib.hid (HB5.out.trans (hb6.mono HB5.out.size))
      have HFB6 := Lib.hid (HFB5.out.below hb6 HFB5.out.lt)
      have HO6 := Lib.hid (own_below HO5.out hb6 fun g hg => (HO5.out.lt g hg).2)
      have HLI6 := Lib.hid (HLI5.out.below hb6 (Nat.le_refl _))
      have hs6 := hb6.size
      clear hsx hb6 HO5 HLI5 HFB5 HST HW5
      have f0 := HFB6.out.cell 0
      have f1 := HFB6.out.cell 1
      simp at f0 f1
      go_wp2_with fail
      refine (lits07_any F ns1 w.heap.size A1 c1 w6 (by omega) (by omega) HBI1.out (Cells.below HI1.out HB6.out) HB6.out.size).mono ?_
      rintro e w7 ⟨A7, c7, rfl, hown7, hb7⟩
      have hll := lits07_len F ns1
      have hLt : ∀ x, x ∈ lits07 F ns1 → Lt7 F x := lits07_lt
      obtain ⟨L, hLL⟩ : ∃ L, L = lits07 F ns1 := ⟨_, rfl⟩
      rw [← hLL] at hown7 hll hLt ⊢
      have HLT := Lib.hid hLt
      have HB7 := Lib.hid (HB6.out.trans (hb7.mono HB6.out.size))
      have HFB7 := Lib.hid (HFB6.out.below hb7 HFB6.out.lt)
      have HSX7 := Lib.hid (HSX.out.below hb7)
      have HAP7 := Lib.hid (HSX.out.apart_high hb7 hown7)
      have hs7 := hb7.size
      clear hown7 hb7 hLL hLt HO6 HLI6 HFB6 HSX f0 f1
      have HFO := Lib.hid (follow_sx HSX7.out HAP7.out HLT.out (by omega))
      go_wp2_with fail
      refine HFO.out.mono ?_
      rintro e w8 ⟨X8, ok, a, A8, c8, rfl, hsx8, ht8, hl8, hr8, hap8, htold8, hris8, hlt8⟩
      have HTO8 := Lib.hid htold8
      have HLT8 := Lib.hid hlt8
      have HSX8 := Lib.hid hsx8
      have HAPx8 := Lib.hid (HSX7.out.turn HAP7.out ht8 hl8)
      have HAPa8 := Lib.hid hap8
      have HB8 := Lib.hid (show Below w.heap.size w w8 from HB7.out.trans (ht8.below.mono (by omega)))
      have HFB8 := Lib.hid (HFB7.out.below (ht8.below.mono (show w4.heap.size + 1 ≤ base by omega)) (by omega))
      have hs8 := ht8.below.size
      clear hsx8 ht8 hl8 hap8 htold8 hris8 hlt8 HSX7 HAP7 HFB7
      have HFA := Lib.hid (follow_sx HSX8.out HAPa8.out HLT8.out hr8)
      go_wp2_with fail
      refine HFA.out.mono ?_
      rintro e w9 ⟨X9, again, b, A9, c9, rfl, hsx9, ht9, hl9, hr9, hap9, htold9, hris9, hlt9⟩
      have HTO9 := Lib.hid htold9
      have HSX9 := Lib.hid hsx9
      have HAPx9 := Lib.hid (HSX8.out.turn HAPx8.out ht9 hl9)
      have HAPa9 := Lib.hid (HSX8.out.turn HAPa8.out ht9 hl9)
      have HAPb9 := Lib.hid hap9
      have HB9 := Lib.hid (show Below w.heap.size w w9 from HB8.out.trans (ht9.below.mono (by omega)))
      have HFB9 := Lib.hid (HFB8.out.below (ht9.below.mono (show w4.heap.size + 1 ≤ base by omega)) (by omega))
      have hs9 := ht9.below.size
      have HSA : Hid (ok = true → again = true ∧ SameL a b) := Lib.hid fun e => by subst e; exact told_again HTO8.out htold9
      have HSB := Lib.hid (same_any07 a b w9.heap.size w9.heap.size A8 A9 c8 c9 w9 (by omega) (by omega) HAPa9.out.ints hap9.ints)
      clear hsx9 ht9 hl9 hap9 htold9 hris9 hlt9 HSX8 HAPx8 HAPa8 HFB8
      have f0 := HFB9.out.cell 0
      simp at f0
      cases ok with
      | true =>
        obtain ⟨rfl, hsame⟩ := HSA.out rfl
        have HSE := Lib.hid hsame
        clear hsame
        go_wp2_with fail
        refine HSB.out.mono ?_
        rintro e w9' ⟨b', rfl, hb', rfl⟩
        obtain rfl : b' = true := hb'.2 HSE.out
        clear hb'
        go_wp2_with fail
        refine (lits07_any F ns2 w.heap.size A2 c2 w9 (by omega) (by omega) HBI2.out (Cells.below HI2.out HB9.out) HB9.out.size).mono ?_
        rintro e w10 ⟨A10, c10, rfl, hown10, hb10⟩
        have hll2 := lits07_len F ns2
        have hLt2 : ∀ x, x ∈ lits07 F ns2 → Lt7 F x := lits07_lt
        obtain ⟨M, hMM⟩ : ∃ M, M = lits07 F ns2 := ⟨_, rfl⟩
        rw [← hMM] at hown10 hll2 hLt2 ⊢
        have HB10 := Lib.hid (HB9.out.trans (hb10.mono HB9.out.size))
        have HSX10 := Lib.hid (HSX9.out.below hb10)
        have HAPx10 := Lib.hid (HAPx9.out.under hb10)
        have HAPa10 := Lib.hid (HAPa9.out.under hb10)
        have HAPm10 := Lib.hid (HSX9.out.apart_high hb10 hown10)
        have HAD := Lib.hid (add_sx HSX10.out HAPm10.out hLt2 (by omega) (by omega) ((HT.out.on HB10.out).mono (by omega)))
        have hs10 := hb10.size
        clear hown10 hb10 hMM hLt2 HSX9 HAPx9 HAPa9
        go_wp2_with fail
        refine HAD.out.mono ?_
        rintro e w11 ⟨X11, rfl, hsx11, ht11, hl11⟩
        have HSX11 := Lib.hid hsx11
        have HAPx11 := Lib.hid (HSX10.out.turn HAPx10.out ht11 hl11)
        have HAPa11 := Lib.hid (HSX10.out.turn HAPa10.out ht11 hl11)
        have HB11 := Lib.hid (show Below w.heap.size w w11 from HB10.out.trans (ht11.below.mono (by omega)))
        have HFX := Lib.hid (follow_sx hsx11 HAPx11.out HLT.out (by omega))
        clear hsx11 ht11 hl11 HSX10 HAPx10 HAPa10
        go_wp2_with fail
        refine HFX.out.mono ?_
        rintro e w12 ⟨X12, is, d, A12, c12, rfl, hsx12, ht12, hl12, hr12, hap12, htold12, hris12, hlt12⟩
        obtain ⟨hm1, hm2⟩ := told_more HTO8.out htold12
        have HAPa12 := Lib.hid (HSX11.out.turn HAPa11.out ht12 hl12)
        have HAPd12 := Lib.hid hap12
        have HB12 := Lib.hid (show Below w.heap.size w w12 from HB11.out.trans (ht12.below.mono (by omega)))
        have HM2 := Lib.hid hm2
        have HMM1 := Lib.hid hm1
        clear hsx12 ht12 hl12 hap12 htold12 hris12 hlt12 hm2 hm1 HSX11
        cases is with
        | true =>
          go_wp2
          go_loopg [83] (a.length + 1) (fun gk i wr => ∃ k : Nat, k ≤ a.length ∧ gk = a.length - k + 1 ∧ i = .int .i64 k ∧ wr = w12)
          case atStart => exact ⟨0, by omega, by omega, rfl, rfl⟩
          case round =>
            obtain ⟨k, hk, rfl, rfl, rfl⟩ := hrel
            by_cases hlt : k < a.length
            · obtain ⟨g, rfl, hc⟩ := HAPa12.out.cell hlt
              have hmem := HM2.out (by first | rfl | trivial) _ (take_snoc7 hlt).2
              obtain ⟨y, hy⟩ : ∃ y, y = a.getD k 0 := ⟨_, rfl⟩
              rw [← hy] at hc hmem
              have HIN := Lib.hid (in_any07 d wr.heap.size A12 c12 y wr (by omega) HAPd12.out.ints)
              rw [decide_eq_true hmem] at HIN
              clear hmem hy
              go_wp2_with fail
              refine HIN.out.mono ?_
              rintro e w13 ⟨rfl, rfl⟩
              go_wp2
              go_roundg (a.length - k)
              case measure => omega
              case rel => exact ⟨k + 1, by omega, by omega, by go_num, rfl⟩
            · obtain rfl : k = a.length := by omega
              go_wp2
              go_ret
              exact ⟨rfl, HB12.out⟩
        | false =>
          go_wp2
          go_loopg [83] (a.length + 1) (fun gk i wr => ∃ k : Nat, k ≤ a.length ∧ gk = a.length - k + 1 ∧ i = .int .i64 k ∧ wr = w12)
          case atStart => exact ⟨0, by omega, by omega, rfl, rfl⟩
          case round =>
            obtain ⟨k, hk, rfl, rfl, rfl⟩ := hrel
            by_cases hlt : k < a.length
            · obtain ⟨g, rfl, hc⟩ := HAPa12.out.cell hlt
              go_wp2
              go_roundg (a.length - k)
              case measure => omega
              case rel => exact ⟨k + 1, by omega, by omega, by go_num, rfl⟩
            · obtain rfl : k = a.length := by omega
              go_wp2
              go_ret
              exact ⟨rfl, HB12.out⟩
      | false =>
        go_wp2_with fail
        refine (lits07_any F ns2 w.heap.size A2 c2 w9 (by omega) (by omega) HBI2.out (Cells.below HI2.out HB9.out) HB9.out.size).mono ?_
        rintro e w10 ⟨A10, c10, rfl, hown10, hb10⟩
        have hll2 := lits07_len F ns2
        have hLt2 : ∀ x, x ∈ lits07 F ns2 → Lt7 F x := lits07_lt
        obtain ⟨M, hMM⟩ : ∃ M, M = lits07 F ns2 := ⟨_, rfl⟩
        rw [← hMM] at hown10 hll2 hLt2 ⊢
        have HB10 := Lib.hid (HB9.out.trans (hb10.mono HB9.out.size))
        have HSX10 := Lib.hid (HSX9.out.below hb10)
        have HAPx10 := Lib.hid (HAPx9.out.under hb10)
        have HAPa10 := Lib.hid (HAPa9.out.under hb10)
        have HAPm10 := Lib.hid (HSX9.out.apart_high hb10 hown10)
        have HAD := Lib.hid (add_sx HSX10.out HAPm10.out hLt2 (by omega) (by omega) ((HT.out.on HB10.out).mono (by omega)))
        have hs10 := hb10.size
        clear hown10 hb10 hMM hLt2 HSX9 HAPx9 HAPa9
        go_wp2_with fail
        refine HAD.out.mono ?_
        rintro e w11 ⟨X11, rfl, hsx11, ht11, hl11⟩
        have HSX11 := Lib.hid hsx11
        have HAPx11 := Lib.hid (HSX10.out.turn HAPx10.out ht11 hl11)
        have HAPa11 := Lib.hid (HSX10.out.turn HAPa10.out ht11 hl11)
        have HB11 := Lib.hid (show Below w.heap.size w w11 from HB10.out.trans (ht11.below.mono (by omega)))
        have HFX := Lib.hid (follow_sx hsx11 HAPx11.out HLT.out (by omega))
        clear hsx11 ht11 hl11 HSX10 HAPx10 HAPa10
        go_wp2_with fail
        refine HFX.out.mono ?_
        rintro e w12 ⟨X12, is, d, A12, c12, rfl, hsx12, ht12, hl12, hr12, hap12, htold12, hris12, hlt12⟩
        obtain ⟨hm1, hm2⟩ := told_more HTO8.out htold12
        have HAPa12 := Lib.hid (HSX11.out.turn HAPa11.out ht12 hl12)
        have HAPd12 := Lib.hid hap12
        have HB12 := Lib.hid (show Below w.heap.size w w12 from HB11.out.trans (ht12.below.mono (by omega)))
        have HM2 := Lib.hid hm2
        have HMM1 := Lib.hid hm1
        clear hsx12 ht12 hl12 hap12 htold12 hris12 hlt12 hm2 hm1 HSX11
        cases is with
        | true =>
          exact absurd (HMM1.out (by first | rfl | trivial)) (by decide)
        | false =>
          go_wp2
          go_loopg [83] (a.length + 1) (fun gk i wr => ∃ k : Nat, k ≤ a.length ∧ gk = a.length - k + 1 ∧ i = .int .i64 k ∧ wr = w12)
          case atStart => exact ⟨0, by omega, by omega, rfl, rfl⟩
          case round =>
            obtain ⟨k, hk, rfl, rfl, rfl⟩ := hrel
            by_cases hlt : k < a.length
            · obtain ⟨g, rfl, hc⟩ := HAPa12.out.cell hlt
              go_wp2
              go_roundg (a.length - k)
              case measure => omega
              case rel => exact ⟨k + 1, by omega, by omega, by go_num, rfl⟩
            · obtain rfl : k = a.length := by omega
              go_wp2
              go_ret
              exact ⟨rfl, HB12.out⟩
theorem more_raw (u : Int) (nss : List (List Int)) (A : Option Addr) (c : Nat) (ns1 : List Int) (A1 : Option Addr) (c1 : Nat) (ns2 : List Int) (A2 : Option Addr) (c2 : Nat)  (w : World) (hu : (Lit.int .u8 u).wf = true) (hx : nss.length ≤ 5864062014805) (hm : ∀ j, (nss.getD j []).length * 2 ≤ 140737488351232) (hn : ∀ j i, (Lit.int .i16 ((nss.getD j []).getD i 0)).wf = true) (h : KRows .i16 w w.heap.size A nss) (hl1 : ns1.length ≤ 70368744175616) (hb1 : ∀ j, (Lit.int .i16 (ns1.getD j 0)).wf = true) (h1 : KInts .i16 w w.heap.size A1 ns1) (hl2 : ns2.length ≤ 70368744175616) (hb2 : ∀ j, (Lit.int .i16 (ns2.getD j 0)).wf = true) (h2 : KInts .i16 w w.heap.size A2 ns2) (hT : Tab7 w) :
    Calls Tryd.prog 7 #[.agg #[.int .u8 u, .slice A nss.length c], .slice A1 ns1.length c1, .slice A2 ns2.length c2] w fun e w' => e = .returned (.bool true) ∧ Below w.heap.size w w' := by
  obtain ⟨v, rfl, hv⟩ := raw_nat7 hu
  exact more_law v nss A c ns1 A1 c1 ns2 A2 c2 w hv (by omega) (raw_rows7 hm hn).1 (raw_rows7 hm hn).2 h hl1 (raw_ints7 hb1) h1 hl2 (raw_ints7 hb2) h2 hT
end Go.Proofs.YtbjccfdmedbkjaaDoor
