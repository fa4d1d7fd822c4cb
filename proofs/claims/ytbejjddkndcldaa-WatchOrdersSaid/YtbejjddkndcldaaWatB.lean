/- What the propagator's own calls do: assess. What the propagator's own calls do: settle. -/
import Derived.Test.YtbejjddkndcldaaWatA
import Derived.Test.YtbejjddkndcldaaTrlC
namespace Go.Proofs.Ytbejjddkndcldaa
open Go.RowKit
set_option linter.unusedVariables false
set_option linter.unusedSimpArgs false

section
variable {w : World} {base : Nat} {px : Px} {N : Nat} {G : Nat → Prop} {cs0 cs : List Cl} {t : TS} {s : WS} {hd : Nat → Value} {L0 : List Int}
/-- a copy of a clause's literals -/
theorem lits_at (h : Ob w base px N G cs t s hd) {r : Int} {cl : Cl} (hc : at? cs r = some cl) (ht : total cs ≤ 1000000) :
    Calls Try.prog 84 #[.pointer (some ⟨px.gA, 0, none⟩), .int .i64 r] w fun e w' => ∃ A' c', e = .returned (.slice A' cl.lits.length c') ∧ w'.ownsRow w.heap.size 3 1 (.slice A' cl.lits.length c') cl.lits.length (cl.lits.map (Value.int .i64)) ∧ Below w.heap.size w w' := by
  have har := h.ar
  obtain ⟨pre, post, rfl, rfl, hal⟩ := at?_some hc
  have hle := size_le_total pre post cl
  have hsz : cl.size = cl.lits.length + 3 := rfl
  have HS := Lib.hid (stored_gr pre post cl har hal (by omega))
  have hcl := fun (gg : Nat) (hg : px.gw = some gg) (w1 : World) (hb : Gr w w1) => (show Cells w1 w1.heap.size (some ⟨gg, if cl.lits.length = 0 then 0 else total pre + 3, none⟩) cl.lits.length (fun j => .int .i64 (cl.lits.getD j 0)) from fun hn => by
    have h1 := har.below hb.below
    refine ⟨gg, total pre + 3, by rw [if_neg (by omega)], (h1.wlt gg hg).2, fun j hj => (h1.lit pre post cl hg hj).1⟩)
  have HCL := Lib.hid hcl
  obtain ⟨p, hp⟩ : ∃ p, total pre = p := ⟨_, rfl⟩
  rw [hp] at HS HCL ⊢
  have hn : cl.lits.length ≤ 1000000 := by omega
  clear h har hc hal hle hsz hcl hp ht
  go_enter Try.func84, Try.ntmps84
  go_wp2_with fail
  refine HS.out.mono ?_
  rintro e w1 ⟨⟨gg, hg, rfl⟩, hb⟩
  have HC := Lib.hid (HCL.out gg hg w1 hb)
  have HB := Lib.hid hb
  clear hg hb HCL HS
  obtain ⟨ad, hA⟩ : ∃ ad : Addr, ad = ⟨gg, if cl.lits.length = 0 then 0 else p + 3, none⟩ := ⟨_, rfl⟩
  rw [← hA] at HC ⊢
  clear hA
  go_wp2_with fail
  refine (clone_int cl.lits.length _ w1.heap.size (some ad) cl.lits.length w1 hn (fun _ _ => rfl) HC.out (Nat.le_refl _)).mono ?_
  rintro e w2 ⟨A', c', rfl, ho, hb2⟩
  have HO := Lib.hid ho
  have HB2 := Lib.hid (HB.out.below.trans (hb2.mono HB.out.below.size))
  have HS2 := Lib.hid HB.out.below.size
  clear ho hb2
  go_wp2
  go_ret
  refine ⟨A', c', rfl, ?_, HB2.out⟩
  have := own_more HO.out HS2.out
  rwa [ints_map rfl] at this

theorem PI.vis {s' : WS} (h : PI N cs0 cs t s) (h1 : s'.ms = s.ms) (h2 : s'.fresh = s.fresh) (h3 : s'.head = s.head) (h4 : s'.heads = s.heads) : PI N cs0 cs t s' :=
  ⟨h.cls, h.good, h.ph, by rw [h1]; exact h.lst, by rw [h3]; exact h.dn, by rw [h2]; exact h.sh, by rw [h2]; exact h.fre, by rw [h3]; exact h.hd, by rw [h4]; exact h.lev⟩
/-- what assess does -/
def Asse (w : World) (base : Nat) (px : Px) (N : Nat) (G : Nat → Prop) (cs0 cs : List Cl) (L0 : List Int) (t : TS) (s : WS) (hd : Nat → Value) (cl : Cl) (e : Ending) (w' : World) : Prop :=
  ∃ (z : Int) (t' : TS) (G' : Nat → Prop), e = .returned (.int .i64 z) ∧ Ob w' base px N G' cs t' { s with vis := s.vis + 1 } hd ∧ St G G' w w' ∧ PI N cs0 cs t' { s with vis := s.vis + 1 } ∧ (∀ x ∈ t'.lits, Fol (cs0.map Cl.lits) L0 x) ∧ Grw cs0 t t' ∧
    ((z = 2 ∧ Clash (cs0.map Cl.lits) L0) ∨ (z = 0 ∧ (Sat cl.lits t' ∨ 2 ≤ cl.lits.length)))
/-- how far the literals were looked at -/
structure Ass (t : TS) (ls : List Int) (i c : Nat) (o : Int) : Prop where
  no : ∀ j, j < i → valT t.recs (ls.getD j 0) ≠ 1
  c0 : c = 0 → ∀ j, j < i → valT t.recs (ls.getD j 0) = -1
  c1 : c = 1 → o ∈ ls ∧ valT t.recs o = 0 ∧ ∀ j, j < i → ls.getD j 0 ≠ o → valT t.recs (ls.getD j 0) = -1
  ci : c ≤ i
theorem Ass.start {ls : List Int} : Ass t ls 0 0 0 := ⟨fun j h => by omega, fun _ j h => by omega, fun h => by omega, by omega⟩
theorem Ass.neg {ls : List Int} {i c : Nat} {o : Int} (h : Ass t ls i c o) (hv : valT t.recs (ls.getD i 0) = -1) : Ass t ls (i + 1) c o := by
  refine ⟨fun j hj => ?_, fun hc j hj => ?_, fun hc => ?_, by have := h.ci; omega⟩
  · by_cases e : j = i
    · subst e; omega
    · exact h.no j (by omega)
  · by_cases e : j = i
    · subst e; exact hv
    · exact h.c0 hc j (by omega)
  · obtain ⟨a, b, c⟩ := h.c1 hc
    refine ⟨a, b, fun j hj hne => ?_⟩
    by_cases e : j = i
    · subst e; exact hv
    · exact c j (by omega) hne
theorem Ass.zero {ls : List Int} {i c : Nat} {o : Int} (h : Ass t ls i c o) (hi : i < ls.length) (hv : valT t.recs (ls.getD i 0) = 0) : Ass t ls (i + 1) (c + 1) (ls.getD i 0) := by
  refine ⟨fun j hj => ?_, fun hc => by omega, fun hc => ⟨get_mem hi, hv, fun j hj hne => ?_⟩, by have := h.ci; omega⟩
  · by_cases e : j = i
    · subst e; omega
    · exact h.no j (by omega)
  · by_cases e : j = i
    · subst e; exact absurd rfl hne
    · exact h.c0 (by omega) j (by omega)

set_option maxRecDepth 100000 in
set_option maxHeartbeats 4000000 in
theorem assess_any (h : Ob w base px N G cs t s hd) (hB : base ≤ w.heap.size) (hN : N ≤ 100000) (ht : total cs0 ≤ 1000000) (hp : PI N cs0 cs t s) (hs : ∀ x ∈ t.lits, Fol (cs0.map Cl.lits) L0 x) {r : Int} {cl : Cl} (hc : at? cs r = some cl) (hvis : s.vis ≤ 1099511627776) :
    Calls Try.prog 74 #[.pointer (some ⟨px.gW, 0, none⟩), .int .i64 r] w (Asse w base px N G cs0 cs L0 t s hd cl) := by
  obtain ⟨hnd, hlit, c0, hc0, hperm⟩ := hp.cls.at hc
  have hct : total cs ≤ 1000000 := by rw [hp.cls.tot]; exact ht
  obtain ⟨FW, hw⟩ := h.wm
  have x0 := hw.cells.1.1
  have hr := at?_range hc
  have hsz : cl.size = cl.lits.length + 3 := rfl
  have CH := Lib.hid (has_gr h.ar r (by omega) (by omega))
  rw [show (at? cs r).isSome = true by rw [hc]; rfl] at CH
  have hlen : cl.lits.length ≤ 1000000 := by omega
  have H := Lib.hid h
  have HP := Lib.hid hp
  have HS := Lib.hid hs
  have HC := Lib.hid hc
  have HLI := Lib.hid (And.intro hlit (And.intro hnd (And.intro hc0 hperm)))
  have hcm : c0.lits ∈ cs0.map Cl.lits := List.mem_map_of_mem (mem_cs hc0)
  have HCM := Lib.hid hcm
  clear h hw hp hs hc hnd hlit hc0 hperm hr hsz hcm
  go_enter Try.func74, Try.ntmps74
  go_wp2_with fail
  refine CH.out.mono ?_
  rintro e w1 ⟨rfl, hg1⟩
  have h1 := H.out.gr hg1
  obtain ⟨FW1, hw1⟩ := h1.wm
  have c7 := hw1.cells.2.2.1
  have c7f := hw1.frz 7
  have x1 := hw1.cells.1.1
  obtain ⟨h2, s2⟩ := h1.setVis (s.vis + 1)
  have hcast : ((s.vis + 1 : Nat) : Int) = (s.vis : Int) + 1 := by omega
  rw [hcast] at h2 s2
  obtain ⟨w2, hw2⟩ : ∃ w2, w1.setCell ⟨px.gW, 7, none⟩ (.int .i64 ((s.vis : Int) + 1)) = w2 := ⟨_, rfl⟩
  rw [hw2] at h2 s2
  have HW2 := Lib.hid hw2
  have H2 := Lib.hid h2
  have HS2 := Lib.hid (((St.refl w).gr hg1).trans s2)
  have HP2 := Lib.hid (HP.out.vis (s' := { s with vis := s.vis + 1 }) rfl rfl rfl rfl)
  obtain ⟨FW2, hwm2⟩ := h2.wm
  have y0 := hwm2.cells.1.1
  have CL := Lib.hid (lits_at h2 HC.out hct)
  clear hg1 h1 hw1 h2 s2 hcast hw2 hwm2 x0
  go_wp2_with fail
  rw [HW2.out]
  clear c7 c7f x1
  refine CL.out.mono ?_
  rintro e w3 ⟨A', c', rfl, hrow, hb3⟩
  have H3 := Lib.hid (H2.out.below hb3)
  have HS3 := Lib.hid (show St G G w w3 from ⟨HS2.out.ft.low hb3, HS2.out.nw⟩)
  have HRW := Lib.hid hrow
  obtain ⟨FW3, hw3⟩ := H3.out.wm
  have z1 := hw3.cells.1.2.1
  obtain ⟨n, hn⟩ : ∃ n, cl.lits.length = n := ⟨_, rfl⟩
  rw [hn] at hlen HRW ⊢
  have HNN := Lib.hid hn
  clear hrow hb3 hw3 y0 CL H2 HS2 HW2 hn CH
  go_wp2_with fail
  go_loopg [5, 6, 30] (n + 1) (fun gk ov cv iv wr => ∃ (i c : Nat) (o : Int), i ≤ n ∧ gk = n - i + 1 ∧ ov = .int .i64 o ∧ cv = .int .i64 c ∧ iv = .int .i64 i ∧ Hid (∃ m, wr = w3.drewN m) ∧ Hid (Ass t cl.lits i c o))
  case atStart => exact ⟨0, 0, 0, by omega, by omega, rfl, rfl, rfl, Lib.hid ⟨0, rfl⟩, Lib.hid Ass.start⟩
  case round =>
    obtain ⟨i, c, o, hin, rfl, rfl, rfl, rfl, HWR, HAS⟩ := hrel
    have h4 := H3.out.drewE HWR.out
    have HS4 := Lib.hid (HS3.out.drewE HWR.out)
    have hci := HAS.out.ci
    by_cases hlt : i < n
    · have hrow4 : wr.ownsRow w2.heap.size 3 1 (.slice A' n c') n (cl.lits.map (Value.int .i64)) := by obtain ⟨m, rfl⟩ := HWR.out; exact HRW.out
      obtain ⟨q, rfl, _, _⟩ := own_addr hrow4 (by omega)
      have q1 := World.ownsRow.cellAt hrow4 i (by omega)
      have hil : i < cl.lits.length := by have := HNN.out; omega
      have e1 : (cl.lits.map (Value.int .i64))[i]? = some (.int .i64 (cl.lits.getD i 0)) := by simp [List.getD, hil]
      rw [e1] at q1
      obtain ⟨FW4, hw4⟩ := h4.wm
      have z4 := hw4.cells.1.2.1
      have hx := HLI.out.1 _ (get_mem hil)
      have HIL := Lib.hid hil
      obtain ⟨x, hxx⟩ : ∃ x, cl.lits.getD i 0 = x := ⟨_, rfl⟩
      rw [hxx] at q1 hx
      have CV := Lib.hid (value_any (h4.tr HP.out.good) x (by omega))
      have hvb := valT_le t.recs x
      obtain ⟨z, hz⟩ : ∃ z, valT t.recs x = z := ⟨_, rfl⟩
      rw [hz] at CV hvb
      have HX := Lib.hid hxx
      have HZ := Lib.hid hz
      have H4 := Lib.hid h4
      have hii : (i : Int) < (n : Int) := by omega
      clear h4 hrow4 hil e1 hw4 hxx hz z1 hx
      go_wp2_with fail
      refine CV.out.mono ?_
      rintro e w5 ⟨rfl, hd5⟩
      have HD5 := Lib.hid hd5
      clear hd5 CV q1
      by_cases hz1 : z = 1
      · subst hz1
        go_wp2
        go_ret
        refine ⟨0, t, G, rfl, H4.out.drewE HD5.out, HS4.out.drewE HD5.out, HP2.out, HS.out, Grw.refl t, .inr ⟨rfl, .inl ⟨x, by rw [← HX.out]; exact get_mem HIL.out, (val_one HP.out.good).1 HZ.out⟩⟩⟩
      · by_cases hz0 : z = 0
        · subst hz0
          have HA := Lib.hid (HX.out ▸ HAS.out.zero HIL.out (by rw [HX.out]; exact HZ.out))
          go_wp2_with fail
          go_roundg (n - i)
          case measure => omega
          case rel => exact ⟨i + 1, c + 1, x, by omega, by omega, rfl, by go_num, by go_num, Lib.hid (by obtain ⟨m, rfl⟩ := HWR.out; obtain ⟨m', rfl⟩ := HD5.out; exact ⟨m + m', by rw [World.drewN_drewN]⟩), HA⟩
        · have hzn : z = -1 := by omega
          have HA := Lib.hid (HAS.out.neg (by rw [HX.out, HZ.out]; exact hzn))
          go_wp2_with fail
          go_roundg (n - i)
          case measure => omega
          case rel => exact ⟨i + 1, c, o, by omega, by omega, rfl, rfl, by go_num, Lib.hid (by obtain ⟨m, rfl⟩ := HWR.out; obtain ⟨m', rfl⟩ := HD5.out; exact ⟨m + m', by rw [World.drewN_drewN]⟩), HA⟩
    · obtain rfl : i = n := by omega
      have H4 := Lib.hid h4
      clear h4 z1
      rcases (by omega : c = 0 ∨ c = 1 ∨ 2 ≤ c) with rfl | rfl | hc2
      · have HCL := Lib.hid (show Clash (cs0.map Cl.lits) L0 from .inr ⟨c0.lits, HCM.out, fun y hy => by
          have hy2 := HLI.out.2.2.2.mem_iff.2 hy
          obtain ⟨j, hj, rfl⟩ := mem_get hy2
          exact HS.out _ ((val_neg1 HP.out.good (HLI.out.1 _ hy2).1).1 (HAS.out.c0 rfl j (by rw [← HNN.out]; exact hj)))⟩)
        go_wp2
        go_ret
        exact ⟨2, t, G, rfl, H4.out, HS4.out, HP2.out, HS.out, Grw.refl t, .inl ⟨rfl, HCL.out⟩⟩
      · obtain ⟨ho1, ho2, ho3⟩ := HAS.out.c1 rfl
        obtain ⟨FW4, hw4⟩ := H4.out.wm
        have z4 := hw4.cells.1.2.1
        have hob := HLI.out.1 _ ho1
        have CP := Lib.hid (ob_put H4.out HP.out.good (Nat.le_trans hB HS4.out.size) o r (by omega))
        obtain ⟨k1, k2, k3⟩ := HP2.out.put HC.out ho1 ho2
        have HK := Lib.hid (And.intro k1 (And.intro k2 (And.intro k3 ho1)))
        have HF := Lib.hid (show Fol (cs0.map Cl.lits) L0 o from Fol.closed c0.lits HCM.out o (HLI.out.2.2.2.mem_iff.1 ho1) fun y hy hne => by
          have hy2 := HLI.out.2.2.2.mem_iff.2 hy
          obtain ⟨j, hj, rfl⟩ := mem_get hy2
          exact HS.out _ ((val_neg1 HP.out.good (HLI.out.1 _ hy2).1).1 (ho3 j (by rw [← HNN.out]; exact hj) hne)))
        clear hw4 ho1 ho2 ho3 hob k1 k2 k3
        go_wp2_with fail
        refine CP.out.mono ?_
        rintro e w5 ⟨rfl, G5, h5, s5⟩
        have H5 := Lib.hid (And.intro h5 s5)
        clear h5 s5 CP
        go_wp2
        go_ret
        refine ⟨0, t.put o r, G5, rfl, H5.out.1, HS4.out.trans H5.out.2, HK.out.1, fun x hx => ?_, HK.out.2.2.1, .inr ⟨rfl, .inl ⟨o, HK.out.2.2.2, by rw [HK.out.2.1]; simp⟩⟩⟩
        rw [HK.out.2.1] at hx
        rcases List.mem_append.1 hx with hx | hx
        · exact HS.out x hx
        · rw [List.mem_singleton.1 hx]; exact HF.out
      · have h20 : ((c : Nat) : Int) ≠ 0 := by omega
        have h21 : ((c : Nat) : Int) ≠ 1 := by omega
        go_wp2
        go_ret
        exact ⟨0, t, G, rfl, H4.out, HS4.out, HP2.out, HS.out, Grw.refl t, .inr ⟨rfl, .inr (by have := HNN.out; omega)⟩⟩
end

end Go.Proofs.Ytbejjddkndcldaa

namespace Go.Proofs.Ytbejjddkndcldaa
open Go.RowKit
set_option linter.unusedVariables false
set_option linter.unusedSimpArgs false

theorem run_nil12 {P : Program} {t e : TypeId} (ht : P.underlying t = some (.slice e)) (w : World) (hz : (sizeOf e).run P w = .ok 1 w) : (Instr.slice t (.slice none 0 0) none (some (.int .i64 0)) none).run P w = .ok (.slice none 0 0) w := by
  simp [Instr.slice, run_underlying ht, Instr.sliceBounds, go_sem, hz, Result.andThen]
theorem szI13 (w : World) : (sizeOf 3).run Try.prog w = .ok 1 w := by
  obtain ⟨i, hi, h0, h1, _⟩ := info_parts infoI12
  simp [sizeOf, typeInfo, hi, h1, go_sem]
theorem WM.clearFresh {w : World} {px : Px} {F : Nat → Prop} {N : Nat} {hd : Nat → Value} {s : WS} (h : WM w px F N hd s) {Af : Option Addr} {cf : Nat} (hq : hd (2 * N) = .slice Af s.fresh.length cf) :
    WM (w.setCell ⟨px.gW, 4, none⟩ (.slice Af 0 cf)) px F N (fun j => if j = 2 * N then .slice Af 0 cf else hd j) { s with fresh := [] } ∧ Ft F w (w.setCell ⟨px.gW, 4, none⟩ (.slice Af 0 cf)) := by
  have hft : Ft F w (w.setCell ⟨px.gW, 4, none⟩ (.slice Af 0 cf)) := (Ft.refl w).set (fun _ => h.inF.1) _ _
  obtain ⟨Af', Ah, cf', ch, b1, b2, b3, b4, b5, b6⟩ := h.ex
  rw [hq] at b6
  injection b6 with e1 _ e3
  subst e1 e3
  have far : ∀ q o, q ≠ px.gW → w.heap[q]? = some o → (w.setCell ⟨px.gW, 4, none⟩ (.slice Af 0 cf)).heap[q]? = some o := fun q o hq ho => (Below.heap_setCell w _ _ q hq).trans ho
  refine ⟨⟨⟨Af, Ah, cf, ch, ?_, ?_, ?_, b4, fun q hq => b5 q ?_, by simp⟩, ?_, fun k hk => ?_, fun i j q hi hj hij h1 h2 => ?_⟩, hft⟩
  · exact b1.set_ 4 (.slice Af 0 cf)
  · have b2' := owns_stay b2 (w' := w.setCell ⟨px.gW, 4, none⟩ (.slice Af 0 cf)) fun q o hq ho => far q o (fun e => owns_blk_ne b2 b1 (by decide) (by rw [hq, e])) ho
    rcases Af with _ | ad
    · rcases b2.2 with ⟨e, _⟩ | ⟨g', cap, cur, e, _⟩
      · injection e with _ _ e; subst e; exact World.ownsRow_nil _ _ _ _
      · cases e
    · exact own_take b2' (Nat.zero_le _) (by simp)
  · exact owns_stay b3 fun q o hq ho => far q o (fun e => owns_blk_ne b3 b1 (by decide) (by rw [hq, e])) ho
  · rcases hq with e | e | ⟨i, hi, e⟩ | e | e
    · exact .inl e
    · exact .inr (.inl e)
    · simp only [if_neg (show ¬ i = 2 * N by omega)] at e; exact .inr (.inr (.inl ⟨i, hi, e⟩))
    · exact .inr (.inr (.inr (.inl e)))
    · exact .inr (.inr (.inr (.inr e)))
  · have e : hdV N (fun j => if j = 2 * N then .slice Af 0 cf else hd j) = hdV N hd := by
      unfold hdV
      congr 1
      refine List.map_congr_left fun j hj => ?_
      rw [List.mem_range] at hj
      rw [if_neg (by omega)]
    rw [e]
    exact far _ _ (h.lists.ne_ b1 (by decide)) h.lists
  · obtain ⟨A, c, e, ho⟩ := h.rows k hk
    simp only [if_neg (show ¬ k = 2 * N by omega)]
    exact ⟨A, c, e, owns_stay ho fun q o hq ho' => far q o (fun e => owns_blk_ne ho b1 (by decide) (by rw [hq, e])) ho'⟩
  · simp only [if_neg (show ¬ i = 2 * N by omega)] at h1
    simp only [if_neg (show ¬ j = 2 * N by omega)] at h2
    exact h.ne i j q hi hj hij h1 h2
section
variable {w : World} {base : Nat} {px : Px} {N : Nat} {G : Nat → Prop} {cs0 cs : List Cl} {t : TS} {s : WS} {hd : Nat → Value} {L0 : List Int}
/-- the row of fresh clauses -/
theorem Ob.fresh (h : Ob w base px N G cs t s hd) : ∃ Af cf, hd (2 * N) = .slice Af s.fresh.length cf ∧ w.cell? ⟨px.gW, 4, none⟩ = some (.slice Af s.fresh.length cf) ∧ w.frozen? ⟨px.gW, 4, none⟩ = false ∧ w.ownsRow 0 3 1 (.slice Af s.fresh.length cf) s.fresh.length (s.fresh.map (Value.int .i64)) ∧ G px.gW := by
  obtain ⟨FT, FW, h1, h2, h3, d1, d2, d3, d4⟩ := h.ex
  obtain ⟨Af, Ah, cf, ch, b1, b2, b3, b4, b5, b6⟩ := h3.ex
  exact ⟨Af, cf, b6, by rw [b1.cell]; rfl, b1.frozen 4, b2, d4 _ (.inr (.inr h3.inF.1))⟩
/-- what settle does -/
def Sett (w : World) (base : Nat) (px : Px) (N : Nat) (G : Nat → Prop) (cs0 cs : List Cl) (L0 : List Int) (t : TS) (s : WS) (e : Ending) (w' : World) : Prop :=
  ∃ G', St G G' w w' ∧ ((∃ r : Int, e = .returned (.tuple #[.int .i64 r, .bool false]) ∧ Clash (cs0.map Cl.lits) L0 ∧ Seen w' px s.vis) ∨
    (e = .returned (.tuple #[.int .i64 0, .bool true]) ∧ ∃ t' hd', Ob w' base px N G' cs t' { s with fresh := [], vis := s.vis + s.fresh.length } hd' ∧ PI N cs0 cs t' { s with fresh := [], vis := s.vis + s.fresh.length } ∧ (∀ x ∈ t'.lits, Fol (cs0.map Cl.lits) L0 x) ∧ Grw cs0 t t'))
structure Sim (w wr : World) (base : Nat) (px : Px) (N : Nat) (G : Nat → Prop) (cs0 cs : List Cl) (L0 : List Int) (t : TS) (s : WS) (hd : Nat → Value) (i : Nat) : Prop where
  ex : ∃ t' G', Ob wr base px N G' cs t' { s with vis := s.vis + i } hd ∧ St G G' w wr ∧ PI N cs0 cs t' { s with vis := s.vis + i } ∧ (∀ x ∈ t'.lits, Fol (cs0.map Cl.lits) L0 x) ∧ Grw cs0 t t' ∧ ∀ j r, j < i → s.fresh[j]? = some r → ∀ cl, at? cs r = some cl → Sat cl.lits t' ∨ 2 ≤ cl.lits.length

set_option maxRecDepth 100000 in
set_option maxHeartbeats 4000000 in
theorem settle_any (h : Ob w base px N G cs t s hd) (hB : base ≤ w.heap.size) (hN : N ≤ 100000) (ht : total cs0 ≤ 1000000) (hp : PI N cs0 cs t s) (hs : ∀ x ∈ t.lits, Fol (cs0.map Cl.lits) L0 x) (hf : s.fresh.length ≤ 1000000) (hvis : s.vis ≤ 549755813888) :
    Calls Try.prog 45 #[.pointer (some ⟨px.gW, 0, none⟩)] w (Sett w base px N G cs0 cs L0 t s) := by
  obtain ⟨Af, cf, ehd, x4, x4f, orow, hGW⟩ := h.fresh
  have hgl := h.size
  obtain ⟨n, hn⟩ : ∃ n, s.fresh.length = n := ⟨_, rfl⟩
  have HST := Lib.hid (show Sim w w base px N G cs0 cs L0 t s hd 0 from ⟨t, G, h, St.refl w, hp, hs, Grw.refl t, fun j r hj => by omega⟩)
  have hnc : n ≤ cf := by
    rcases orow.2 with ⟨e, h1⟩ | ⟨q, cap, cur, e, _, _, h2, _⟩
    · omega
    · injection e with _ _ e; omega
  have hcm : cf ≤ 9223372036854775807 := by
    rcases orow.2 with ⟨e, h1⟩ | ⟨q, cap, cur, e, _, _, h2, h3, _⟩
    · injection e with _ _ e; omega
    · injection e with _ _ e; subst e; unfold maxLen at h3; omega
  have hA0 : Af = none → n = 0 ∧ cf = 0 := fun e0 => by
    rcases orow.2 with ⟨e, h1⟩ | ⟨q, cap, cur, e, _⟩
    · injection e with _ e2 e3; exact ⟨by omega, e3⟩
    · rw [e0] at e; cases e
  have hA1 : ∀ ad, Af = some ad → ∃ q, Af = some ⟨q, 0, none⟩ := fun ad e0 => by
    rcases orow.2 with ⟨e, h1⟩ | ⟨q, cap, cur, e, _⟩
    · rw [e0] at e; cases e
    · injection e with e; exact ⟨q, e⟩
  have HA := Lib.hid (And.intro hA0 hA1)
  have HNC := Lib.hid (And.intro hnc hcm)
  have HFR := Lib.hid hp.fre
  have HEH := Lib.hid ehd
  have HN := Lib.hid hn
  have HGW := Lib.hid hGW
  rw [hn] at x4 hf HEH
  clear h hp hs orow hn hnc hcm hA0 hA1 ehd hGW x4f
  go_enter Try.func45, Try.ntmps45
  go_wp2_with fail
  clear x4 hgl
  go_loopg [11] (n + 1) (fun gk iv wr => ∃ i : Nat, i ≤ n ∧ gk = n - i + 1 ∧ iv = .int .i64 i ∧ Hid (Sim w wr base px N G cs0 cs L0 t s hd i))
  case atStart => exact ⟨0, by omega, by omega, rfl, HST⟩
  case round =>
    obtain ⟨i, hin, rfl, rfl, HM⟩ := hrel
    obtain ⟨t', G', ho, hst, hpi, hso, hgw, hdone⟩ := HM.out.ex
    obtain ⟨Af2, cf2, e2, x4, x4f, orow, gW2⟩ := ho.fresh
    have e3 := HEH.out
    rw [e2, HN.out] at e3
    injection e3 with e3a _ e3c
    subst e3a e3c
    rw [HN.out] at x4 orow
    have hgl := ho.size
    by_cases hlt : i < n
    · obtain ⟨q, rfl, _, hql⟩ := own_addr orow (by omega)
      have q1 := World.ownsRow.cellAt orow i (by omega)
      obtain ⟨r, hr⟩ : ∃ r, s.fresh[i]? = some r := ⟨_, List.getElem?_eq_getElem (by have := HN.out; omega)⟩
      have e1 : (({ s with vis := s.vis + i } : WS).fresh.map (Value.int .i64))[i]? = some (.int .i64 r) := by
        show (s.fresh.map (Value.int .i64))[i]? = _
        rw [List.getElem?_map, hr]; rfl
      rw [e1] at q1
      obtain ⟨cl, hc⟩ := HFR.out r (List.mem_of_getElem? hr)
      have CA := Lib.hid (assess_any (L0 := L0) ho (Nat.le_trans hB hst.size) hN ht hpi hso hc (by show s.vis + i ≤ _; omega))
      have HK := Lib.hid (And.intro hst (And.intro hgw (And.intro hdone (And.intro hr hc))))
      have hii : (i : Int) < (n : Int) := by omega
      clear ho hst hpi hso hgw hdone orow e1 hr hc e2 x4f
      go_wp2_with fail
      refine CA.out.mono ?_
      rintro e w2 ⟨z, t2, G2, rfl, ho2, hs2, hp2, hso2, hg2, hz⟩
      rcases hz with ⟨rfl, hcl⟩ | ⟨rfl, hsat⟩
      · obtain ⟨Af3, cf3, f2, y4, y4f, yrow, gW3⟩ := ho2.fresh
        have e3 := HEH.out
        rw [f2] at e3
        injection e3 with e3a e3b e3c
        subst e3a e3c
        rw [e3b] at y4
        have hgl2 := ho2.size
        have hsl : ∀ w, (Instr.slice 32 (.slice (some ⟨q, 0, none⟩) n cf3) (some (.int .i64 i)) none none).run Try.prog w = .ok (.slice (some ⟨q, i, none⟩) (n - i) (cf3 - i)) w := fun w => by
          have := run_back12 (P := Try.prog) Try.underlying32 w (szI13 w) q 0 n cf3 i (by omega) HNC.out.1
          rw [if_neg (by have := HNC.out.1; omega), Nat.zero_add] at this
          exact this
        have hsl2 : ∀ w, (Instr.sliceAt 32 (.slice (some ⟨q, 0, none⟩) n cf3) (some (.int .i64 i)) none none).run Try.prog w = .ok (.slice (some ⟨q, i, none⟩) (n - i) (cf3 - i)) w := fun w => (run_sliceAt_slice (P := Try.prog) w _ _ _ _ _ (by kernel_rfl)).trans (hsl w)
        have HF := Lib.hid (show St G G2 w (w2.setCell ⟨px.gW, 4, none⟩ (.slice (some ⟨q, i, none⟩) (n - i) (cf3 - i))) from ((HK.out.1.trans hs2).trans ⟨(Ft.refl w2).set (fun _ => gW3) _ _, NewF.refl⟩))
        have SN := Lib.hid (show Seen (w2.setCell ⟨px.gW, 4, none⟩ (.slice (some ⟨q, i, none⟩) (n - i) (cf3 - i))) px s.vis from (ho2.seen.less (by simp; omega)).set (.inr (by omega)) _)
        have HCL := Lib.hid hcl
        clear ho2 hs2 hp2 hso2 hg2 hcl f2 yrow gW3 e3b gW2 q1 hsl x4 hgl hql CA
        go_wp2_with fail
        go_ret2
        exact ⟨G2, HF.out, .inl ⟨r, rfl, HCL.out, SN.out⟩⟩
      · have HNX := Lib.hid (show Sim w w2 base px N G cs0 cs L0 t s hd (i + 1) from ⟨t2, G2, ho2, HK.out.1.trans hs2, hp2, hso2, HK.out.2.1.trans hg2, fun j r' hj hr' cl' hc' => by
          by_cases e : j = i
          · subst e
            rw [HK.out.2.2.2.1] at hr'
            injection hr' with hr'
            subst hr'
            rw [HK.out.2.2.2.2] at hc'
            injection hc' with hc'
            subst hc'
            exact hsat
          · obtain ⟨more, hmore⟩ := hg2.lits
            exact (HK.out.2.2.1 j r' (by omega) hr' cl' hc').imp (fun h => h.more (fun _ hx => hx) fun x hx => by rw [hmore]; exact List.mem_append_left _ hx) id⟩)
        clear ho2 hs2 hp2 hso2 hg2 hsat q1 x4 hgl hql gW2 CA
        go_wp2_with fail
        go_roundg (n - i)
        case measure => omega
        case rel => exact ⟨i + 1, by omega, by omega, by go_num, HNX⟩
    · obtain rfl : i = n := by omega
      have hsl : ∀ w, (Instr.slice 32 (.slice Af2 i cf2) none (some (.int .i64 0)) none).run Try.prog w = .ok (.slice Af2 0 cf2) w := fun w => by
        rcases Af2 with _ | ad
        · obtain ⟨u1, u2⟩ := HA.out.1 rfl
          subst u1 u2
          exact run_nil12 Try.underlying32 w (szI13 w)
        · obtain ⟨q, e⟩ := HA.out.2 ad rfl
          rw [e]
          exact run_front12 Try.underlying32 w (szI13 w) q 0 i cf2 0 (Nat.zero_le _)
      have hsl2 : ∀ w, (Instr.sliceAt 32 (.slice Af2 i cf2) none (some (.int .i64 0)) none).run Try.prog w = .ok (.slice Af2 0 cf2) w := fun w => (run_sliceAt_slice (P := Try.prog) w _ _ _ _ _ (by kernel_rfl)).trans (hsl w)
      have HF := Lib.hid (show ∃ hd', Ob (wr.setCell ⟨px.gW, 4, none⟩ (.slice Af2 0 cf2)) base px N G' cs t' { s with fresh := [], vis := s.vis + i } hd' ∧ St G' G' wr (wr.setCell ⟨px.gW, 4, none⟩ (.slice Af2 0 cf2)) from ⟨_, ho.same fun FW hw => hw.clearFresh e2⟩)
      have HPP := Lib.hid (show PI N cs0 cs t' { s with fresh := [], vis := s.vis + i } from ⟨hpi.cls, hpi.good, hpi.ph, hpi.lst, hpi.dn, fun r cl h1 h2 => by
        rcases hpi.sh r cl h1 h2 with h3 | h3
        · obtain ⟨j, hj⟩ := List.getElem?_of_mem h3
          have hjl := (List.getElem?_eq_some_iff.1 hj).1
          rcases hdone j r (by have := HN.out; have : ({ s with vis := s.vis + i } : WS).fresh.length = i := HN.out; omega) hj cl h1 with h4 | h4
          · exact .inr h4
          · omega
        · exact .inr h3, by simp, hpi.hd, hpi.lev⟩)
      have HK := Lib.hid (And.intro hst (And.intro hso hgw))
      clear ho hst hpi hso hgw hdone orow e2 gW2 hsl
      go_wp2_with fail
      go_ret2
      obtain ⟨hd', k1, k2⟩ := HF.out
      have k3 := HPP.out
      rw [← HN.out] at k1 k3
      exact ⟨G', HK.out.1.trans k2, .inr ⟨rfl, t', hd', k1, k3, HK.out.2.1, HK.out.2.2⟩⟩
end

end Go.Proofs.Ytbejjddkndcldaa
