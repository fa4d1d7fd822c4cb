/- Package walk: Walk, Right; the statements' own helpers of layer 15. -/
import Derived.Test.YtllgepabjglnaaaRun15
import Derived.Test.YtllgepabjglnaaaHolds04
namespace Go.Proofs.Ytllgepabjglnaaa
open Go.RowKit
set_option linter.unusedVariables false
set_option linter.unusedSimpArgs false

theorem results_cell_tmp15 {P : Program} {fn : Func} {c t : Tmp} {T : TypeId} (h : fn.results = #[.cell c T, .tmp t]) {tmps : Array Value} {w : World} {v0 v1 : Value} {ad : Addr} (hc : tmps.getD c undef = .pointer (some ad)) (hl : (loadVar T ad).run P w = .ok v0 w) (ht : tmps.getD t undef = v1) : (results fn tmps).run P w = .ok (.tuple #[v0, v1]) w := by
  rw [Array.getD_eq_getD_getElem?] at hc ht
  simp [results, h, hc, hl, ht, asAddr]
theorem results_cell15 {P : Program} {fn : Func} {c : Tmp} {T : TypeId} (h : fn.results = #[.cell c T]) {tmps : Array Value} {w : World} {v0 : Value} {ad : Addr} (hc : tmps.getD c undef = .pointer (some ad)) (hl : (loadVar T ad).run P w = .ok v0 w) : (results fn tmps).run P w = .ok v0 w := by
  rw [Array.getD_eq_getD_getElem?] at hc
  simp [results, h, hc, hl, asAddr]
theorem load_result15 {g n c : Nat} {A : Option Addr} {a b : Int} {w : World} (h : Blk w g 57 #[.slice A n c, .int .i64 a, .int .i64 b]) : (loadVar 57 ⟨g, 0, none⟩).run Try.prog w = .ok (.agg #[.slice A n c, .int .i64 a, .int .i64 b]) w := by
  have c0 := h.cell 0
  have c1 := h.cell 1
  have c2 := h.cell 2
  simp at c0 c1 c2
  have hu := Try.underlying57
  go_simp
theorem load_way15 {g : Nat} {x y z : Value} {w : World} (h : Blk w g 41 #[x, y, z]) : (loadVar 41 ⟨g, 0, none⟩).run Try.prog w = .ok (.agg #[x, y, z]) w := by
  have c0 := h.cell 0
  have c1 := h.cell 1
  have c2 := h.cell 2
  simp at c0 c1 c2
  have hu := Try.underlying41
  go_simp
/-- what a call of Walk leaves -/
structure WalkedP (w w' : World) (Bs r : Nat) (xss : List (List Int)) (z : List Bool) (y : Wy) (sg : Sg) (N : Nat) (A : Option Addr) (cA few : Nat) (z' : List Bool) : Prop where
  sm : Strm w' Bs r (runF y N ⟨z, startLS z (normForm xss), sg⟩).2.2.g.ws (runF y N ⟨z, startLS z (normForm xss), sg⟩).2.2.g.last (runF y N ⟨z, startLS z (normForm xss), sg⟩).2.1
  own : w'.ownsRow w.heap.size 4 1 (.slice A z.length cA) z.length (z'.map .bool)
  ft : Ft (fun q => q = r) w w'
  bst : few = unsN (normForm xss) z'
  first : few ≤ unsN (normForm xss) z
  last : few ≤ (runF y N ⟨z, startLS z (normForm xss), sg⟩).2.2.s.row.length
  zr : (runF y N ⟨z, startLS z (normForm xss), sg⟩).1 = 0 → few = unsN (normForm xss) z
  g0 : (startLS z (normForm xss)).Good z.length ∧ (startLS z (normForm xss)).At z ∧ (startLS z (normForm xss)).cls = normForm xss
set_option maxRecDepth 100000 in
set_option maxHeartbeats 4000000 in
theorem walk_any15 (F : Nat) (xss : List (List Int)) (z : List Bool) (B Bs r : Nat) (A Az : Option Addr) (cA cz : Nat) (w : World) {y : Wy} {sg : Sg} (most : Int) (hm : -100000 ≤ most ∧ most ≤ 30000) (hF : F ≤ 1000) (hL : LightForm F xss) (hR : Rows w B A xss) (hZ : Cells w B Az z.length fun j => .bool (z.getD j false)) (hB : B ≤ w.heap.size) (hz : z.length = F)
    (hs : Strm w Bs r sg.ws sg.last 0) (hy : y.Ok) :
    Calls Try.prog 25 #[.agg #[.int .i64 F, .slice A xss.length cA], .slice Az z.length cz, wayV y, .pointer (some ⟨r, 0, none⟩), .int .i64 most] w fun e w' => ∃ A' c' few z', e = .returned (.tuple #[.agg #[.slice A' z.length c', .int .i64 (few : Nat), .int .i64 ((runF y most.toNat ⟨z, startLS z (normForm xss), sg⟩).1 : Nat)], .int .i64 0]) ∧ WalkedP w w' Bs r xss z y sg most.toNat A' c' few z' := by
  subst hz
  obtain ⟨c0, hc0⟩ : ∃ c0 : Cfg, (⟨z, startLS z (normForm xss), sg⟩ : Cfg) = c0 := ⟨_, rfl⟩
  obtain ⟨w1, hw1⟩ : ∃ w1, w1 = ((w.alloc (Obj.cells #[Value.int .i64 z.length, Value.slice A xss.length cA] 32)).alloc (Obj.cells #[Value.int .i64 (y.kind : Nat), Value.int .i64 (y.base : Nat), Value.int .i64 (y.nz : Nat)] 41)).alloc (Obj.cells #[Value.slice none 0 0, Value.int .i64 0, Value.int .i64 0] 57) := ⟨_, rfl⟩
  have hb1 : Below w.heap.size w w1 := by rw [hw1]; exact (((Below.refl _ _).alloc (Nat.le_refl _) _).alloc (by simp) _).alloc (by simp; omega) _
  have hsz1 : w1.heap.size = w.heap.size + 3 := by rw [hw1]; simp
  have hq1 : Blk w1 (w.heap.size + 1 + 1) 57 #[Value.slice none 0 0, Value.int .i64 0, Value.int .i64 0] := by rw [hw1]; exact blk_new14 (by simp)
  have hy1 : Blk w1 (w.heap.size + 1) 41 #[Value.int .i64 (y.kind : Nat), Value.int .i64 (y.base : Nat), Value.int .i64 (y.nz : Nat)] := by rw [hw1]; exact (blk_new14 (by simp)).alloc _
  have hs1 := hs.below hb1 hs.lt
  have hr1 : r < w.heap.size := hs.lt
  have hnew := st_new z.length xss z w1.heap.size A Az cA cz w1 hF hL (Rows.more (hR.keep (w' := w1) fun p hp => hb1.cell (by omega)) (by omega)) (Cells.more (hZ.keep (w' := w1) fun p hp => hb1.cell (by omega)) (by omega)) (Nat.le_refl _) rfl
  have HNEW := Lib.hid hnew
  have HB1 := Lib.hid (And.intro hb1 (And.intro hq1 hy1))
  have HS1 := Lib.hid hs1
  have HY := Lib.hid hy
  have hfe : ∀ b : Nat, b ≤ 1000000 → True := fun _ _ => trivial
  unfold wayV
  obtain ⟨k1, hk1⟩ : ∃ k1, y.kind = k1 := ⟨_, rfl⟩
  obtain ⟨k2, hk2⟩ : ∃ k2, y.base = k2 := ⟨_, rfl⟩
  obtain ⟨k3, hk3⟩ : ∃ k3, y.nz = k3 := ⟨_, rfl⟩
  have HKK := Lib.hid (And.intro hk1 (And.intro hk2 hk3))
  rw [hk1, hk2, hk3] at hw1 HB1 ⊢
  have hzb : (z.length : Int) ≤ 1000 := by omega
  clear hs hy hR hZ hb1 hq1 hy1 hs1 hnew hk1 hk2 hk3 hL hfe
  go_enter Try.func25, Try.ntmps25
  go_wp2_with fail
  rw [← hw1]
  clear hw1
  refine HNEW.out.mono ?_
  rintro e w2 ⟨ρ, g, s0, rfl, hst, hs0, hb2⟩
  subst hs0
  have HST := Lib.hid hst
  have HB2 := Lib.hid hb2
  have hy2 := HB1.out.2.2.below hb2 HB1.out.2.2.lt
  have HY2 := Lib.hid hy2
  have e0 := hy2.cell 0
  have e1 := hy2.cell 1
  have e2 := hy2.cell 2
  simp at e0 e1 e2
  have hfew := hst.few
  have hrun := run_any15 (c := ⟨z, startLS z (normForm xss), sg⟩) (d := 0) (Bs := Bs) (r := r) most hm hst (Nat.zero_le _) (HS1.out.below hb2 HS1.out.lt) (Nat.zero_le _) (fun q hq => .inr (by have := hst.lo q hq; omega)) HY.out
  rw [hc0] at hrun
  have HC0 := Lib.hid hc0
  unfold wayV at hrun
  rw [HKK.out.1, HKK.out.2.1, HKK.out.2.2] at hrun
  obtain ⟨RF, hRF⟩ : ∃ RF, runF y most.toNat c0 = RF := ⟨_, rfl⟩
  rw [hRF] at hrun
  have HRUN := Lib.hid hrun
  have HRF := Lib.hid hRF
  have hq2 := HB1.out.2.1.below HB2.out HB1.out.2.1.lt
  have HQ2 := Lib.hid hq2
  clear hst hb2 hy2 hq2 HNEW hrun hRF hc0
  go_wp2_with fail
  refine HRUN.out.mono ?_
  rintro e w3 ⟨rfl, ρ', b', hp, hfl, hbi, hzr⟩
  have hzc : z.length = RF.2.2.z.length := by rw [← HRF.out, ← HC0.out]; exact (runF_len y most.toNat ⟨z, startLS z (normForm xss), sg⟩).symm
  have hbest := st_best hp.st
  have hnF : ∀ q, (q = w.heap.size + 1 + 1) → ¬ (ρ q ≠ 0 ∨ q = r) := fun q hq e => by
    rcases e with e | e
    · have := HST.out.lo q e; omega
    · omega
  have HQ3 := Lib.hid (hp.ft.blk HQ2.out (hnF _ rfl))
  have HP := Lib.hid (And.intro hp (And.intro hfl hbi))
  have HZR := Lib.hid hzr
  rw [← hzc] at hbest
  have HBE := Lib.hid hbest
  have hsz3 := hp.ft.size
  have hsz2 := HB2.out.size
  obtain ⟨st, hsteps⟩ : ∃ st, RF.1 = st := ⟨_, rfl⟩
  have HSTP := Lib.hid hsteps
  rw [hsteps]
  clear hp hfl hbi hzr hbest hnF HRUN hsteps hzc
  go_wp2_with fail
  refine HBE.out.mono ?_
  rintro e w4 ⟨A4, c4, rfl, hown, hb4⟩
  have hq4 := HQ3.out.below hb4 HQ3.out.lt
  have d0 := hq4.cell 0
  have d1 := hq4.cell 1
  have d2 := hq4.cell 2
  have g0 := hq4.frozen 0
  have g1 := hq4.frozen 1
  have g2 := hq4.frozen 2
  simp at d0 d1 d2
  have HO4 := Lib.hid (And.intro hown hb4)
  have HQ4 := Lib.hid hq4
  clear hown hb4 hq4 HBE
  go_wp2
  obtain ⟨w5, hw5⟩ : ∃ w5, w5 = ((w4.setCell ⟨w.heap.size + 1 + 1, 0, none⟩ (.slice A4 z.length c4)).setCell ⟨w.heap.size + 1 + 1, 1, none⟩ (.int .i64 (b'.fewest : Nat))).setCell ⟨w.heap.size + 1 + 1, 2, none⟩ (.int .i64 (st : Nat)) := ⟨_, rfl⟩
  have hb5 : Below (w.heap.size + 1 + 1) w4 w5 := by rw [hw5]; exact (((Below.refl (w.heap.size + 1 + 1) w4).setCell (p := ⟨w.heap.size + 1 + 1, 0, none⟩) (Nat.le_refl _) _).setCell (p := ⟨w.heap.size + 1 + 1, 1, none⟩) (Nat.le_refl _) _).setCell (p := ⟨w.heap.size + 1 + 1, 2, none⟩) (Nat.le_refl _) _
  have hf5 : Ft (fun q => q = w.heap.size + 1 + 1) w4 w5 := by rw [hw5]; exact (((Ft.refl (F := fun q => q = w.heap.size + 1 + 1) w4).set (q := w.heap.size + 1 + 1) (fun _ => rfl) _ _).set (q := w.heap.size + 1 + 1) (fun _ => rfl) _ _).set (q := w.heap.size + 1 + 1) (fun _ => rfl) _ _
  have hk5 : Blk w5 (w.heap.size + 1 + 1) 57 #[.slice A4 z.length c4, .int .i64 (b'.fewest : Nat), .int .i64 (st : Nat)] := by
    rw [hw5]
    have := ((HQ4.out.set_ 0 (.slice A4 z.length c4)).set_ 1 (.int .i64 (b'.fewest : Nat))).set_ 2 (.int .i64 (st : Nat))
    simpa using this
  refine bodyPost_ret (results_cell_tmp15 rfl rfl (by rw [← hw5]; exact load_result15 hk5) rfl) rfl ?_
  rw [← hw5]
  clear hw5 d0 d1 d2 g0 g1 g2
  have hRF : runF y most.toNat ⟨z, startLS z (normForm xss), sg⟩ = RF := by rw [HC0.out]; exact HRF.out
  have hbi := HP.out.2.2 (unsN (normForm xss) z) (by rw [← HC0.out]; exact BI.new HST.out)
  have hbl := (HO4.out.1.lt)
  refine ⟨A4, c4, b'.fewest, b'.of RF.2.2.z, by rw [hRF, HSTP.out]; rfl, ⟨by rw [hRF]; have := HP.out.1.sm; rw [Nat.zero_add] at this; exact (this.below HO4.out.2 (HP.out.1.sm.lt)).below (B' := w.heap.size + 1 + 1) hb5 (by omega), ?_, ?_, hbi.is_, hbi.first, by rw [hRF]; exact hbi.now, (fun h => by rw [hRF] at h; rw [HZR.out h]; exact (BI.new HST.out).is_.trans rfl), ⟨HST.out.good, HST.out.at_, HST.out.cls⟩⟩⟩
  · exact hf5.own (own_more HO4.out.1 (by omega)) fun q hq e => by have := (hbl q hq).1; omega
  · have h1 : Ft (fun q => q = r) w w2 := Ft.of_below (HB1.out.1.trans (HB2.out.mono (by omega)))
    have h2 : Ft (fun q => q = r) w w3 := h1.trans HP.out.1.ft fun q hq => by
      rcases hq with e | e
      · have := HST.out.lo q e; exact .inr (by omega)
      · exact .inl e
    exact (h2.low HO4.out.2).trans hf5 fun q hq => .inr (by omega)
end Go.Proofs.Ytllgepabjglnaaa
