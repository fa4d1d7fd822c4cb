/- local's state: Flip, Best, Make. -/
import Derived.Test.YtllgepabjglnaaaLoc7
namespace Go.Proofs.Ytllgepabjglnaaa
open Go.RowKit
set_option linter.unusedVariables false
set_option linter.unusedSimpArgs false

section
variable {w : World} {ρ : Nat → Nat} {p : Lx} {m : MS}
theorem LM.setVal (h : LM w ρ p m) {V v : Nat} (hV : p.vA = some ⟨V, 0, none⟩) (h1 : 1 ≤ v) (h2 : v ≤ m.z.length) :
    LM (w.setCell ⟨V, v - 1, none⟩ (.bool (!m.z.getD (v - 1) false))) ρ p { m with z := turn m.z v } ∧ LStep w ρ (w.setCell ⟨V, v - 1, none⟩ (.bool (!m.z.getD (v - 1) false))) ρ := by
  have hVV : ρ V = 7 := h.vs.2 V (by rw [hV]; rfl)
  have gV : p.g ≠ V := fun e => by rw [← e, h.sr] at hVV; cases hVV
  have S : Stay w (w.setCell ⟨V, v - 1, none⟩ (.bool (!m.z.getD (v - 1) false))) ρ [7] := Stay.refl.set (by rw [hVV]; decide) _ _
  have e := turn_len m.z v
  obtain ⟨xs, x1, x2⟩ := h.cs
  refine ⟨⟨S.fresh h, ?_, h.sr, ?_, ⟨xs, S.oz x1 (by decide), ⟨x2.c0, x2.c1, x2.c2, x2.c3, x2.pl⟩⟩, h.rin, S.olr h.ls (by decide), h.lc, ?_, S.olr h.hl (by decide), ?_, S.oz h.rw_ (by decide), ?_, S.oz h.sw (by decide), h.e0, fun a ha => ⟨(h.ew a ha).1, S.oz (h.ew a ha).2 (by decide)⟩⟩, S.step (by decide) rfl rfl rfl⟩
  · have := h.str.far gV (p := ⟨V, v - 1, none⟩) (.bool (!m.z.getD (v - 1) false))
    unfold stC at this ⊢
    simp only [e]
    exact this
  · simp only [e]
    have y := h.vs
    rw [hV] at y
    have y2 := y.stored (v - 1) (.bool (!m.z.getD (v - 1) false))
    rw [← turn_map h1 h2, ← hV] at y2
    exact y2
  · simp only [e]
    exact S.oz h.hs (by decide)
  · simp only [e]
    exact h.hn
  · simp only [e]
    exact S.oz h.kw (by decide)
end
section
variable {w : World} {ρ : Nat → Nat} {p : Lx} {z : List Bool} {s : LS} {b : BS}
theorem flip_no (h : LM w ρ p (MS.of z s b)) (hz : z.length ≤ 1000) {v : Int} (hv : -9223372036854775808 ≤ v ∧ v ≤ 9223372036854775807) (hn : ¬ (1 ≤ v ∧ v ≤ z.length)) :
    Calls Try.prog 61 #[.pointer (some ⟨p.g, 0, none⟩), .int .i64 v] w fun e w' => e = .returned (.bool false) ∧ w = w' := by
  have HR := Lib.hid (isvar_any h hz v hv)
  change Hid (Calls _ _ _ _ fun e w' => e = .returned (.bool (isVar z.length v)) ∧ w = w') at HR
  rw [show isVar z.length v = false from decide_eq_false hn] at HR
  clear h hn hv
  go_enter Try.func61, Try.ntmps61
  go_wp2_with fail
  refine HR.out.mono ?_
  rintro e w1 ⟨rfl, rfl⟩
  go_wp2
  go_ret
  exact ⟨rfl, rfl⟩

set_option maxRecDepth 100000 in
set_option maxHeartbeats 1000000 in
theorem flip_yes (h : LM w ρ p (MS.of z s b)) (hg : s.Good z.length) (ha : s.At z) (hbg : b.Good z) (hfl : b.flips ≤ 1000000) (hfe : b.fewest ≤ 1000) {v : Nat} (h1 : 1 ≤ v) (h2 : v ≤ z.length) :
    Calls Try.prog 61 #[.pointer (some ⟨p.g, 0, none⟩), .int .i64 (v : Nat)] w fun e w' => e = .returned (.bool true) ∧ ∃ ρ' p', p'.g = p.g ∧ LM w' ρ' p' (MS.of (turn z v) (s.flip z v) (b.next (s.flip z v).row.length v (turn z v))) ∧ LStep w ρ w' ρ' := by
  have hzn := hg.vars
  have HR := Lib.hid (isvar_any h hzn v (by omega))
  change Hid (Calls _ _ _ _ fun e w' => e = .returned (.bool (isVar z.length v)) ∧ w = w') at HR
  rw [show isVar z.length v = true from decide_eq_true (by omega)] at HR
  have HH := Lib.hid (holder_any h hzn h1 h2)
  change Hid (Calls _ _ _ _ fun e w' => e = .returned (.int .i64 (holder z v)) ∧ w = w') at HH
  have habs := holder_abs z v
  have HLO := Lib.hid (lose_any h hg (l := holder z v) (by omega) (by omega) fun i hi => (ha i _).2 ⟨mem_hav.1 hi, hol_holder h1 h2⟩)
  have HG := Lib.hid (And.intro hg (And.intro ha (And.intro hbg (And.intro hfl hfe))))
  obtain ⟨L, hL⟩ : ∃ L, holder z v = L := ⟨_, rfl⟩
  have HL := Lib.hid hL
  rw [hL] at HH HLO habs
  have hLb : -1000 ≤ L ∧ L ≤ 1000 := by omega
  obtain ⟨k, rfl⟩ : ∃ k, v = k + 1 := ⟨v - 1, by omega⟩
  have hkb : (k : Int) ≤ 1000 := by omega
  clear h hg ha hbg hfl hfe hL
  go_enter Try.func61, Try.ntmps61
  go_wp2_with fail
  refine HR.out.mono ?_
  rintro e w1 ⟨rfl, rfl⟩
  go_wp2_with fail
  refine HH.out.mono ?_
  rintro e w1 ⟨rfl, rfl⟩
  go_wp2_with fail
  refine HLO.out.mono ?_
  rintro e w1 ⟨rfl, ρ1, A1, c1, hm1, hs1⟩
  obtain ⟨g1, g2, g3⟩ := lost_spec HG.out.1 HG.out.2.1 h1 h2
  have hno := lost_not HG.out.1 HG.out.2.1 h1 h2
  have elost : s.loses L (hav s.cls L) = s.lost z (k + 1) := by unfold LS.lost; rw [HL.out]
  rw [elost] at hm1
  obtain ⟨V, eV, rV, _, _, vc, vf⟩ := hm1.vs.at_ (show 0 < z.length by omega)
  change p.vA = some ⟨V, 0, none⟩ at eV
  have d0 := hm1.cells.1
  change w1.cell? ⟨p.g, 0, none⟩ = some (.slice p.vA z.length p.vc) at d0
  have dk := vc k (show k < z.length * 1 by omega)
  change w1.cell? ⟨V, k, none⟩ = (z.map Value.bool)[k]? at dk
  rw [show (z.map Value.bool)[k]? = some (.bool (z.getD k false)) by simp [List.getD, show k < z.length by omega]] at dk
  have fk := vf k
  rw [eV] at d0
  obtain ⟨hm2, hs2⟩ := hm1.setVal (V := V) (v := k + 1) eV (by omega) (show k + 1 ≤ z.length by omega)
  change LM (w1.setCell ⟨V, k + 1 - 1, none⟩ (.bool (!z.getD (k + 1 - 1) false))) ρ1 { p with rA := A1, rc := c1 } ⟨turn z (k + 1), (s.lost z (k + 1)).cls, (s.lost z (k + 1)).hss, (s.lost z (k + 1)).row, havs z.length (s.lost z (k + 1)).cls, brk (s.lost z (k + 1)).hss, b⟩ at hm2
  change LStep w1 ρ1 (w1.setCell ⟨V, k + 1 - 1, none⟩ (.bool (!z.getD (k + 1 - 1) false))) ρ1 at hs2
  rw [Nat.add_sub_cancel] at hm2 hs2
  have hm2' : LM (w1.setCell ⟨V, k, none⟩ (.bool (!z.getD k false))).drew ρ1 { p with rA := A1, rc := c1 } (MS.of (turn z (k + 1)) (s.lost z (k + 1)) b) := by
    unfold MS.of
    rw [turn_len]
    exact hm2.drew
  obtain ⟨zk, hzk⟩ : ∃ zk, z.getD k false = zk := ⟨_, rfl⟩
  rw [hzk] at dk hm2' hs2
  obtain ⟨nz, hnz⟩ : ∃ nz, z.length = nz := ⟨_, rfl⟩
  have HNZ := Lib.hid hnz
  rw [hnz] at d0
  have hkn : (k : Int) < (nz : Int) := by omega
  have hnzb : nz ≤ 1000 := by omega
  have HS2 := Lib.hid ((hs1.trans hs2).trans LStep.drew)
  obtain ⟨w2, hw2⟩ : ∃ w2, w2 = (w1.setCell ⟨V, k, none⟩ (.bool (!zk))).drew := ⟨_, rfl⟩
  have HW2 := Lib.hid hw2
  rw [← hw2] at hm2' HS2
  have HM2 := Lib.hid hm2'
  have HN := Lib.hid hno
  have HG1 := Lib.hid (And.intro g1 g2)
  have hzt := turn_len z (k + 1)
  have hho : holder (turn z (k + 1)) (k + 1) = -L := by rw [holder_turn h1 h2, HL.out]
  have HZT := Lib.hid (And.intro hzt hho)
  clear hm1 hs1 hs2 hm2 hm2' hw2 hnz hzk vc vf eV hno g1 g2 g3 elost hzt hho HH HLO HR
  go_wp2_with fail
  go_region
  rw [← HW2.out]
  clear d0 dk fk
  have HH2 := holder_any HM2.out (show (turn z (k + 1)).length ≤ 1000 by rw [HZT.out.1]; omega) (v := k + 1) h1 (show k + 1 ≤ (turn z (k + 1)).length by rw [HZT.out.1]; exact h2)
  change Calls _ _ _ _ (fun e w' => e = .returned (.int .i64 (holder (turn z (k + 1)) (k + 1))) ∧ w2 = w') at HH2
  rw [HZT.out.2] at HH2
  go_wp2_with fail
  refine HH2.mono ?_
  rintro e w3 ⟨rfl, rfl⟩
  have HGA := gain_any HM2.out (by rw [HZT.out.1]; exact HG1.out.1) (l := -L) (by omega) (by rw [HZT.out.1]; omega) (by rw [← HL.out]; exact HN.out)
  rw [HG1.out.2] at HGA
  have eflip : (s.lost z (k + 1)).gains (-L) (hav s.cls (-L)) = s.flip z (k + 1) := by unfold LS.flip; rw [HL.out]
  rw [eflip] at HGA
  clear HH2
  go_wp2_with fail
  refine HGA.mono ?_
  rintro e w3 ⟨rfl, hm3, hs3⟩
  have d5 := hm3.cells.2.2.2.2.2.1
  change w3.cell? ⟨p.g, 5, none⟩ = some (.int .i64 (b.flips : Nat)) at d5
  have f5 := hm3.frozen 5
  change w3.frozen? ⟨p.g, 5, none⟩ = false at f5
  obtain ⟨hm4, hs4⟩ := hm3.setFlips (b.flips + 1)
  have HM4 := Lib.hid hm4
  have HS4 := Lib.hid ((HS2.out.trans hs3).trans hs4)
  have HFF := Lib.hid (flip_spec HG.out.1 HG.out.2.1 h1 h2)
  clear hm3 hs3 hm4 hs4 eflip HGA
  have hfb := HG.out.2.2.2.1
  obtain ⟨fl, hfl⟩ : ∃ fl, b.flips = fl := ⟨_, rfl⟩
  have HFL := Lib.hid hfl
  rw [hfl] at d5 HM4 HS4 hfb
  clear hfl
  go_wp2_with fail
  obtain ⟨w4, hw4⟩ : ∃ w4, w4 = w3.setCell ⟨p.g, 5, none⟩ (.int .i64 ((fl : Int) + 1)) := ⟨_, rfl⟩
  rw [← hw4]
  have hc4 : LM w4 ρ1 { p with rA := A1, rc := c1 } { MS.of (turn z (k + 1)) (s.flip z (k + 1)) b with b := { b with flips := fl + 1 } } := by rw [hw4]; exact HM4.out
  have hs4 : LStep w ρ w4 ρ1 := by rw [hw4]; exact HS4.out
  have hrl := HFF.out.1.rlen
  have hfw := HFF.out.1.few
  have HCM := compare_any14 hc4 (show (turn z (k + 1)).length ≤ 1000 by rw [HZT.out.1]; omega) (show (s.flip z (k + 1)).row.length ≤ 1000 by omega) (show b.fewest ≤ 1000 from HG.out.2.2.2.2) (v := k + 1) h1 (show k + 1 ≤ (turn z (k + 1)).length by rw [HZT.out.1]; exact h2)
    (fun x hx => by show 1 ≤ x ∧ x ≤ (turn z (k + 1)).length; rw [HZT.out.1]; exact HG.out.2.2.1.vars x hx) (show b.since.length ≤ (turn z (k + 1)).length by rw [HZT.out.1]; exact HG.out.2.2.1.most)
  have HS5 := Lib.hid hs4
  clear hw4 hc4 hs4 hrl hfw d5 f5
  refine HCM.mono ?_
  rintro e w5 ⟨rfl, ρ5, A5, c5, E5, d5, hm5, hs5⟩
  have hx : ({ b with flips := fl + 1 } : BS).cmp (s.flip z (k + 1)).row.length (k + 1) (turn z (k + 1)) = b.next (s.flip z (k + 1)).row.length (k + 1) (turn z (k + 1)) := by rw [← cmp_next, HFL.out]
  change LM w5 ρ5 { p with rA := A1, rc := c1, sA := A5, sc := c5, eA := E5, ec := d5 } { MS.of (turn z (k + 1)) (s.flip z (k + 1)) b with b := ({ b with flips := fl + 1 } : BS).cmp (s.flip z (k + 1)).row.length (k + 1) (turn z (k + 1)) } at hm5
  rw [hx] at hm5
  have HE := Lib.hid (And.intro hm5 (HS5.out.trans hs5))
  clear hm5 hs5 hx HCM
  go_wp2
  go_ret
  exact ⟨rfl, ρ5, { p with rA := A1, rc := c1, sA := A5, sc := c5, eA := E5, ec := d5 }, rfl, HE.out.1, HE.out.2⟩
end

section
variable {w : World} {ρ : Nat → Nat} {p : Lx} {m : MS}
set_option maxRecDepth 100000 in
set_option maxHeartbeats 1000000 in
theorem best_any (h : LM w ρ p m) (hz : m.z.length ≤ 1000) (hbg : m.b.Good m.z) :
    Calls Try.prog 44 #[.pointer (some ⟨p.g, 0, none⟩)] w fun e w' => ∃ A c, e = .returned (.tuple #[.slice A m.z.length c, .int .i64 (m.b.fewest : Nat)]) ∧
      w'.ownsRow w.heap.size 4 1 (.slice A m.z.length c) m.z.length ((m.b.of m.z).map .bool) ∧ Below w.heap.size w w' := by
  have hnil : ∀ (w : World) (a : Option Addr) (n c : Nat), (binOp .neq 34 (.slice a n c) (.slice none 0 0)).run Try.prog w = .ok (.bool (!a.isNone)) w := fun w a n c => by
    simp [binOp, Op.equal, Op.maxDepth, Lib.run_equalIn_slice_nil (P := Try.prog) w 9999 34 4 a n c 0 0 Try.underlying34]
  have c6 := h.cells.2.2.2.2.2.2.1
  have c8 := h.cells.2.2.2.2.2.2.2.2
  have hgl := h.lt
  have KE := Lib.hid (show ∀ w2, Below w.heap.size w w2 → w2.cell? ⟨p.g, 6, none⟩ = some (.int .i64 (m.b.fewest : Nat)) from fun w2 hb => (hb.cell hgl).trans c6)
  rcases hb : m.b.best with _ | a
  · have hof : m.b.of m.z = undo m.z m.b.since := by unfold BS.of; rw [hb]
    obtain ⟨e1, e2⟩ := h.e0 hb
    rw [hb, e1, e2] at c8
    simp only [Option.getD_none, List.length_nil] at c8
    have HL := Lib.hid (lookback_any h.drew hz hbg.vars (by have := hbg.most; omega))
    rw [← hof] at HL
    obtain ⟨fw, hfw⟩ : ∃ fw, m.b.fewest = fw := ⟨_, rfl⟩
    rw [hfw] at c6 KE ⊢
    clear h hb e1 e2 hof hfw
    go_enter Try.func44, Try.ntmps44
    go_wp2_with fail
    go_region_held3 (fun w' => w'.cell? ⟨p.g, 6, none⟩ = some (.int .i64 (fw : Nat)))
      (first | exact K6.out | exact c6 | go_keep)
      (first
        | (go_at_call 62; refine HL.out.mono ?_; rintro e w2 ⟨A2, c2, rfl, ho2, hb2'⟩; have hb2 := below_undrew hb2'; clear hb2'; have K6 := Lib.hid (KE.out _ hb2); have HO2 := Lib.hid ho2; have HB2 := Lib.hid hb2; clear ho2 hb2))
    go_wp2
    go_ret2
    exact ⟨_, _, rfl, HO2.out, HB2.out⟩
  · have hof : m.b.of m.z = a := by unfold BS.of; rw [hb]
    obtain ⟨h0, ho⟩ := h.ew a hb
    have hal := (hbg.len a hb).1
    obtain ⟨q, eq, _⟩ := ho.at_ (by omega)
    rw [hb, eq] at c8
    simp only [Option.getD_some] at c8
    rw [eq] at ho
    have HC := Lib.hid (cloneB _ _ _ (some ⟨q, 0, none⟩) p.ec w.drew (show a.length ≤ 1000000 by omega) (fun j _ => rfl) (show Cells w.drew w.heap.size (some ⟨q, 0, none⟩) a.length fun j => .bool (a.getD j false) from bools_cells ho.1) (Nat.le_refl _))
    rw [bools_map a] at HC
    rw [hof, ← hal]
    obtain ⟨n, hn⟩ : ∃ n, a.length = n := ⟨_, rfl⟩
    rw [hn] at HC c8 ⊢
    obtain ⟨fw, hfw⟩ : ∃ fw, m.b.fewest = fw := ⟨_, rfl⟩
    rw [hfw] at c6 KE ⊢
    have KE8 := Lib.hid (show ∀ w2, Below w.heap.size w w2 → w2.cell? ⟨p.g, 8, none⟩ = some (.slice (some ⟨q, 0, none⟩) n p.ec) from fun w2 hb => (hb.cell hgl).trans c8)
    clear h hb hof hfw h0 ho hal eq hn hbg
    go_enter Try.func44, Try.ntmps44
    go_wp2_with fail
    go_region_held3 (fun w' => w'.cell? ⟨p.g, 6, none⟩ = some (.int .i64 (fw : Nat)) ∧ w'.cell? ⟨p.g, 8, none⟩ = some (.slice (some ⟨q, 0, none⟩) n p.ec))
      (first | exact ⟨K6.out, K8.out⟩ | exact ⟨c6, c8⟩ | go_keep)
      (first
        | (go_at_call 30; refine HC.out.mono ?_; rintro e w2 ⟨A2, c2, rfl, ho2, hb2'⟩; have hb2 := below_undrew hb2'; clear hb2'; have K6 := Lib.hid (KE.out _ hb2); have K8 := Lib.hid (KE8.out _ hb2); have HO2 := Lib.hid ho2; have HB2 := Lib.hid hb2; clear ho2 hb2))
    go_wp2
    go_ret2
    exact ⟨_, _, rfl, HO2.out, HB2.out⟩
end
end Go.Proofs.Ytllgepabjglnaaa
