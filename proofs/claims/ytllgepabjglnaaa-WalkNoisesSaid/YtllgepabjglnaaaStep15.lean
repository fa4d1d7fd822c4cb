/- Package walk: a new walker, a step. -/
import Derived.Test.YtllgepabjglnaaaWlk15
namespace Go.Proofs.Ytllgepabjglnaaa
open Go.RowKit
set_option linter.unusedVariables false
set_option linter.unusedSimpArgs false

def wayV (y : Wy) : Value := .agg #[.int .i64 (y.kind : Nat), .int .i64 (y.base : Nat), .int .i64 (y.nz : Nat)]
set_option maxHeartbeats 1000000 in
theorem walker_any15 (g r : Nat) {y : Wy} (hy : y.Ok) (w : World) :
    Calls Try.prog 42 #[.pointer (some ⟨g, 0, none⟩), wayV y, .pointer (some ⟨r, 0, none⟩)] w fun e w' => ∃ gw gt, e = .returned (.pointer (some ⟨gw, 0, none⟩)) ∧
      Blk w' gw 105 (wkC g r y gt (.slice none 0 0)) ∧ TabIf w' y gt ∧ w.heap.size ≤ gt ∧ gt < w'.heap.size ∧ w.heap.size ≤ gw ∧ Below w.heap.size w w' := by
  cases y with
  | tab e b =>
    have HN := Lib.hid (fun W => tab_new (e := e) (b := b) hy W)
    have hk : (Wy.kind (.tab e b) : Int) = kindI e := by cases e <;> rfl
    have hk2 : kindI e ≠ 2 := by cases e <;> simp [kindI]
    unfold wayV
    rw [hk]
    obtain ⟨ke, hke⟩ : ∃ ke, kindI e = ke := ⟨_, rfl⟩
    rw [hke] at HN hk2 ⊢
    clear hk hke hy
    show Calls _ _ #[_, .agg #[.int .i64 ke, .int .i64 (b : Nat), .int .i64 (0 : Nat)], _] _ _
    go_enter Try.func42, Try.ntmps42
    go_wp2_with fail
    obtain ⟨wx, hwx⟩ : ∃ wx, wx = (w.alloc (Obj.cells #[Value.int .i64 ke, Value.int .i64 (b : Nat), Value.int .i64 0] 41)).alloc (Obj.cells #[Value.pointer (some ⟨g, 0, none⟩), Value.pointer (some ⟨r, 0, none⟩), Value.int .i64 0, Value.pointer none, Value.slice none 0 0] 105) := ⟨_, rfl⟩
    have hbx : Below w.heap.size w wx := by rw [hwx]; exact ((Below.refl _ _).alloc (Nat.le_refl _) _).alloc (by simp) _
    have hkx : Blk wx (w.heap.size + 1) 105 #[Value.pointer (some ⟨g, 0, none⟩), Value.pointer (some ⟨r, 0, none⟩), Value.int .i64 0, Value.pointer none, Value.slice none 0 0] := by rw [hwx]; exact blk_new14 (by simp)
    rw [← hwx]
    clear hwx
    refine (HN.out _).mono ?_
    rintro x w1 ⟨gt, rfl, h1, h2, h3⟩
    have hk1 := hkx.below h3 hkx.lt
    have c3 := hk1.cell 3
    have f3 := hk1.frozen 3
    simp at c3
    have HK1 := Lib.hid (hk1.set_ 3 (.pointer (some ⟨gt, 0, none⟩)))
    have hne : gt ≠ w.heap.size + 1 := by have := hkx.lt; omega
    have HT := Lib.hid (show Tab (w1.setCell ⟨w.heap.size + 1, 3, none⟩ (.pointer (some ⟨gt, 0, none⟩))) gt e b from Blk.far h2 (p := ⟨w.heap.size + 1, 3, none⟩) hne _)
    have HB := Lib.hid (show Below w.heap.size w (w1.setCell ⟨w.heap.size + 1, 3, none⟩ (.pointer (some ⟨gt, 0, none⟩))) from (hbx.trans (h3.mono hbx.size)).setCell (p := ⟨w.heap.size + 1, 3, none⟩) (Nat.le_succ _) _)
    have hx1 := hbx.size
    have hlt := h2.lt
    clear hkx hbx h2 h3 hk1 hne HN
    go_wp2
    go_ret
    exact ⟨_, gt, rfl, HK1.out, HT.out, by omega, by simpa using hlt, Nat.le_succ _, HB.out⟩
  | noise n =>
    unfold wayV
    show Calls _ _ #[_, .agg #[.int .i64 2, .int .i64 (0 : Nat), .int .i64 (n : Nat)], _] _ _
    go_enter Try.func42, Try.ntmps42
    go_wp2
    go_ret
    exact ⟨w.heap.size + 1, w.heap.size + 1, rfl, blk_new14 (by simp), trivial, by omega, by simp, by omega, ((Below.refl _ _).alloc (Nat.le_refl _) _).alloc (by simp) _⟩
/-- a walker that was just made -/
theorem wkr_new {w w' : World} {ρ : Nat → Nat} {gw gt g r : Nat} {y : Wy} (h : Blk w' gw 105 (wkC g r y gt (.slice none 0 0))) (ht : TabIf w' y gt) (h1 : w.heap.size ≤ gt) (h2 : gt < w'.heap.size) (h3 : w.heap.size ≤ gw) (hr : r < w.heap.size) (hf : ∀ q, ρ q ≠ 0 → q < w.heap.size) : Wkr w' ρ w.heap.size r gw g y := by
  have hz : ∀ q, w.heap.size ≤ q → ρ q = 0 := fun q hq => Decidable.not_not.1 fun e => by have := hf q e; omega
  exact ⟨⟨gt, none, 0, 0, [], h, World.ownsRow_nil _ _ _ _, ht, (fun q hq => by cases hq), hz gt h1, h1, h2⟩, h3, hz gw h3, hr⟩
/-- what a step leaves of what is remembered -/
structure BStep (z : List Bool) (s : LS) (b : BS) (v : Int) (b' : BS) : Prop where
  flips : b'.flips ≤ b.flips + 1
  yes : v ≠ 0 → b'.fewest = (if (flipV s z v).row.length < b.fewest then (flipV s z v).row.length else b.fewest) ∧ b'.of (turnV z v) = if (flipV s z v).row.length < b.fewest then turnV z v else b.of z
  no : v = 0 → b' = b
/-- what a step leaves -/
structure StepP (w w' : World) (B : Nat) (ρ ρ' : Nat → Nat) (g Bs r K gw d : Nat) (y : Wy) (yss : List (List Int)) (c : Cfg) (b b' : BS) (v : Int) (k : Nat) : Prop where
  st : St14 w' B ρ' g (c.turned v k).z yss (c.turned v k).s b'
  sm : Strm w' Bs r (c.turned v k).g.ws (c.turned v k).g.last (d + k)
  dj : ∀ q, ρ' q ≠ 0 → q < Bs ∨ r < q
  wk : Wkr w' ρ' K r gw g y
  ft : Ft (fun q => ρ q ≠ 0 ∨ q = r ∨ K ≤ q) w w'
  part : ∀ q, q < w.heap.size → ρ' q = ρ q
  bs : BStep c.z c.s b v b'
theorem turnV_zero (z : List Bool) : turnV z 0 = z := by unfold turnV; rw [if_neg (by omega)]
theorem flipV_zero (s : LS) (z : List Bool) : flipV s z 0 = s := by unfold flipV; rw [if_neg (by omega)]
theorem turned_zero (c : Cfg) (k : Nat) : c.turned 0 k = ⟨c.z, c.s, c.g.adv k⟩ := by unfold Cfg.turned; rw [turnV_zero, flipV_zero]

set_option maxRecDepth 100000 in
set_option maxHeartbeats 4000000 in
theorem step_any15 {w : World} {B g r gw K Bs d : Nat} {ρ : Nat → Nat} {yss : List (List Int)} {c : Cfg} {b : BS} {y : Wy}
    (hst : St14 w B ρ g c.z yss c.s b) (hfl : b.flips ≤ 900000) (hs : Strm w Bs r c.g.ws c.g.last d) (hd : d ≤ 800000) (hdj : ∀ q, ρ q ≠ 0 → q < Bs ∨ r < q) (hk : Wkr w ρ K r gw g y) (hy : y.Ok) :
    Calls Try.prog 43 #[.pointer (some ⟨gw, 0, none⟩)] w fun e w' => e = .returned (.int .i64 (stepV y c).1) ∧ ∃ ρ' b', StepP w w' B ρ ρ' g Bs r K gw d y yss c b b' (stepV y c).1 (stepV y c).2 := by
  obtain ⟨z, s, sg⟩ := c
  change St14 w B ρ g z yss s b at hst
  change Strm w Bs r sg.ws sg.last d at hs
  obtain ⟨gt, A0, n0, cA, ys, k1, k2, k3, k4, k5, k6, k7⟩ := hk.ex
  have c0 := k1.cell 0
  simp [wkC] at c0
  have hgood := hst.good
  have hrl := hgood.rlen
  have hfw := hgood.few
  have hzl := hgood.vars
  have hr0 : ρ r = 0 := Decidable.not_not.1 fun e => by have := hdj r e; have := hs.low; omega
  have HU := Lib.hid (st_unsat hst)
  have hgr : ¬ gw = r := by have := hk.lo; have := hk.rK; omega
  have HC : Hid (∀ w3, Ft (fun q => q = r) w w3 → w3.cell? ⟨gw, 0, none⟩ = some (.pointer (some ⟨g, 0, none⟩)) ∧ w3.cell? ⟨gw, 1, none⟩ = some (.pointer (some ⟨r, 0, none⟩))) := Lib.hid fun w3 hf => by
    have hb := hf.blk k1 hgr
    refine ⟨?_, ?_⟩ <;> (rw [hb.cell]; rfl)
  have HST := Lib.hid hst
  have HS := Lib.hid hs
  have HK := Lib.hid hk
  have HDJ := Lib.hid (And.intro hdj hr0)
  have HY := Lib.hid hy
  have HGD := Lib.hid hgood
  have HFR0 : Hid (Ft (fun q => q = r) w w ∧ Ft (fun q => q = r) w w.drew) := Lib.hid ⟨Ft.refl _, (Ft.refl _).drew⟩
  by_cases hrow : s.row = []
  · have hR : s.row.length = 0 := by rw [hrow]; rfl
    rw [hR] at HU
    have hsv : stepV y ⟨z, s, sg⟩ = (0, 0) := if_pos hrow
    rw [hsv]
    clear hst hs hk hdj hy hgood k1 k2 k3 k4 k5 k6 k7 hrl hfw hr0 hgr HC
    go_enter Try.func43, Try.ntmps43
    go_wp2_with fail
    refine HU.out.mono ?_
    rintro e w1 ⟨rfl, rfl⟩
    go_wp2
    go_ret
    refine ⟨rfl, ρ, b, ⟨by rw [turned_zero]; exact HST.out, by rw [turned_zero]; exact HS.out, HDJ.out.1, HK.out, Ft.refl _, fun _ _ => rfl, ⟨Nat.le_succ _, fun h => absurd rfl h, fun _ => rfl⟩⟩⟩
  · have hR : 0 < s.row.length := by
      rcases Nat.eq_zero_or_pos s.row.length with h | h
      · exact absurd (List.eq_nil_of_length_eq_zero h) hrow
      · exact h
    have hgwl := k1.lt
    -- the clause
    have hidx : sg.next % s.row.length < s.row.length := Nat.mod_lt _ hR
    obtain ⟨ix, hix⟩ : ∃ ix, sg.next % s.row.length = ix := ⟨_, rfl⟩
    have hmem : s.row.getD ix 0 ∈ s.row := by
      rw [hix] at hidx
      simp only [List.getD, List.getElem?_eq_getElem hidx, Option.getD_some]
      exact List.getElem_mem hidx
    obtain ⟨ci, hci⟩ : ∃ ci, s.row.getD ix 0 = ci := ⟨_, rfl⟩
    rw [hci] at hmem
    have hcil := ((hgood.rmem ci).1 hmem).1
    obtain ⟨cl, hcl⟩ : ∃ cl, s.cls.getD ci [] = cl := ⟨_, rfl⟩
    have hclause : Cfg.clause ⟨z, s, sg⟩ = cl := by
      show s.cls.getD (s.row.getD (sg.next % s.row.length) 0) [] = cl
      rw [hix, hci, hcl]
    have hclen : cl.length ≤ 100 := by rw [← hcl]; exact hgood.short ci
    have hclit : ∀ x ∈ cl, x ≠ 0 ∧ x.natAbs ≤ z.length := fun x hx => hgood.lits ci x (by rw [hcl]; exact hx)
    have hsd : Strm w.drew Bs r sg.ws sg.last d := hs.below (B' := w.heap.size) (Below.refl _ _).drew hs.lt
    have hbl := rng_below hsd (by omega) s.row.length hR (by omega)
    have hnx : nextOf sg.ws sg.last = sg.next := rfl
    rw [hnx, hix] at hbl
    have HBL := Lib.hid hbl
    have hrw : rowAt s.row (ix : Int) = (ci : Int) := by
      unfold rowAt
      rw [if_pos (by omega), Int.toNat_natCast, hci]
    have hst3 : ∀ w3, Ft (fun q => q = r) w w3 → St14 w3 B ρ g z yss s b := fun w3 hf => hst.ft hf fun q hq e => by subst e; exact hq hr0
    have HRW : Hid (∀ w3, Ft (fun q => q = r) w w3 → Calls Try.prog 18 #[.pointer (some ⟨g, 0, none⟩), .int .i64 (ix : Nat)] w3 fun e w' => e = .returned (.int .i64 (ci : Nat)) ∧ w3 = w') := Lib.hid fun w3 hf => by
      have := st_row (hst3 w3 hf) (ix : Int)
      rw [hrw] at this
      exact this
    have HCLS : Hid (∀ w3, Ft (fun q => q = r) w w3 → Calls Try.prog 17 #[.pointer (some ⟨g, 0, none⟩), .int .i64 (ci : Nat)] w3 fun e w' => ∃ A c, e = .returned (.slice A cl.length c) ∧ w'.ownsRow w3.heap.size 3 1 (.slice A cl.length c) cl.length (cl.map (Value.int .i64)) ∧ Below w3.heap.size w3 w') := Lib.hid fun w3 hf => by
      have := st_clause (hst3 w3 hf) (ci : Int)
      have hc : (0 : Int) ≤ (ci : Int) ∧ (ci : Int) < (yss.length : Nat) := by rw [← hst.cls]; omega
      rw [if_pos hc, if_pos hc, Int.toNat_natCast, ← hst.cls, hcl] at this
      exact this
    have HST3 := Lib.hid hst3
    obtain ⟨R, hRR⟩ : ∃ R, s.row.length = R := ⟨_, rfl⟩
    rw [hRR] at HU HBL hR hrl
    have hRI : (0 : Int) < (R : Int) := by omega
    have hR0 : ((R : Int) == 0) = false := by simp; omega
    have hsv : stepV y ⟨z, s, sg⟩ = if cl = [] then (0, 1) else (litVar (cl.getD (chooseF y (breaksOf s z.length cl) sg.after).1 0), 1 + (chooseF y (breaksOf s z.length cl) sg.after).2) := by
      unfold stepV
      rw [if_neg hrow, hclause]
    rw [hsv]
    have HCL := Lib.hid (And.intro hclen hclit)
    have HHR := Lib.hid hrow
    clear hst hs hdj hy hgood k1 k2 k3 k4 k5 k6 k7 hr0 hgr hbl hnx hrw hst3 hsd hsv hclause hcl hci hix hmem hidx hrow hRR hk hcil hclit
    have HC0 := Lib.hid (HC.out w HFR0.out.1)
    have hcp : 0 ≤ (ci : Int) := by omega
    go_enter Try.func43, Try.ntmps43
    go_wp2_with fail
    refine HU.out.mono ?_
    rintro e w1 ⟨rfl, rfl⟩
    go_wp2_with fail
    go_cut [4] (fun p wx => ∃ Ac cc w3, p = .slice Ac cl.length cc ∧ Hid (Ft (fun q => q = r) w w3 ∧ Strm w3 Bs r sg.after.ws sg.after.last (d + 1) ∧ wx.ownsRow w3.heap.size 3 1 (.slice Ac cl.length cc) cl.length (cl.map (Value.int .i64)) ∧ Below w3.heap.size w3 wx))
    case first =>
      go_region_held3 (fun w' => w'.cell? ⟨gw, 0, none⟩ = some (.pointer (some ⟨g, 0, none⟩)) ∧ w'.cell? ⟨gw, 1, none⟩ = some (.pointer (some ⟨r, 0, none⟩))) (first | exact HC0.out | exact HC3.out | exact HC4.out)
        (first | (go_at_call 19; refine HBL.out.mono ?_; rintro e w3 ⟨rfl, hs3, ho3⟩; have HF3 := Lib.hid (HFR0.out.2.trans ho3.ft NewF.refl); have HC3 := Lib.hid (HC.out w3 HF3.out); have HS3 := Lib.hid hs3; clear hs3 ho3) | (go_at_call 18; refine (HRW.out _ HF3.out).mono ?_; rintro e w4 ⟨rfl, rfl⟩) | (go_at_call 17; refine (HCLS.out _ HF3.out).mono ?_; rintro e w5 ⟨Ac, cc, rfl, ho5, hb5⟩; have HO5 := Lib.hid (And.intro ho5 hb5); have HC4 := Lib.hid (And.intro ((hb5.cell (p := ⟨gw, 0, none⟩) (Nat.lt_of_lt_of_le hgwl HF3.out.size)).trans HC3.out.1) ((hb5.cell (p := ⟨gw, 1, none⟩) (Nat.lt_of_lt_of_le hgwl HF3.out.size)).trans HC3.out.2)); clear ho5 hb5))
      all_goals
        go_wp2_with fail
        go_meet
        exact ⟨Ac, cc, w3, rfl, Lib.hid ⟨HF3.out, HS3.out, HO5.out.1, HO5.out.2⟩⟩
    case rest =>
      obtain ⟨Ac, cc, w3, rfl, H3⟩ := hcut
      have HST5 := Lib.hid ((HST3.out w3 H3.out.1).below H3.out.2.2.2)
      have HS5 := Lib.hid (H3.out.2.1.below (B' := w3.heap.size) H3.out.2.2.2 H3.out.2.1.lt)
      have HW3 : Hid (Wkr w3 ρ K r gw g y) := Lib.hid (HK.out.ft H3.out.1 fun q hq => by subst hq; exact HK.out.rK)
      have HFT5 : Hid (Ft (fun q => ρ q ≠ 0 ∨ q = r ∨ K ≤ q) w wc) := Lib.hid ((H3.out.1.mono fun q hq => .inr (.inl hq)).low H3.out.2.2.2)
      by_cases hcl0 : cl = []
      · have hl0 : cl.length = 0 := by rw [hcl0]; rfl
        rw [hl0]
        go_wp2
        go_ret
        exact ⟨rfl, ρ, b, ⟨by rw [turned_zero]; exact HST5.out, by rw [turned_zero]; exact HS5.out, HDJ.out.1, HW3.out.below H3.out.2.2.2, HFT5.out, fun _ _ => rfl, ⟨Nat.le_succ _, fun h => absurd rfl h, fun _ => rfl⟩⟩⟩
      · have hcp : 0 < cl.length := by
          rcases Nat.eq_zero_or_pos cl.length with h | h
          · exact absurd (List.eq_nil_of_length_eq_zero h) hcl0
          · exact h
        have hch := choose_any15 HST5.out HS5.out (by omega) HDJ.out.1 HW3.out H3.out.2.2.2 H3.out.2.1.lt HY.out hcp (by omega) (fun x hx => by have := HCL.out.2 x hx; omega) H3.out.2.2.1
        have hil := chooseF_lt y (bs := breaksOf s z.length cl) (by rw [breaksOf_len]; exact hcp) sg.after
        rw [breaksOf_len] at hil
        obtain ⟨⟨i, kk⟩, hik⟩ : ∃ ik, chooseF y (breaksOf s z.length cl) sg.after = ik := ⟨_, rfl⟩
        rw [hik] at hch hil
        have HIK := Lib.hid hik
        have HCH := Lib.hid hch
        have hx := HCL.out.2 (cl.getD i 0) (by simp only [List.getD, List.getElem?_eq_getElem hil, Option.getD_some]; exact List.getElem_mem hil)
        obtain ⟨x, hxx⟩ : ∃ x, cl.getD i 0 = x := ⟨_, rfl⟩
        have HXX := Lib.hid hxx
        rw [hxx] at hx
        have hlv : 1 ≤ litVar x ∧ litVar x ≤ (z.length : Int) := by unfold litVar; split <;> omega
        have HV := Lib.hid (fun W => var_any x W (by omega) (by omega))
        have hilI : (i : Int) < (cl.length : Int) := by omega
        have hil0 : 0 < i ∨ i = 0 := by omega
        have HL0 := Lib.hid hcl0
        obtain ⟨n, hn⟩ : ∃ n, cl.length = n := ⟨_, rfl⟩
        rw [hn] at HCH hcp hil hilI ⊢
        have HN := Lib.hid hn
        have hnI : ((n : Int) == 0) = false := by simp; omega
        clear hch hik hxx hcl0 hn hil0
        go_wp2_with fail
        refine HCH.out.mono ?_
        rintro e w6 ⟨rfl, p1, p2, p3, p4⟩
        obtain ⟨b6, o6, eA, hb6, cx⟩ := Cells.at_ p3 (show i < cl.length by rw [HN.out]; exact hil)
        rw [HXX.out] at cx
        obtain ⟨gt6, A6, n6, c6, ys6, q1, _⟩ := p2.ex
        have d0 := q1.cell 0
        simp [wkC] at d0
        have hst6 := HST5.out.ft p4 fun q hq e => e.elim (fun e => by subst e; exact hq HDJ.out.2) fun e => hq e.2
        have hfl6 := st_flip hst6 (by omega) (litVar x) (by omega)
        rw [show isVar z.length (litVar x) = true from decide_eq_true hlv] at hfl6
        obtain ⟨v, hv⟩ : ∃ v, litVar x = v := ⟨_, rfl⟩
        rw [hv] at hfl6 hlv HV
        have HVV := Lib.hid hv
        have HFL := Lib.hid hfl6
        have HP := Lib.hid (And.intro p1 (And.intro p2 p4))
        subst eA
        clear p1 p2 p3 p4 q1 hst6 hfl6 hv HCH
        go_wp2_with fail
        refine (HV.out _).mono ?_
        rintro e w7 ⟨rfl, rfl⟩
        go_wp2_with fail
        refine HFL.out.mono ?_
        rintro e w7 ⟨rfl, ρ', b', hst', hs', hyes, _⟩
        have HE := Lib.hid (And.intro hst' (And.intro hs' (hyes (by first | rfl | trivial))))
        clear hst' hs' hyes HFL
        go_wp2
        go_ret
        have e1 : litVar (cl[(chooseF y (breaksOf s z.length cl) sg.after).fst]?.getD 0) = v := by rw [HIK.out]; exact (congrArg litVar HXX.out).trans HVV.out
        rw [e1, HIK.out]
        have hrl6 := HP.out.1.lt
        refine ⟨rfl, ρ', b', ⟨HE.out.1, ?_, fun q hq => ?_, HP.out.2.1.lstep HE.out.2.1, ?_, fun q hq => ?_, ⟨by rw [HE.out.2.2.1]; exact Nat.le_refl _, fun _ => HE.out.2.2.2, fun h => ?_⟩⟩⟩
        · have := HP.out.1.ft HE.out.2.1.ft HDJ.out.1
          show Strm w7 Bs r (sg.adv (1 + kk)).ws (sg.adv (1 + kk)).last (d + (1 + kk))
          rw [← Nat.add_assoc, Nat.add_comm 1 kk]
          exact this
        · rcases Nat.lt_or_ge q _ with hl | hl
          · exact HDJ.out.1 q (by rw [← HE.out.2.1.part q hl]; exact hq)
          · exact .inr (Nat.lt_of_lt_of_le hrl6 hl)
        · exact (HFT5.out.trans (HP.out.2.2.mono fun q hq => hq.elim (fun e => .inr (.inl e)) fun e => .inr (.inr e.1)) NewF.refl).trans (HE.out.2.1.ft.mono fun q hq => .inl hq) NewF.refl
        · exact HE.out.2.1.part q (Nat.lt_of_lt_of_le hq (Nat.le_trans HFT5.out.size HP.out.2.2.size))
        · exact absurd h (by omega)
end Go.Proofs.Ytllgepabjglnaaa
