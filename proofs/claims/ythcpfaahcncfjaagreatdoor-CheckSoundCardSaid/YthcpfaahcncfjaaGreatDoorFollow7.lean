/- spread: what follows from literals. forget, foreign: the end and the start of a search. foreign: is one of some literals none of the store's? And forget, as a deferred call. Follow: what follows from literals, and the store at rest again. Implied: do the negations of a clause's literals clash? New: a store without clauses. -/
import Derived.Test.YthcpfaahcncfjaaGreatDoorExamine07b
import Derived.Defers
import Derived.Test.YthcpfaahcncfjaaGreatDoorNorm
import Derived.Test.YthcpfaahcncfjaaGreatDoorCnf3
import Derived.Test.YthcpfaahcncfjaaGreatDoorRef07b
import Derived.Deep.OwnRows
import Derived.Deep.RegionHeld3
namespace Go.Proofs.YthcpfaahcncfjaaGreatDoor
open Go.RowKit
set_option linter.unusedVariables false
set_option linter.unusedSimpArgs false

/-- a row of ints of the caller's own, in no block of the store's -/
structure Apart (W : World) (X : SX) (b0 : Nat) (A : Option Addr) (c : Nat) (L : List Int) : Prop where
  own : W.ownsRow b0 3 1 (.slice A L.length c) L.length (L.map (Value.int .i64))
  ne : ∀ g, (Value.slice A L.length c).ownBlock = some g → X.fv.ownBlock ≠ some g
theorem Apart.turn {W W' : World} {base b0 c : Nat} {X X' : SX} {fo : List Bool} {A : Option Addr} {L : List Int} (h : Apart W X b0 A c L) (hs : Sto W base X fo) (ht : Tn base X W W') (hl : Later7 W X X') : Apart W' X' b0 A c L := by
  refine ⟨⟨h.own.1, ?_⟩, fun g hg => ?_⟩
  · rcases h.own.2 with hn | ⟨g', cap', cur, hv, hb', hg', rest⟩
    · exact .inl hn
    · refine .inr ⟨g', cap', cur, hv, hb', ht.blk g' _ cur hg' (by decide) (by decide) (by decide) (by decide) (Blk.ne_ (w := W) (g := g') hg' hs.fol (by decide)) (fun e => ?_), rest⟩
      exact h.ne g' (by rw [hv]; rfl) e.symm
  · rcases hl.2 with e | e
    · rw [e]; exact h.ne g hg
    · intro e2; have := e g e2; have := (h.own.lt g hg).2; omega
theorem Apart.cell {W : World} {b0 c : Nat} {X : SX} {A : Option Addr} {L : List Int} (h : Apart W X b0 A c L) {k : Nat} (hk : k < L.length) : ∃ g, A = some ⟨g, 0, none⟩ ∧ W.cell? ⟨g, k, none⟩ = some (.int .i64 (L.getD k 0)) := by
  obtain ⟨g, rfl, _, _⟩ := own_addr h.own (by omega)
  refine ⟨g, rfl, ?_⟩
  rw [World.ownsRow.cellAt h.own k (by omega)]
  simp [List.getD, hk]

section
variable {X X' : SX} {fo fo' : List Bool} {L : List Int} {E : Int → Prop} {l : Int}
/-- a literal that follows is found, or all clashes -/
theorem Good.found (h : Good X fo L E) (hl : Lt7 X.V l) (hF : Fol X.cs L l) (hs : SameButFd X X') (ha : fo.getD (ix (-l)) false = true → X' = X ∧ fo' = fo) (hb : fo.getD (ix (-l)) false = false → fo.getD (ix l) false = true → X' = X ∧ fo' = fo)
    (hc : fo.getD (ix (-l)) false = false → fo.getD (ix l) false = false → X'.fd = X.fd ++ [l] ∧ fo' = fo.set (ix l) true) :
    Good X' fo' L E ∧ Same7 X X' ∧ (fo.getD (ix (-l)) false = false → l ∈ X'.fd) ∧ (fo.getD (ix (-l)) false = true → Clash X'.cs L) := by
  cases c1 : fo.getD (ix (-l)) false with
  | true =>
    obtain ⟨rfl, rfl⟩ := ha c1
    exact ⟨h, Same7.refl _, fun e => (by cases e), fun _ => .inl ⟨l, hF, h.sound _ ((h.fw.tie _ hl.neg).1 c1)⟩⟩
  | false =>
    have hno : -l ∉ X.fd := fun hm => by rw [(h.fw.tie _ hl.neg).2 hm] at c1; cases c1
    cases c2 : fo.getD (ix l) false with
    | true =>
      obtain ⟨rfl, rfl⟩ := hb c1 c2
      exact ⟨h, Same7.refl _, fun _ => (h.fw.tie _ hl).1 c2, fun e => (by cases e)⟩
    | false =>
      obtain ⟨hfd, rfl⟩ := hc c1 c2
      have hon : l ∉ X.fd := fun hm => by rw [(h.fw.tie _ hl).2 hm] at c2; cases c2
      have hsame := hs.same7 ⟨_, hfd⟩
      refine ⟨⟨⟨by rw [hs.ps, hs.V, hs.C]; exact h.wf.cl, by rw [hs.ps]; exact h.wf.plen, by unfold InPile; rw [hs.V, hs.pss, hs.ps, hs.C]; exact h.wf.pile⟩, h.fw.add hs.V hl hon hno hfd, fun x hx => ?_, fun x hx => by rw [hfd]; exact List.mem_append_left _ (h.eF x hx), fun p hp hpg h2 => ?_⟩, hsame, fun _ => by rw [hfd]; simp, fun e => (by cases e)⟩
      · rw [hsame.cs]
        rw [hfd] at hx
        rcases List.mem_append.1 hx with hx | hx
        · exact h.sound x hx
        · rw [List.mem_singleton.1 hx]; exact hF
      · rw [hs.ps] at hp
        rw [hs.C] at h2 hpg ⊢
        have := h.watch p hp hpg h2
        rw [hfd]
        exact ⟨fun hE => List.mem_append_left _ (this.1 hE), fun hE => List.mem_append_left _ (this.2 hE)⟩
/-- all that was found has been gone through: it is what follows -/
theorem Good.told (h : Good X fo L E) (hE : ∀ x, x ∈ X.fd → E x) (hL : ∀ x, x ∈ L → x ∈ X.fd) (hsh : ∀ p, p ∈ X.ps → (X.C p).gone = false → (X.C p).lits.length < 2 → ∃ x, (X.C p).lits = [x] ∧ x ∈ X.fd) : Told X.cs L X.fd true := by
  have hcon : ∀ x, x ∈ X.fd → -x ∈ X.fd → False := fun x hx hn => h.fw.con x hx hn
  have key : ∀ c, c ∈ X.cs → (∀ x, x ∈ c → (∀ y, y ∈ c → y ≠ x → -y ∈ X.fd) → x ∈ X.fd) ∧ ¬ ∀ y, y ∈ c → -y ∈ X.fd := by
    intro c hc
    obtain ⟨p, hp, rfl⟩ := List.mem_map.1 hc
    obtain ⟨hp, hpg⟩ := SX.mem_live.1 hp
    by_cases h2 : 2 ≤ (X.C p).lits.length
    · obtain ⟨w1, w2⟩ := h.watch p hp hpg h2
      obtain ⟨a, b, d, _⟩ := (h.wf.cl p hp).two h2
      exact closed_of_watch (F := (· ∈ X.fd)) hcon a b d (fun hf => w1 (hE _ hf)) (fun hf => w2 (hE _ hf))
    · obtain ⟨x, hx, hm⟩ := hsh p hp hpg (by omega)
      rw [hx]
      exact ⟨fun z hz _ => by rw [List.mem_singleton.1 hz]; exact hm, fun hall => hcon x hm (hall x (by simp))⟩
  exact told_yes hL h.sound (fun c hc x hx hy => (key c hc).1 x hx hy) hcon fun c hc => (key c hc).2
end

theorem Good.congr {X : SX} {fo : List Bool} {L : List Int} {E E' : Int → Prop} (h : Good X fo L E) (he : ∀ x, E x ↔ E' x) : Good X fo L E' :=
  ⟨h.wf, h.fw, h.sound, fun x hx => h.eF x ((he x).2 hx), fun p hp hg h2 => ⟨fun hE => (h.watch p hp hg h2).1 ((he _).2 hE), fun hE => (h.watch p hp hg h2).2 ((he _).2 hE)⟩⟩
theorem Sto.pilecell {W : World} {base j k : Nat} {X : SX} {fo : List Bool} (h : Sto W base X fo) (hj : j < X.pss.length) (hk : k < (X.pss.getD j []).length) : ∃ g c, X.vs.getD j undef = .slice (some ⟨g, 0, none⟩) (X.pss.getD j []).length c ∧ W.cell? ⟨g, k, none⟩ = some (.pointer (some ⟨(X.pss.getD j []).getD k 0, 0, none⟩)) := by
  obtain ⟨Aj, cj, hvj, hoj⟩ := h.pil.each j hj
  obtain ⟨g, rfl, _, _⟩ := own_addr hoj (by omega)
  refine ⟨g, cj, hvj, ?_⟩
  obtain ⟨S, hS⟩ : ∃ S, S = X.pss.getD j [] := ⟨_, rfl⟩
  rw [← hS] at hoj hk ⊢
  rw [World.ownsRow.cellAt hoj k (by omega)]
  simp [ptrs7, List.getD, hk]
theorem Sto.header {W : World} {base j : Nat} {X : SX} {fo : List Bool} (h : Sto W base X fo) (hj : j < X.pss.length) : ∃ A c, X.vs.getD j undef = .slice A (X.pss.getD j []).length c := by
  obtain ⟨Aj, cj, hvj, _⟩ := h.pil.each j hj
  exact ⟨Aj, cj, hvj⟩
theorem Sto.foundcell {W : World} {base k : Nat} {X : SX} {fo : List Bool} (h : Sto W base X fo) (hk : k < X.fd.length) : ∃ g, X.fv = .slice (some ⟨g, 0, none⟩) X.fd.length X.cf ∧ W.cell? ⟨g, k, none⟩ = some (.int .i64 (X.fd.getD k 0)) := by
  have ho := h.fnd
  unfold SX.fv at ho
  obtain ⟨g, hg, _, _⟩ := own_addr ho (by omega)
  rw [hg] at ho
  refine ⟨g, by unfold SX.fv; rw [hg], ?_⟩
  rw [World.ownsRow.cellAt ho k (by omega)]
  simp [List.getD, hk]

/-- the short clauses -/
def Short (X : SX) : Prop := (∀ p, p ∈ X.pss.getD (2 * X.V + 1) [] → p ∈ X.ps ∧ (X.C p).lits.length < 2) ∧ ∀ p, p ∈ X.ps → (X.C p).gone = false → (X.C p).lits.length < 2 → p ∈ X.pss.getD (2 * X.V + 1) []
/-- what spread leaves -/
def SpreadP (base : Nat) (X : SX) (L : List Int) (W : World) (e : Ending) (W' : World) : Prop :=
  ∃ (X' : SX) (fo' : List Bool) (b : Bool), e = .returned (.bool b) ∧ Sto W' base X' fo' ∧ Tn base X W W' ∧ Later7 W X X' ∧ Same7 X X' ∧ Fw X' fo' ∧ Wfs X' ∧ (b = true → Told X'.cs L X'.fd true) ∧ (b = false → Clash X'.cs L)
set_option maxRecDepth 100000 in
set_option maxHeartbeats 2000000 in
theorem spread_any {W : World} {base b0 c : Nat} {X : SX} {fo : List Bool} {L : List Int} {A : Option Addr} (h : Sto W base X fo) (hw : Wfs X) (hf : Fw X fo) (h0 : X.fd = []) (hsh : Short X) (hsn : (X.pss.getD (2 * X.V + 1) []).length ≤ 1000000000)
    (hA : Apart W X b0 A c L) (hL : ∀ x, x ∈ L → Lt7 X.V x) (hn : L.length ≤ 1000000000) :
    Calls Tryz.prog 67 #[.pointer (some ⟨X.s, 0, none⟩), .slice A L.length c] W (SpreadP base X L W) := by
  have hvb := h.vb
  have hgood : Good X fo L (fun _ => False) := ⟨hw, hf, fun x hx => (by rw [h0] at hx; simp at hx), fun x hx => hx.elim, fun p hp _ h2 => ⟨fun e => e.elim, fun e => e.elim⟩⟩
  have HS := Lib.hid h
  have HG := Lib.hid hgood
  have HA := Lib.hid hA
  have HL := Lib.hid hL
  have HSH := Lib.hid hsh
  clear h hw hf hgood hA hL hsh h0
  go_enter Tryz.func67, Tryz.ntmps67
  go_wp2
  go_loopg [12] (L.length + 1) (fun gk i wr => ∃ (k : Nat) (Y : SX) (fy : List Bool), k ≤ L.length ∧ gk = L.length - k + 1 ∧ i = .int .i64 k ∧ Hid (Sto wr base Y fy) ∧ Hid (Good Y fy L (fun _ => False)) ∧ Hid (Same7 X Y) ∧ Hid (Tn base X W wr) ∧ Hid (Later7 W X Y) ∧ Hid (Apart wr Y b0 A c L) ∧ Hid (∀ x, x ∈ L.take k → x ∈ Y.fd))
  case atStart => exact ⟨0, X, fo, by omega, by omega, rfl, HS, HG, Lib.hid (Same7.refl X), Lib.hid (Tn.refl base X W), Lib.hid (Later7.refl W X), HA, Lib.hid (by simp)⟩
  case round =>
    obtain ⟨k, Y, fy, hk, rfl, rfl, HSY, HGY, HSM, HTN, HLT, HAY, HIN⟩ := hrel
    by_cases hlt : k < L.length
    · obtain ⟨g, rfl, hc⟩ := HAY.out.cell hlt
      obtain ⟨htk, hmem⟩ := take_snoc7 hlt
      have hlx := HL.out _ hmem
      obtain ⟨x, hx⟩ : ∃ x, x = L.getD k 0 := ⟨_, rfl⟩
      rw [← hx] at hc htk hmem hlx
      have hlY : Lt7 Y.V x := by rw [HSM.out.V]; exact hlx
      have hfl := HGY.out.fw.len
      have hVY := HSY.out.vb
      have HFN := Lib.hid (find_any HSY.out x hlY (by omega))
      rw [HSM.out.s] at HFN
      have HTK := Lib.hid htk
      have HMEM := Lib.hid hmem
      have HLY := Lib.hid hlY
      clear hx htk hmem hlx hlY hfl hVY
      go_wp2_with fail
      refine HFN.out.mono ?_
      rintro e w3 ⟨Z, fz, rfl, z1, z2, z3, z4, z5, z6, z7⟩
      obtain ⟨y1, y2, y3, y4⟩ := HGY.out.found HLY.out (.given HMEM.out) z4 z5 z6 z7
      have HZ := Lib.hid (And.intro z1 (And.intro y1 (And.intro (HSM.out.trans y2) (And.intro (HTN.out.trans z2 HLT.out) (And.intro (HLT.out.trans z3 HTN.out.below.size) (HAY.out.turn HSY.out z2 z3))))))
      have HY2 := Lib.hid y2
      have HY34 := Lib.hid (And.intro y3 y4)
      clear z1 z2 z3 z4 z5 z6 z7 y1 y2 y3 y4 HFN
      cases c1 : fy.getD (ix (-x)) false with
      | true =>
        have HCL := Lib.hid (HY34.out.2 c1)
        clear c1
        go_wp2
        go_ret
        exact ⟨Z, fz, false, rfl, HZ.out.1, HZ.out.2.2.2.1, HZ.out.2.2.2.2.1, HZ.out.2.2.1, HZ.out.2.1.fw, HZ.out.2.1.wf, fun e => (by cases e), fun _ => HCL.out⟩
      | false =>
        have HIN2 := Lib.hid (HY34.out.1 c1)
        clear c1
        go_wp2
        go_roundg (L.length - k)
        case measure => omega
        case rel =>
          refine ⟨k + 1, Z, fz, by omega, by omega, by go_num, Lib.hid HZ.out.1, Lib.hid HZ.out.2.1, Lib.hid HZ.out.2.2.1, Lib.hid HZ.out.2.2.2.1, Lib.hid HZ.out.2.2.2.2.1, Lib.hid HZ.out.2.2.2.2.2, Lib.hid fun z hz => ?_⟩
          rw [HTK.out] at hz
          obtain ⟨t, ht⟩ := HY2.out.fd
          rcases List.mem_append.1 hz with hz | hz
          · rw [ht]; exact List.mem_append_left _ (HIN.out z hz)
          · rw [List.mem_singleton.1 hz]; exact HIN2.out
    · obtain rfl : k = L.length := by omega
      rw [List.take_length] at HIN
      have hjl : 2 * X.V + 1 < Y.pss.length := by have := HSY.out.num.1; rw [HSM.out.V] at this; omega
      obtain ⟨As, cs, hhd⟩ := HSY.out.header hjl
      obtain ⟨hh1, hh2⟩ := HSM.out.high (2 * X.V + 1) (by omega)
      rw [hh2] at hhd
      obtain ⟨S, hSS⟩ : ∃ S, S = X.pss.getD (2 * X.V + 1) [] := ⟨_, rfl⟩
      rw [← hSS] at hhd hsn
      have hs4 : wr.cell? ⟨X.s, 4, none⟩ = some (.slice As S.length cs) := by
        have := HSY.out.st.cell 4
        rw [HSM.out.s] at this
        rw [this, ← hhd]
        show some (Y.vs.getD (2 * Y.V + 1) undef) = _
        rw [HSM.out.V]
      have HHD : Hid (X.vs.getD (2 * X.V + 1) undef = .slice As S.length cs) := Lib.hid (hh1.symm.trans hhd)
      have HSS := Lib.hid hSS
      clear hhd hh1 hh2 hSS hjl
      go_wp2
      go_loopg [26] (S.length + 1) (fun gk i wr => ∃ (k : Nat) (Y : SX) (fy : List Bool), k ≤ S.length ∧ gk = S.length - k + 1 ∧ i = .int .i64 k ∧ Hid (Sto wr base Y fy) ∧ Hid (Good Y fy L (fun _ => False)) ∧ Hid (Same7 X Y) ∧ Hid (Tn base X W wr) ∧ Hid (Later7 W X Y) ∧ Hid (∀ x, x ∈ L → x ∈ Y.fd) ∧ Hid (∀ p, p ∈ S.take k → (X.C p).gone = false → ∃ x, (X.C p).lits = [x] ∧ x ∈ Y.fd))
      case atStart => exact ⟨0, Y, fy, by omega, by omega, rfl, HSY, HGY, HSM, HTN, HLT, HIN, Lib.hid (by simp)⟩
      case round =>
        obtain ⟨k, Y, fy, hk, rfl, rfl, HSY, HGY, HSM, HTN, HLT, HIN, HSP⟩ := hrel
        have hjl : 2 * X.V + 1 < Y.pss.length := by have := HSY.out.num.1; rw [HSM.out.V] at this; omega
        obtain ⟨hh1, hh2⟩ := HSM.out.high (2 * X.V + 1) (by omega)
        by_cases hlt2 : k < S.length
        · obtain ⟨g, cg, hv, hc⟩ := HSY.out.pilecell (k := k) hjl (by rw [hh2, ← HSS.out]; exact hlt2)
          rw [hh1, HHD.out] at hv
          injection hv with hv1 hv2 hv3
          subst hv1
          rw [hh2, ← HSS.out] at hc
          have hmem : S.getD k 0 ∈ S := by rw [show S.getD k 0 = S[k] by simp [List.getD, hlt2]]; exact List.getElem_mem hlt2
          have htk : S.take (k + 1) = S.take k ++ [S.getD k 0] := by rw [List.take_succ_eq_append_getElem hlt2]; simp [List.getD, hlt2]
          obtain ⟨p, hpp⟩ : ∃ p, p = S.getD k 0 := ⟨_, rfl⟩
          rw [← hpp] at hc hmem htk
          have hps := HSH.out.1 p (by rw [← HSS.out]; exact hmem)
          have hpY : p ∈ Y.ps := by rw [HSM.out.ps]; exact hps.1
          obtain ⟨p1, p2, p3, p4⟩ := HSY.out.cl p hpY
          have q5 : wr.cell? ⟨p, 5, none⟩ = some (.bool (Y.C p).gone) := p1.cell 5
          rw [(HSM.out.gn p).1] at q5
          have q1 : wr.cell? ⟨p, 1, none⟩ = some (.slice (Y.C p).A (Y.C p).lits.length (Y.C p).c) := p1.cell 1
          have hlits := HSM.out.lits p
          rw [hlits] at q1 p3
          have hclx := HGY.out.wf.cl p hpY
          have HTK := Lib.hid htk
          have HPS := Lib.hid hps
          have HPY := Lib.hid hpY
          have HLI := Lib.hid hlits
          clear hpp hmem htk hps hpY p1 p2 p4 hh1 hh2 hv2 hv3 hjl
          cases hgn : (X.C p).gone with
          | true =>
          rw [hgn] at q5
          have HGN := Lib.hid hgn
          clear hgn p3 hclx hlits q1
          go_wp2
          go_roundg (S.length - k)
          case measure => omega
          case rel =>
            refine ⟨k + 1, Y, fy, by omega, by omega, by go_num, HSY, HGY, HSM, HTN, HLT, HIN, Lib.hid fun z hz hzg => ?_⟩
            rw [HTK.out] at hz
            rcases List.mem_append.1 hz with hz | hz
            · exact HSP.out z hz hzg
            · rw [List.mem_singleton.1 hz, HGN.out] at hzg; cases hzg
          | false =>
          rw [hgn] at q5
          have HGN : Hid ((Y.C p).gone = false) := Lib.hid ((HSM.out.gn p).1.trans hgn)
          clear hgn
          cases hli : (X.C p).lits with
          | nil =>
            have HCL : Hid (Clash Y.cs L) := Lib.hid (.inr ⟨[], by rw [← hli, ← HLI.out]; exact SX.mem_cs HPY.out HGN.out, fun y hy => by simp at hy⟩)
            rw [hli] at q1
            simp at q1
            clear hli p3 hclx hlits
            go_wp2
            go_ret
            exact ⟨Y, fy, false, rfl, HSY.out, HTN.out, HLT.out, HSM.out, HGY.out.fw, HGY.out.wf, fun e => (by cases e), fun _ => HCL.out⟩
          | cons x r =>
            have hr : r = [] := by
              have := HPS.out.2
              rw [hli] at this
              cases r with
              | nil => rfl
              | cons a b => simp at this; omega
            subst hr
            rw [hli] at q1 p3
            simp at q1
            have hlY : Lt7 Y.V x := hclx.lt x (by rw [hlits, hli]; simp)
            have hA0 := p3
            unfold CX.row at hA0
            rw [hlits, hli] at hA0
            obtain ⟨gx, hgx, _, _⟩ := own_addr hA0 (by simp)
            rw [hgx] at hA0 q1
            have qx : wr.cell? ⟨gx, 0, none⟩ = some (.int .i64 x) := by
              rw [World.ownsRow.cellAt hA0 0 (by simp)]
              rfl
            have HF : Hid (Fol Y.cs L x) := Lib.hid (Fol.closed (X.C p).lits (by rw [← HLI.out]; exact SX.mem_cs HPY.out HGN.out) x (by rw [hli]; simp) fun y hy hne => by rw [hli] at hy; exact absurd (List.mem_singleton.1 hy) hne)
            have hfl := HGY.out.fw.len
            have hVY := HSY.out.vb
            have HFN := Lib.hid (find_any HSY.out x hlY (by omega))
            rw [HSM.out.s] at HFN
            have HLY := Lib.hid hlY
            have HLX := Lib.hid hli
            clear hli p3 hclx hlits hA0 hlY hfl hVY hgx
            go_wp2_with fail
            refine HFN.out.mono ?_
            rintro e w3 ⟨Z, fz, rfl, z1, z2, z3, z4, z5, z6, z7⟩
            obtain ⟨y1, y2, y3, y4⟩ := HGY.out.found HLY.out HF.out z4 z5 z6 z7
            have HZ := Lib.hid (And.intro z1 (And.intro y1 (And.intro (HSM.out.trans y2) (And.intro (HTN.out.trans z2 HLT.out) (HLT.out.trans z3 HTN.out.below.size)))))
            have HY2 := Lib.hid y2
            have HY34 := Lib.hid (And.intro y3 y4)
            clear z1 z2 z3 z4 z5 z6 z7 y1 y2 y3 y4 HFN
            cases c1 : fy.getD (ix (-x)) false with
            | true =>
              have HCL := Lib.hid (HY34.out.2 c1)
              clear c1
              go_wp2
              go_ret
              exact ⟨Z, fz, false, rfl, HZ.out.1, HZ.out.2.2.2.1, HZ.out.2.2.2.2, HZ.out.2.2.1, HZ.out.2.1.fw, HZ.out.2.1.wf, fun e => (by cases e), fun _ => HCL.out⟩
            | false =>
              have HIN2 := Lib.hid (HY34.out.1 c1)
              clear c1
              go_wp2
              go_roundg (S.length - k)
              case measure => omega
              case rel =>
                obtain ⟨t, ht⟩ := HY2.out.fd
                refine ⟨k + 1, Z, fz, by omega, by omega, by go_num, Lib.hid HZ.out.1, Lib.hid HZ.out.2.1, Lib.hid HZ.out.2.2.1, Lib.hid HZ.out.2.2.2.1, Lib.hid HZ.out.2.2.2.2, Lib.hid fun z hz => by rw [ht]; exact List.mem_append_left _ (HIN.out z hz), Lib.hid fun z hz hzg => ?_⟩
                rw [HTK.out] at hz
                rcases List.mem_append.1 hz with hz | hz
                · obtain ⟨u, hu1, hu2⟩ := HSP.out z hz hzg
                  exact ⟨u, hu1, by rw [ht]; exact List.mem_append_left _ hu2⟩
                · rw [List.mem_singleton.1 hz]; exact ⟨x, HLX.out, HIN2.out⟩
        · obtain rfl : k = S.length := by omega
          rw [List.take_length] at HSP
          clear hh1 hh2 hjl
          go_wp2
          go_loopg [9] (2 * X.V + 1) (fun gk i wr => ∃ (k : Nat) (Y : SX) (fy : List Bool), k ≤ Y.fd.length ∧ gk = 2 * X.V - k + 1 ∧ i = .int .i64 k ∧ Y.fd.length ≤ 2 * X.V ∧ Hid (Sto wr base Y fy) ∧ Hid (Good Y fy L (fun x => x ∈ Y.fd.take k)) ∧ Hid (Same7 X Y) ∧ Hid (Tn base X W wr) ∧ Hid (Later7 W X Y) ∧ Hid (∀ x, x ∈ L → x ∈ Y.fd) ∧ Hid (∀ p, p ∈ S → (X.C p).gone = false → ∃ x, (X.C p).lits = [x] ∧ x ∈ Y.fd))
          case atStart => exact ⟨0, Y, fy, by omega, by omega, rfl, by have := HGY.out.fw.len; rw [HSM.out.V] at this; exact this, HSY, Lib.hid (HGY.out.congr fun x => by simp), HSM, HTN, HLT, HIN, HSP⟩
          case round =>
            obtain ⟨k, Y, fy, hk, rfl, rfl, hfl, HSY, HGY, HSM, HTN, HLT, HIN, HSP⟩ := hrel
            have hs8 : wr.cell? ⟨X.s, 8, none⟩ = some Y.fv := by
              have := HSY.out.st.cell 8
              rw [HSM.out.s] at this
              exact this
            by_cases hlt3 : k < Y.fd.length
            · obtain ⟨g, hv, hc⟩ := HSY.out.foundcell hlt3
              rw [hv] at hs8
              obtain ⟨htk, hmem⟩ := take_snoc7 hlt3
              have hlx := HGY.out.fw.lt _ hmem
              obtain ⟨x, hx⟩ : ∃ x, x = Y.fd.getD k 0 := ⟨_, rfl⟩
              rw [← hx] at hc htk hmem hlx
              have hxb : -1000000 ≤ x ∧ x ≤ 1000000 := by have := HSY.out.vb; obtain ⟨_, a, b⟩ := hlx; omega
              obtain ⟨hx1, hx2⟩ := hxb
              have hwx : IntKind.i64.wrap (-x) = -x := IntWalk.i64_in _ (by omega)
              have HEX := Lib.hid (examine_any HSY.out HGY.out (-x) hlx.neg (by rw [Int.neg_neg]; exact hmem))
              rw [HSM.out.s] at HEX
              obtain ⟨m, hm⟩ : ∃ m, m = Y.fd.length := ⟨_, rfl⟩
              rw [← hm] at hs8 hlt3 hfl
              have hkm : (k : Int) < (m : Int) := by omega
              have HTK := Lib.hid htk
              have HM := Lib.hid hm
              clear hx htk hmem hlx hv hm hk
              go_wp2_with fail
              refine HEX.out.mono ?_
              rintro e w3 ⟨Z, fz, b, rfl, z1, z2, z3, z4, z5, z6, z7, z8⟩
              have HZ := Lib.hid (And.intro z1 (And.intro (HSM.out.trans z4) (And.intro (HTN.out.trans z2 HLT.out) (And.intro (HLT.out.trans z3 HTN.out.below.size) (And.intro z5 z6)))))
              have HZ4 := Lib.hid z4
              have HZ78 := Lib.hid (And.intro z7 z8)
              clear z1 z2 z3 z4 z5 z6 z7 z8 HEX
              cases b with
              | false =>
                go_wp2
                go_ret
                exact ⟨Z, fz, false, rfl, HZ.out.1, HZ.out.2.2.1, HZ.out.2.2.2.1, HZ.out.2.1, HZ.out.2.2.2.2.1, HZ.out.2.2.2.2.2, fun e => (by cases e), fun _ => HZ78.out.2 (by first | rfl | trivial)⟩
              | true =>
                go_wp2
                go_roundg (2 * X.V - k)
                case measure => omega
                case rel =>
                  obtain ⟨t, ht⟩ := HZ4.out.fd
                  have hlen := HZ.out.2.2.2.2.1.len
                  rw [HZ.out.2.1.V] at hlen
                  have htake : Z.fd.take (k + 1) = Y.fd.take k ++ [x] := by rw [ht, List.take_append_of_le_length (by rw [← HM.out]; omega)]; exact HTK.out
                  refine ⟨k + 1, Z, fz, by rw [ht, List.length_append, ← HM.out]; omega, by omega, by go_num, hlen, Lib.hid HZ.out.1, Lib.hid ((HZ78.out.1 (by first | rfl | trivial)).congr fun z => ?_), Lib.hid HZ.out.2.1, Lib.hid HZ.out.2.2.1, Lib.hid HZ.out.2.2.2.1, Lib.hid fun z hz => by rw [ht]; exact List.mem_append_left _ (HIN.out z hz), Lib.hid fun z hz hzg => ?_⟩
                  · rw [htake, List.mem_append, List.mem_singleton, Int.neg_neg]
                  · obtain ⟨u, hu1, hu2⟩ := HSP.out z hz hzg
                    exact ⟨u, hu1, by rw [ht]; exact List.mem_append_left _ hu2⟩
            · obtain rfl : k = Y.fd.length := by omega
              have HTD : Hid (Told Y.cs L Y.fd true) := Lib.hid (HGY.out.told (fun x hx => by rw [List.take_length]; exact hx) HIN.out fun p hp hg h2 => by
                rw [HSM.out.ps] at hp
                rw [HSM.out.lits] at h2 ⊢
                rw [(HSM.out.gn p).1] at hg
                exact HSP.out p (by rw [HSS.out]; exact HSH.out.2 p hp hg h2) hg)
              unfold SX.fv at hs8
              go_wp2
              go_ret
              exact ⟨Y, fy, true, rfl, HSY.out, HTN.out, HLT.out, HSM.out, HGY.out.fw, HGY.out.wf, fun _ => HTD.out, fun e => (by cases e)⟩
end Go.Proofs.YthcpfaahcncfjaaGreatDoor

namespace Go.Proofs.YthcpfaahcncfjaaGreatDoor
open Go.RowKit
set_option linter.unusedVariables false
set_option linter.unusedSimpArgs false

/-- nothing is found any longer -/
def SX.clean (X : SX) : SX := { X with fd := [] }
theorem Sto.cleaned {W : World} {base : Nat} {X : SX} {fo : List Bool} (h : Sto W base X fo) : Sto (W.setCell ⟨X.s, 8, none⟩ (.slice X.Af 0 X.cf)) base X.clean fo ∧ Tn base X W (W.setCell ⟨X.s, 8, none⟩ (.slice X.Af 0 X.cf)) ∧ Later7 W X X.clean := by
  have hfv : X.clean.fv = .slice X.Af 0 X.cf := rfl
  have hob : (Value.slice X.Af 0 X.cf).ownBlock = X.fv.ownBlock := by unfold SX.fv; cases X.Af <;> rfl
  have far : ∀ q t Y, Blk W q t Y → t ≠ 117 → Blk (W.setCell ⟨X.s, 8, none⟩ (.slice X.Af 0 X.cf)) q t Y := fun q t Y hq h2 => hq.far (hq.ne_ h.st h2) _
  have row : ∀ (e : TypeId) (v : Value) (n : Nat) (xs : List Value), W.ownsRow base e 1 v n xs → e ≠ 117 → (W.setCell ⟨X.s, 8, none⟩ (.slice X.Af 0 X.cf)).ownsRow base e 1 v n xs := fun e v n xs ho h2 => own_setCell ho _ (own_blk_ne ho h.st h2)
  have hnil : W.ownsRow base 3 1 (.slice X.Af 0 X.cf) 0 [] := by
    have ho := h.fnd
    unfold SX.fv at ho
    cases hA : X.Af with
    | none =>
      rw [hA] at ho
      rcases ho.2 with ⟨hv, _⟩ | ⟨g', cap', cur, hv, _⟩
      · injection hv with _ _ h3
        rw [h3]
        exact World.ownsRow_nil _ _ _ _
      · cases hv
    | some a =>
      rw [hA] at ho
      rcases ho.2 with ⟨hv, _⟩ | ⟨g', cap', cur, hv, rest⟩
      · cases hv
      · injection hv with h1
        injection h1 with h1
        subst h1
        have := own_prefix ho (Nat.zero_le _)
        simpa using this
  refine ⟨⟨?_, far _ _ _ h.fol (by decide), h.flen, row _ _ _ _ hnil (by decide), row _ _ _ _ h.out (by decide), h.pil.keep fun q Y hq => far _ _ _ hq (by decide), h.num, fun p hp => ?_, ?_, h.lo, h.vb⟩, ⟨(Below.refl _ _).setCell h.lo.1 _, fun q t Y hq h1 h2 h3 h4 h5 h6 => far q t Y hq h1, Recs.set _ _ _⟩, rfl, .inl hob⟩
  · have := h.st.set_ 8 (.slice X.Af 0 X.cf)
    have e : X.clean.head = X.head.setIfInBounds 8 (.slice X.Af 0 X.cf) := by simp [SX.head, SX.fv, SX.clean]
    rw [e]; exact this
  · obtain ⟨c1, c2, c3, c4⟩ := h.cl p hp
    exact ⟨far _ _ _ c1 (by decide), c2, row _ _ _ _ c3 (by decide), fun g hg => by rw [hfv, hob]; exact c4 g hg⟩
  · obtain ⟨D, n, hm, h2⟩ := h.map
    exact ⟨D, n, hm.kept (grown_setCell W _ _) (fun e => blk_map_ne7 h.st hm (by simpa using e.symm)), h2⟩
/-- what forget leaves -/
def Forgot (base : Nat) (X : SX) (W : World) (e : Ending) (W' : World) : Prop :=
  e = .returned (.tuple #[]) ∧ ∃ fo', Sto W' base X.clean fo' ∧ Fw X.clean fo' ∧ Tn base X W W' ∧ Later7 W X X.clean
set_option maxRecDepth 100000 in
set_option maxHeartbeats 1000000 in
theorem forget_any {W : World} {base : Nat} {X : SX} {fo : List Bool} (h : Sto W base X fo) (hf : Fw X fo) :
    Calls Tryz.prog 66 #[.pointer (some ⟨X.s, 0, none⟩)] W (Forgot base X W) := by
  have hfl := hf.len
  have hvb := h.vb
  have H := Lib.hid h
  have HF := Lib.hid hf
  have hs8 : W.cell? ⟨X.s, 8, none⟩ = some (.slice X.Af X.fd.length X.cf) := h.st.cell 8
  obtain ⟨n, hn⟩ : ∃ n, n = X.fd.length := ⟨_, rfl⟩
  rw [← hn] at hs8 hfl
  obtain ⟨A0, hA0⟩ : ∃ A0, A0 = X.Af := ⟨_, rfl⟩
  rw [← hA0] at hs8
  have HA0 := Lib.hid hA0
  have HN := Lib.hid hn
  clear h hf hn hA0
  go_enter Tryz.func66, Tryz.ntmps66
  go_wp2
  go_loopg [9] (n + 1) (fun gk i wr => ∃ (k : Nat) (fy : List Bool), k ≤ n ∧ gk = n - k + 1 ∧ i = .int .i64 k ∧ Hid (Sto wr base X fy) ∧ Hid (Tn base X W wr) ∧ Hid (∀ l, Lt7 X.V l → (fy.getD (ix l) false = true ↔ l ∈ X.fd.drop k)))
  case atStart => exact ⟨0, fo, by omega, by omega, rfl, H, Lib.hid (Tn.refl base X W), Lib.hid (by rw [List.drop_zero]; exact HF.out.tie)⟩
  case round =>
    obtain ⟨k, fy, hk, rfl, rfl, HS, HT, HTIE⟩ := hrel
    by_cases hlt : k < n
    · have hlt' : k < X.fd.length := by rw [← HN.out]; exact hlt
      obtain ⟨g, hv, hc⟩ := HS.out.foundcell hlt'
      unfold SX.fv at hv
      injection hv with hv1
      obtain ⟨_, hmem⟩ := take_snoc7 hlt'
      have hlx := HF.out.lt _ hmem
      have hdrop : X.fd.drop k = X.fd.getD k 0 :: X.fd.drop (k + 1) := by rw [List.drop_eq_getElem_cons hlt']; simp [List.getD, hlt']
      have hnd := HF.out.nd
      rw [← List.take_append_drop k X.fd, hdrop] at hnd
      obtain ⟨x, hx⟩ : ∃ x, x = X.fd.getD k 0 := ⟨_, rfl⟩
      rw [← hx] at hc hlx hdrop hnd
      have hxn : x ∉ X.fd.drop (k + 1) := fun hm => by
        rw [List.nodup_append] at hnd
        exact (List.nodup_cons.1 hnd.2.1).1 hm
      obtain ⟨e1, b1⟩ := ix_eq hlx
      obtain ⟨hl0, hl1, hl2⟩ := hlx
      have HI := Lib.hid (fun w => index_any x w (by omega) (by omega))
      rw [e1] at HI
      obtain ⟨c0, c5, c7, c8, cf⟩ := HS.out.cells
      obtain ⟨g1, g1f⟩ := HS.out.folcell b1
      obtain ⟨i, hi⟩ : ∃ i, i = ix x := ⟨_, rfl⟩
      obtain ⟨N, hN⟩ : ∃ N, N = 2 * X.V := ⟨_, rfl⟩
      rw [← hi] at HI b1 g1 g1f
      rw [← hN] at c7 b1
      have hb1 : (i : Int) < (N : Int) := by omega
      have HSF := Lib.hid (fun q : Nat => (HS.out.drewN q).setFol i false)
      have HDR := Lib.hid hdrop
      have HXN := Lib.hid hxn
      have HII := Lib.hid hi
      have HLX : Hid (Lt7 X.V x) := Lib.hid ⟨hl0, hl1, hl2⟩
      obtain rfl : A0 = some ⟨g, 0, none⟩ := HA0.out.trans hv1
      clear e1 c0 c5 c8 cf hi hN hmem hdrop hnd hxn hx hv1
      go_wp2
      go_region_law (first | (go_simp; go_at_call 88; refine (HI.out _).mono ?_; rintro e3 w3 ⟨rfl, rfl⟩))
      all_goals
        go_wp2_with fail
        go_roundg (n - k)
        case measure => omega
        case rel =>
          obtain ⟨a1, a2⟩ := HS.out.setFol i false
          refine ⟨k + 1, fy.set i false, by omega, by omega, by go_num, Lib.hid (a1.drewN 1), Lib.hid ((HT.out.trans a2 (Later7.refl _ _)).drewN 1), Lib.hid fun l hl => ?_⟩
          have ht := HTIE.out l hl
          rw [HDR.out] at ht
          by_cases e : l = x
          · subst e
            rw [← HII.out, getD_set_same (by rw [HS.out.flen, HII.out]; exact (ix_eq HLX.out).2)]
            exact ⟨fun h => (by cases h), fun h => absurd h HXN.out⟩
          · rw [getD_set_other (by rw [HII.out]; exact fun e2 => e (ix_inj hl HLX.out e2.symm)), ht]
            simp [e]
    · obtain rfl : k = n := by omega
      have hst := HS.out.st.cell 8
      have hsf := HS.out.st.frozen 8
      have HCL := Lib.hid HS.out.cleaned
      have d8 : wr.cell? ⟨X.s, 8, none⟩ = some (.slice A0 k X.cf) := by rw [HN.out, HA0.out]; exact hst
      clear hst
      have HNL : Hid (X.fd.drop k = []) := Lib.hid (List.drop_eq_nil_of_le (by have := HN.out; omega))
      go_wp2
      go_end0
      have hcl := HCL.out
      rw [← HA0.out] at hcl
      exact ⟨rfl, fy, hcl.1, ⟨HS.out.flen, fun l hl => (by have := HTIE.out l hl; rw [HNL.out] at this; exact this), List.nodup_nil, fun l hl => (by simp [SX.clean] at hl), fun l hl => (by simp [SX.clean] at hl)⟩, HT.out.trans hcl.2.1 (Later7.refl _ _), hcl.2.2.trans_of HT.out.below.size⟩
end Go.Proofs.YthcpfaahcncfjaaGreatDoor

namespace Go.Proofs.YthcpfaahcncfjaaGreatDoor
open Go.RowKit
set_option linter.unusedVariables false
set_option linter.unusedSimpArgs false

set_option maxRecDepth 100000 in
theorem foreign1_any {W : World} {base : Nat} {X : SX} {fo : List Bool} (h : Sto W base X fo) (x : Int) (sb : Nat) (h1 : -9223372036854775808 ≤ x) (h2 : x ≤ 9223372036854775807) (hs : Blk W sb 53 #[.pointer (some ⟨X.s, 0, none⟩)]) :
    Calls Tryz.prog 87 #[.int .i64 x, .pointer (some ⟨sb, 0, none⟩)] W fun e W' => e = .returned (.bool (!litRight x X.V)) ∧ ∃ q, W' = W.drewN q := by
  have hvb := h.vb
  obtain ⟨c0, c5, c7, c8, cf⟩ := h.cells
  have HJ := Lib.hid (fun w => right_any x X.V w h1 h2 (by omega) (by omega))
  have s0 := hs.cell 0
  simp at s0
  clear h hs c5 c7 c8 cf
  go_enter Tryz.func87, Tryz.ntmps87
  go_wp2_with (go_at_call 57; refine (HJ.out _).mono ?_; rintro e3 w3 ⟨rfl, rfl⟩)
  go_ret
  exact ⟨rfl, 0, rfl⟩

/-- is one of them none of the store's? -/
def foreign7 (V : Nat) (xs : List Int) : Bool := xs.any fun x => !litRight x V
theorem foreign7_no {V : Nat} {xs : List Int} (hV : V ≤ 100000) (h : foreign7 V xs = false) : ∀ x, x ∈ xs → Lt7 V x := fun x hx => by
  have := (List.any_eq_false.1 h) x hx
  have h2 : litRight x V = true := by simpa using this
  obtain ⟨a1, a2, a3, a4, a5⟩ := litRight_iff.1 h2
  exact ⟨a1, a4, a5⟩
theorem foreign7_yes {V : Nat} {xs : List Int} (hV : V ≤ 100000) : foreign7 V xs = false ↔ ∀ x, x ∈ xs → Lt7 V x :=
  ⟨foreign7_no hV, fun h => List.any_eq_false.2 fun x hx => by
    obtain ⟨a1, a2, a3⟩ := h x hx
    have : litRight x V = true := litRight_iff.2 ⟨a1, by omega, by omega, a2, a3⟩
    simp [this]⟩
/-- numbers of the machine's; others stand for themselves no longer -/
def clamp63 (x : Int) : Int := if -9223372036854775808 ≤ x ∧ x ≤ 9223372036854775807 then x else 0
theorem clamp63_in (x : Int) : -9223372036854775808 ≤ clamp63 x ∧ clamp63 x ≤ 9223372036854775807 := by unfold clamp63; split <;> omega
theorem any_congr7 {α : Type} {p q : α → Bool} : ∀ {xs : List α}, (∀ x, x ∈ xs → p x = q x) → xs.any p = xs.any q
  | [], _ => rfl
  | x :: r, h => by
    rw [List.any_cons, List.any_cons, h x (by simp), any_congr7 fun y hy => h y (by simp [hy])]
theorem somein_any {W : World} {base : Nat} {X : SX} {fo : List Bool} (h : Sto W base X fo) (sb : Nat) (hs : Blk W sb 53 #[.pointer (some ⟨X.s, 0, none⟩)])
    (xs : List Int) (hx : ∀ x, x ∈ xs → -9223372036854775808 ≤ x ∧ x ≤ 9223372036854775807) (hn : xs.length ≤ 1000000000) (B : Nat) (A : Option Addr) (c : Nat) (hi : Ints W B A xs) :
    Calls Tryz.prog 55 #[.slice A xs.length c, .func (.func 87) #[] #[.pointer (some ⟨sb, 0, none⟩)]] W fun e W' => e = .returned (.bool (foreign7 X.V xs)) ∧ ∃ q, W' = W.drewN q := by
  have eg : ∀ args w, (callFunc 87 args).run Tryz.prog w = .ok (.enter 87 args) w := enters_of Tryz.func87 (by kernel_rfl) rfl
  rcases Nat.eq_zero_or_pos xs.length with h0 | h0
  · obtain rfl : xs = [] := List.length_eq_zero_iff.1 h0
    exact (Tryz.slices_ContainsFunc_empty (α := Int) A c _ W).mono fun _ _ ⟨he, hw⟩ => ⟨he, 0, hw⟩
  · obtain ⟨b, off, rfl, _, hcell⟩ := hi h0
    have hp : PredAt Tryz.prog 87 #[.pointer (some ⟨sb, 0, none⟩)] (fun x : Int => Value.int .i64 (clamp63 x)) (fun x => !litRight (clamp63 x) X.V) W := fun W' x hb =>
      foreign1_any (h.below hb) (clamp63 x) sb (clamp63_in x).1 (clamp63_in x).2 (hs.below hb hs.lt)
    have h1 := Tryz.slices_ContainsFunc (fun x : Int => Value.int .i64 (clamp63 x)) (fun x => !litRight (clamp63 x) X.V) 87 #[.pointer (some ⟨sb, 0, none⟩)] eg b off xs.length c xs W hp (Nat.le_refl _) (by omega) (fun j hj => by
      rw [hcell j hj, getElem!_pos xs j hj]
      have hc : clamp63 xs[j] = xs[j] := by unfold clamp63; rw [if_pos (hx _ (List.getElem_mem hj))]
      rw [hc]
      simp [List.getD, hj])
    rw [List.take_length] at h1
    have e : (xs.any fun x => !litRight (clamp63 x) X.V) = foreign7 X.V xs := by
      apply any_congr7
      intro x hx'
      unfold clamp63
      rw [if_pos (hx x hx')]
    rw [e] at h1
    exact h1
set_option maxRecDepth 100000 in
set_option maxHeartbeats 1000000 in
theorem foreign_any {W : World} {base : Nat} {X : SX} {fo : List Bool} (h : Sto W base X fo)
    (xs : List Int) (hx : ∀ x, x ∈ xs → -9223372036854775808 ≤ x ∧ x ≤ 9223372036854775807) (hn : xs.length ≤ 1000000000) (B : Nat) (A : Option Addr) (c : Nat) (hi : Ints W B A xs) (hB : B ≤ W.heap.size) :
    Calls Tryz.prog 61 #[.pointer (some ⟨X.s, 0, none⟩), .slice A xs.length c] W fun e W' => e = .returned (.bool (foreign7 X.V xs)) ∧ Below W.heap.size W W' := by
  obtain ⟨wb, hwb⟩ : ∃ wb, wb = W.alloc (.cells #[.pointer (some ⟨X.s, 0, none⟩)] 53) := ⟨_, rfl⟩
  have hb : Below W.heap.size W wb := by rw [hwb]; exact (Below.refl _ _).alloc (Nat.le_refl _) _
  have hsb : Blk wb W.heap.size 53 #[.pointer (some ⟨X.s, 0, none⟩)] := by rw [hwb]; exact Blk.new W _ _
  have HC := Lib.hid (somein_any (h.below hb) W.heap.size hsb xs hx hn B A c (Cells.below hi (hb.mono hB)))
  have HB := Lib.hid hb
  have HWB := Lib.hid hwb
  clear h hx hi hb hsb hwb
  go_enter Tryz.func61, Tryz.ntmps61
  go_wp2_with (go_at_call 55; rw [← HWB.out]; refine HC.out.mono ?_; rintro e3 w3 ⟨rfl, q, rfl⟩)
  go_ret
  exact ⟨rfl, below_drewN HB.out q⟩

set_option maxRecDepth 100000 in
set_option maxHeartbeats 1000000 in
/-- the same as a deferred call -/
theorem forget_d {W : World} {base : Nat} {X : SX} {fo : List Bool} {u : FrameMode} (h : Sto W base X fo) (hf : Fw X fo) :
    CallsD Tryz.prog 66 #[.pointer (some ⟨X.s, 0, none⟩)] u W (fun e u' W' => u' = u ∧ Forgot base X W e W') := by
  have hfl := hf.len
  have hvb := h.vb
  have H := Lib.hid h
  have HF := Lib.hid hf
  have hs8 : W.cell? ⟨X.s, 8, none⟩ = some (.slice X.Af X.fd.length X.cf) := h.st.cell 8
  obtain ⟨n, hn⟩ : ∃ n, n = X.fd.length := ⟨_, rfl⟩
  rw [← hn] at hs8 hfl
  obtain ⟨A0, hA0⟩ : ∃ A0, A0 = X.Af := ⟨_, rfl⟩
  rw [← hA0] at hs8
  have HA0 := Lib.hid hA0
  have HN := Lib.hid hn
  clear h hf hn hA0
  go_enter_d Tryz.func66, Tryz.ntmps66
  go_wp2
  go_loopg [9] (n + 1) (fun gk i wr => ∃ (k : Nat) (fy : List Bool), k ≤ n ∧ gk = n - k + 1 ∧ i = .int .i64 k ∧ Hid (Sto wr base X fy) ∧ Hid (Tn base X W wr) ∧ Hid (∀ l, Lt7 X.V l → (fy.getD (ix l) false = true ↔ l ∈ X.fd.drop k)))
  case atStart => exact ⟨0, fo, by omega, by omega, rfl, H, Lib.hid (Tn.refl base X W), Lib.hid (by rw [List.drop_zero]; exact HF.out.tie)⟩
  case round =>
    obtain ⟨k, fy, hk, rfl, rfl, HS, HT, HTIE⟩ := hrel
    by_cases hlt : k < n
    · have hlt' : k < X.fd.length := by rw [← HN.out]; exact hlt
      obtain ⟨g, hv, hc⟩ := HS.out.foundcell hlt'
      unfold SX.fv at hv
      injection hv with hv1
      obtain ⟨_, hmem⟩ := take_snoc7 hlt'
      have hlx := HF.out.lt _ hmem
      have hdrop : X.fd.drop k = X.fd.getD k 0 :: X.fd.drop (k + 1) := by rw [List.drop_eq_getElem_cons hlt']; simp [List.getD, hlt']
      have hnd := HF.out.nd
      rw [← List.take_append_drop k X.fd, hdrop] at hnd
      obtain ⟨x, hx⟩ : ∃ x, x = X.fd.getD k 0 := ⟨_, rfl⟩
      rw [← hx] at hc hlx hdrop hnd
      have hxn : x ∉ X.fd.drop (k + 1) := fun hm => by
        rw [List.nodup_append] at hnd
        exact (List.nodup_cons.1 hnd.2.1).1 hm
      obtain ⟨e1, b1⟩ := ix_eq hlx
      obtain ⟨hl0, hl1, hl2⟩ := hlx
      have HI := Lib.hid (fun w => index_any x w (by omega) (by omega))
      rw [e1] at HI
      obtain ⟨c0, c5, c7, c8, cf⟩ := HS.out.cells
      obtain ⟨g1, g1f⟩ := HS.out.folcell b1
      obtain ⟨i, hi⟩ : ∃ i, i = ix x := ⟨_, rfl⟩
      obtain ⟨N, hN⟩ : ∃ N, N = 2 * X.V := ⟨_, rfl⟩
      rw [← hi] at HI b1 g1 g1f
      rw [← hN] at c7 b1
      have hb1 : (i : Int) < (N : Int) := by omega
      have HSF := Lib.hid (fun q : Nat => (HS.out.drewN q).setFol i false)
      have HDR := Lib.hid hdrop
      have HXN := Lib.hid hxn
      have HII := Lib.hid hi
      have HLX : Hid (Lt7 X.V x) := Lib.hid ⟨hl0, hl1, hl2⟩
      obtain rfl : A0 = some ⟨g, 0, none⟩ := HA0.out.trans hv1
      clear e1 c0 c5 c8 cf hi hN hmem hdrop hnd hxn hx hv1
      go_wp2
      go_region_law (first | (go_simp; go_at_call 88; refine (HI.out _).mono ?_; rintro e3 w3 ⟨rfl, rfl⟩))
      all_goals
        go_wp2_with fail
        go_roundg (n - k)
        case measure => omega
        case rel =>
          obtain ⟨a1, a2⟩ := HS.out.setFol i false
          refine ⟨k + 1, fy.set i false, by omega, by omega, by go_num, Lib.hid (a1.drewN 1), Lib.hid ((HT.out.trans a2 (Later7.refl _ _)).drewN 1), Lib.hid fun l hl => ?_⟩
          have ht := HTIE.out l hl
          rw [HDR.out] at ht
          by_cases e : l = x
          · subst e
            rw [← HII.out, getD_set_same (by rw [HS.out.flen, HII.out]; exact (ix_eq HLX.out).2)]
            exact ⟨fun h => (by cases h), fun h => absurd h HXN.out⟩
          · rw [getD_set_other (by rw [HII.out]; exact fun e2 => e (ix_inj hl HLX.out e2.symm)), ht]
            simp [e]
    · obtain rfl : k = n := by omega
      have hst := HS.out.st.cell 8
      have hsf := HS.out.st.frozen 8
      have HCL := Lib.hid HS.out.cleaned
      have d8 : wr.cell? ⟨X.s, 8, none⟩ = some (.slice A0 k X.cf) := by rw [HN.out, HA0.out]; exact hst
      clear hst
      have HNL : Hid (X.fd.drop k = []) := Lib.hid (List.drop_eq_nil_of_le (by have := HN.out; omega))
      go_wp2
      go_end0
      have hcl := HCL.out
      rw [← HA0.out] at hcl
      exact ⟨rfl, fy, hcl.1, ⟨HS.out.flen, fun l hl => (by have := HTIE.out l hl; rw [HNL.out] at this; exact this), List.nodup_nil, fun l hl => (by simp [SX.clean] at hl), fun l hl => (by simp [SX.clean] at hl)⟩, HT.out.trans hcl.2.1 (Later7.refl _ _), hcl.2.2.trans_of HT.out.below.size⟩
end Go.Proofs.YthcpfaahcncfjaaGreatDoor

namespace Go.Proofs.YthcpfaahcncfjaaGreatDoor
open Go.RowKit
set_option linter.unusedVariables false
set_option linter.unusedSimpArgs false

theorem nodup_same7 {xs : List Int} (h : xs.Nodup) : ∀ {zs : List Int}, (∀ y, y ∈ zs ↔ y ∈ xs) → zs.length = xs.length → zs.Nodup := fun {zs} hm hl => by
  rw [List.nodup_iff_pairwise_ne, List.pairwise_iff_getElem]
  intro i j hi hj hij e
  have h1 := nodup_len (a := xs) (b := zs.eraseIdx j) h fun x hx => by
    obtain ⟨k, hk, rfl⟩ := List.mem_iff_getElem.1 ((hm x).2 hx)
    rw [List.mem_eraseIdx_iff_getElem]
    by_cases hkj : k = j
    · subst hkj; exact ⟨i, hi, by omega, e⟩
    · exact ⟨k, hk, hkj, rfl⟩
  rw [List.length_eraseIdx] at h1
  rw [if_pos hj] at h1
  omega

theorem rising_of7 {V : Nat} {zs : List Int} (h : zs.Pairwise fun x y => litIndex x ≤ litIndex y) (hn : zs.Nodup) (hl : ∀ x, x ∈ zs → Lt7 V x) : Rising zs := by
  unfold Rising
  rw [List.nodup_iff_pairwise_ne, List.pairwise_iff_getElem] at hn
  rw [List.pairwise_iff_getElem] at h ⊢
  intro i j hi hj hij
  have h1 := h i j hi hj hij
  have h2 := hn i j hi hj hij
  obtain ⟨a1, a2, a3⟩ := hl _ (List.getElem_mem hi)
  obtain ⟨b1, b2, b3⟩ := hl _ (List.getElem_mem hj)
  unfold litIndex at h1 ⊢
  split at h1 <;> split at h1 <;> rename_i c1 c2 <;> simp only [c1, c2, if_true, if_false] <;> omega

/-- the clauses by their numbers, in normal form, by their keys -/
structure Shelf7 (X : SX) : Prop where
  shnd : (X.pss.getD (2 * X.V + 1) []).Nodup
  all : X.pss.getD (2 * X.V) [] = X.ps
  nums : X.ps.Pairwise fun p q => (X.C p).num < (X.C q).num
  numlt : ∀ p, p ∈ X.ps → (X.C p).num < X.added
  ng : X.ng + X.live.length = X.ps.length
  norm : ∀ p, p ∈ X.ps → Rising (X.C p).lits
  keys : ∀ i k, X.ks[i]? = some k → (X.pss.getD (2 * X.V + 2 + i) []).drop (X.ko i) = X.live.filter (fun p => decide (keyOf (X.C p).lits = k)) ∧ X.ko i ≤ (X.pss.getD (2 * X.V + 2 + i) []).length
  keyed : ∀ p, p ∈ X.live → keyOf (X.C p).lits ∈ X.ks
  klen : ∀ i, i < X.ks.length → (X.pss.getD (2 * X.V + 2 + i) []).length ≤ X.tk

/-- a store between calls -/
structure Rest7 (W : World) (base : Nat) (X : SX) (fo : List Bool) : Prop where
  sto : Sto W base X fo
  wf : Wfs X
  fw : Fw X fo
  fd : X.fd = []
  short : Short X
  shelf : Shelf7 X

theorem Rest7.shn {W : World} {base : Nat} {X : SX} {fo : List Bool} (h : Rest7 W base X fo) : (X.pss.getD (2 * X.V + 1) []).length ≤ 1000000000 := Nat.le_trans (nodup_len7 h.shelf.shnd fun p hp => (h.short.1 p hp).1) h.wf.plen

theorem Rest7.below {W W' : World} {base : Nat} {X : SX} {fo : List Bool} (h : Rest7 W base X fo) (hb : Below W.heap.size W W') : Rest7 W' base X fo := ⟨h.sto.below hb, h.wf, h.fw, h.fd, h.short, h.shelf⟩

theorem Shelf7.same {X X' : SX} (h : Shelf7 X) (hs : Same7 X X') : Shelf7 X' := by
  have hlive := hs.live
  obtain ⟨m1, m2, m3, m4⟩ := hs.more
  have hi := fun j hj => (hs.high j hj).2
  refine ⟨?_, ?_, ?_, fun p hp => ?_, ?_, fun p hp => ?_, fun i k hk => ?_, fun p hp => ?_, fun i hik => ?_⟩
  · rw [hs.V, hi _ (by omega)]; exact h.shnd
  · rw [hs.V, hi _ (by omega), hs.ps]; exact h.all
  · rw [hs.ps]; exact h.nums.imp fun hlt => by rw [(hs.gn _).2, (hs.gn _).2]; exact hlt
  · rw [hs.ps] at hp; rw [(hs.gn p).2, m1]; exact h.numlt p hp
  · rw [m2, hlive, hs.ps]; exact h.ng
  · rw [hs.ps] at hp; rw [hs.lits]; exact h.norm p hp
  · rw [hs.ks] at hk
    rw [hs.V, hi _ (by omega), m3, hlive]
    obtain ⟨h1, h2⟩ := h.keys i k hk
    exact ⟨h1.trans (List.filter_congr fun p _ => by rw [hs.lits]), h2⟩
  · rw [hlive] at hp; rw [hs.lits, hs.ks]; exact h.keyed p hp
  · rw [hs.ks] at hik; rw [hs.V, hi _ (by omega), m4]; exact h.klen i hik

theorem Shelf7.clean {X : SX} (h : Shelf7 X) : Shelf7 X.clean := ⟨h.shnd, h.all, h.nums, h.numlt, h.ng, h.norm, h.keys, h.keyed, h.klen⟩

theorem Rest7.again {W W' : World} {base : Nat} {X X' : SX} {fo fo' : List Bool} (h : Rest7 W base X fo) (hs : Same7 X X') (hw : Wfs X') (hS : Sto W' base X'.clean fo') (hf : Fw X'.clean fo') : Rest7 W' base X'.clean fo' := by
  have hh := (hs.high (2 * X.V + 1) (by omega)).2
  refine ⟨hS, ⟨hw.cl, hw.plen, hw.pile⟩, hf, rfl, ⟨fun p => ?_, fun p => ?_⟩, (h.shelf.same hs).clean⟩
  · show p ∈ X'.pss.getD (2 * X'.V + 1) [] → p ∈ X'.ps ∧ (X'.C p).lits.length < 2
    rw [hs.V, hh, hs.ps, hs.lits]; exact h.short.1 p
  · show p ∈ X'.ps → (X'.C p).gone = false → (X'.C p).lits.length < 2 → p ∈ X'.pss.getD (2 * X'.V + 1) []
    rw [hs.V, hh, hs.ps, hs.lits, (hs.gn p).1]; exact h.short.2 p

/-- what no call but those that add turns -/
structure SameR (X X' : SX) : Prop where
  s : X'.s = X.s
  m : X'.m = X.m
  fb : X'.fb = X.fb
  V : X'.V = X.V
  ps : X'.ps = X.ps
  ks : X'.ks = X.ks
  lits : ∀ p, (X'.C p).lits = (X.C p).lits
  cs : X'.cs = X.cs
  gn : ∀ p, (X'.C p).gone = (X.C p).gone ∧ (X'.C p).num = (X.C p).num
  more : X'.added = X.added ∧ X'.ng = X.ng ∧ X'.ko = X.ko ∧ X'.tk = X.tk

theorem SameR.refl (X : SX) : SameR X X := ⟨rfl, rfl, rfl, rfl, rfl, rfl, fun _ => rfl, rfl, fun _ => ⟨rfl, rfl⟩, rfl, rfl, rfl, rfl⟩

theorem Same7.rest {X X' : SX} (h : Same7 X X') : SameR X X'.clean := ⟨h.s, h.m, h.fb, h.V, h.ps, h.ks, h.lits, h.cs, h.gn, h.more⟩

/-- Follow's answer -/
def FollowP (base : Nat) (X : SX) (L : List Int) (W : World) (e : Ending) (W' : World) : Prop :=
  ∃ (X' : SX) (fo' : List Bool) (ok : Bool) (r : List Int) (A : Option Addr) (c : Nat), e = .returned (.tuple #[.slice A r.length c, .bool ok]) ∧ Rest7 W' base X' fo' ∧ Tn base X W W' ∧ Later7 W X X' ∧ SameR X X' ∧ r.length ≤ 1000000000 ∧
    Apart W' X' W.heap.size A c r ∧ (foreign7 X.V L = true → ok = false ∧ r = []) ∧ (foreign7 X.V L = false → Told X.cs L r ok ∧ Rising r ∧ ∀ x, x ∈ r → Lt7 X.V x)

theorem apart_nil {W : World} {X : SX} {b0 : Nat} : Apart W X b0 none 0 [] := ⟨World.ownsRow_nil _ _ _ _, fun g hg => (by simp [Value.ownBlock] at hg)⟩

theorem Apart.ints {W : World} {X : SX} {b0 c : Nat} {A : Option Addr} {L : List Int} (h : Apart W X b0 A c L) : Ints W W.heap.size A L := by
  intro hn
  obtain ⟨b, off, e, hb, hc⟩ := cells_of_own h.own (.int .i64 0) hn
  refine ⟨b, off, e, hb, fun j hj => ?_⟩
  rw [hc j hj]
  simp [List.getD, hj]

theorem Apart.under {W W' : World} {X : SX} {b0 c : Nat} {A : Option Addr} {L : List Int} (h : Apart W X b0 A c L) (hb : Below W.heap.size W W') : Apart W' X b0 A c L := ⟨own_below h.own hb fun g hg => (h.own.lt g hg).2, h.ne⟩

theorem Later7.from_ {W W' : World} {X X' : SX} (h : Later7 W' X X') (hs : W.heap.size ≤ W'.heap.size) : Later7 W X X' := ⟨h.1, h.2.imp id fun e g hg => Nat.le_trans hs (e g hg)⟩

/-- what was found, in a row of its own, sorted -/
theorem sort_any7 {X : SX} {fo : List Bool} {w4 w5 : World} {A1 : Option Addr} {c1 : Nat} (hf : Fw X fo) (hown : w5.ownsRow w4.heap.size 3 1 (.slice A1 X.fd.length c1) X.fd.length (X.fd.map (Value.int .i64))) (hb : Below w4.heap.size w4 w5) (hv : X.V ≤ 100000) :
    Calls Tryz.prog 81 #[.slice A1 X.fd.length c1, .func (.func 82) #[] #[]] w5 fun e w6 => e = .returned (.tuple #[]) ∧
      ∃ zs : List Int, (∀ y, y ∈ zs ↔ y ∈ X.fd) ∧ zs.length = X.fd.length ∧ (zs.Pairwise fun x y => litIndex x ≤ litIndex y) ∧ w6.ownsRow w4.heap.size 3 1 (.slice A1 X.fd.length c1) X.fd.length (zs.map (Value.int .i64)) ∧ Below w4.heap.size w4 w6 := by
  have hl := hf.len
  rcases Nat.eq_zero_or_pos X.fd.length with h0 | h0
  · have hnil : X.fd = [] := List.length_eq_zero_iff.1 h0
    rw [hnil] at hown ⊢
    exact (Tryz.slices_SortFunc_none (α := Int) _ _ _ _).mono fun e w6 ⟨h1, h2⟩ => ⟨h1, [], fun _ => Iff.rfl, rfl, List.Pairwise.nil, by rw [h2]; exact hown, by rw [h2]; exact hb⟩
  · obtain ⟨g, rfl, hg1, hg2⟩ := own_addr hown h0
    refine (sort_own_any X.fd (fun x hx => by obtain ⟨a1, a2, a3⟩ := hf.lt x hx; omega) w4.heap.size g c1 w5 (by omega) hown).mono ?_
    rintro e w6 ⟨rfl, zs, hmem, hlen, hs, hown2, hbs⟩
    exact ⟨rfl, zs, hmem, hlen, hs, hown2, hbs _ _ hb hg1 (Nat.le_refl _)⟩

end Go.Proofs.YthcpfaahcncfjaaGreatDoor

namespace Go.Proofs.YthcpfaahcncfjaaGreatDoor
open Go.RowKit
set_option linter.unusedVariables false
set_option linter.unusedSimpArgs false

theorem made_zeros7 (n : Nat) : (madeCells (Value.int .i64 0).cells (n * 1)).toList = (List.replicate n (0 : Int)).map (Value.int .i64) := by
  apply List.ext_getElem
  · simp [madeCells]
  · intro i h1 h2
    simp [madeCells, Value.cells, Nat.mod_one]
/-- the first k negations, noughts behind them -/
def negTo (L : List Int) (k : Nat) : List Int := negs (L.take k) ++ List.replicate (L.length - k) 0
theorem negTo_zero (L : List Int) : negTo L 0 = List.replicate L.length 0 := by simp [negTo, negs]
theorem negTo_all (L : List Int) : negTo L L.length = negs L := by simp [negTo]
theorem negTo_len (L : List Int) {k : Nat} (h : k ≤ L.length) : (negTo L k).length = L.length := by simp [negTo, negs]; omega
theorem negTo_step (L : List Int) {k : Nat} (h : k < L.length) : ((negTo L k).map (Value.int .i64)).set k (.int .i64 (-(L.getD k 0))) = (negTo L (k + 1)).map (Value.int .i64) := by
  rw [← List.map_set]
  congr 1
  unfold negTo negs
  obtain ⟨h1, _⟩ := take_snoc7 h
  have hr : List.replicate (L.length - k) (0 : Int) = 0 :: List.replicate (L.length - (k + 1)) 0 := by
    rw [← List.replicate_succ]; congr 1; omega
  rw [h1, hr, List.set_append_right _ _ (by simp; omega)]
  simp [Nat.min_eq_left (Nat.le_of_lt h)]
/-- Implied's answer -/
def ImpliedP (base : Nat) (X : SX) (L : List Int) (W : World) (e : Ending) (W' : World) : Prop :=
  ∃ (X' : SX) (fo' : List Bool) (b : Bool), e = .returned (.bool b) ∧ Rest7 W' base X' fo' ∧ Tn base X W W' ∧ Later7 W X X' ∧ SameR X X' ∧ (b = true ↔ foreign7 X.V L = false ∧ Clash X.cs (negs L))
set_option maxRecDepth 100000 in
set_option maxHeartbeats 1000000 in
theorem implied_any7 {W : World} {base b0 c : Nat} {X : SX} {fo : List Bool} {L : List Int} {A : Option Addr} (h : Rest7 W base X fo) (hA : Apart W X b0 A c L) (hx : ∀ x, x ∈ L → -9223372036854775808 ≤ x ∧ x ≤ 9223372036854775807) (hn : L.length ≤ 1000000000) :
    Calls Tryz.prog 45 #[.pointer (some ⟨X.s, 0, none⟩), .slice A L.length c] W (ImpliedP base X L W) := by
  have hvb := h.sto.vb
  have hB : base ≤ W.heap.size := by have := h.sto.lo.1; have := h.sto.st.lt; omega
  have HF := Lib.hid (foreign_any h.sto L hx hn W.heap.size A c hA.ints (Nat.le_refl _))
  have H := Lib.hid h
  have HA := Lib.hid hA
  obtain ⟨i0, hi, hz0, hz1, hz2⟩ := info_parts Tryz.infoInt3
  cases hfo : foreign7 X.V L with
  | true =>
    rw [hfo] at HF
    clear h hA hx
    go_enter_defers Tryz.func45, Tryz.ntmps45
    go_wp2_with (go_at_call 61; refine HF.out.mono ?_; rintro e3 w3 ⟨rfl, hb3⟩; have HB3 := Lib.hid hb3; clear hb3)
    refine ⟨_, results_tmp rfl _ _ _, ?_⟩
    exact ⟨X, fo, false, rfl, H.out.below HB3.out, Tn.of_below HB3.out hB, Later7.refl _ _, SameR.refl _, ⟨fun e => (by cases e), fun e => (by cases e.1.symm.trans hfo)⟩⟩
  | false =>
    rw [hfo] at HF
    have HL := Lib.hid (foreign7_no hvb hfo)
    have HFO := Lib.hid hfo
    clear h hA hx hfo
    go_enter_defers Tryz.func45, Tryz.ntmps45
    go_wp2_with (first | (go_at_call 61; refine HF.out.mono ?_; rintro e3 w3 ⟨rfl, hb3⟩; have HB2 := Lib.hid hb3; clear hb3) | (at_make; refine wpList_make_full _ rfl _ _ 55 rfl w3.heap.size 3 i0 (.int .i64 0) 1 Tryz.underlying55 hi hz0 hz1 .i64 .i64 _ _ L.length rfl rfl rfl rfl (by rw [hz2]; omega) (by unfold maxLen; omega) (Nat.le_refl _) ?_; intro w4 hown4 hg4; have HOW := Lib.hid (show w4.ownsRow w3.heap.size 3 1 (.slice (some ⟨w3.heap.size, 0, none⟩) L.length L.length) L.length ((negTo L 0).map (Value.int .i64)) by rw [negTo_zero, ← made_zeros7]; exact hown4); have HB4 := Lib.hid (show Below w3.heap.size w3 w4 from ⟨hg4.os, hg4.tape, hg4.output, hg4.size, fun k hk => hg4.block k hk (by simp)⟩); clear hown4 hg4))
    go_loopg [16] (L.length + 1) (fun gk i wr => ∃ k : Nat, k ≤ L.length ∧ gk = L.length - k + 1 ∧ i = .int .i64 k ∧ Hid (wr.ownsRow w3.heap.size 3 1 (.slice (some ⟨w3.heap.size, 0, none⟩) L.length L.length) L.length ((negTo L k).map (Value.int .i64))) ∧ Hid (Below w3.heap.size w3 wr))
    case atStart => exact ⟨0, by omega, by omega, rfl, HOW, HB4⟩
    case round =>
      obtain ⟨k, hk, rfl, rfl, HO, HBR⟩ := hrel
      clear HOW HB4
      have HBW := Lib.hid (HB2.out.trans (HBR.out.mono HB2.out.size))
      by_cases hlt : k < L.length
      · obtain ⟨b', off', rfl, hb', hcj⟩ := (Cells.below HA.out.ints HBW.out).at_ hlt
        obtain ⟨x1, x2, x3⟩ := HL.out _ (take_snoc7 hlt).2
        have HST := Lib.hid (negTo_step L hlt)
        obtain ⟨x, hx⟩ : ∃ x, x = L.getD k 0 := ⟨_, rfl⟩
        rw [← hx] at hcj x1 x2 x3 HST
        have hwx : IntKind.i64.wrap (-x) = -x := IntWalk.i64_in _ (by omega)
        obtain ⟨Y, hY⟩ := own_blk7 HO.out
        have hfz := hY.frozen k
        have hck : ∃ v, wr.cell? ⟨w3.heap.size, k, none⟩ = some v := ⟨_, (World.ownsRow.cellAt HO.out k (by omega)).trans (List.getElem?_eq_getElem (by rw [List.length_map, negTo_len L hk]; exact hlt))⟩
        obtain ⟨v0, hv0⟩ := hck
        have HPUT := Lib.hid (own_putv HO.out k (.int .i64 (-x)))
        rw [HST.out] at HPUT
        clear hx hY
        go_wp2
        go_roundg (L.length - k)
        case measure => omega
        case rel => exact ⟨k + 1, by omega, by omega, by go_num, HPUT, Lib.hid (HBR.out.setCell (Nat.le_refl _) _)⟩
      · obtain rfl : k = L.length := by omega
        rw [negTo_all] at HO
        have hln : (negs L).length = L.length := by simp [negs]
        have hbw : base ≤ wr.heap.size := Nat.le_trans hB HBW.out.size
        have hap : Apart wr X w3.heap.size (some ⟨w3.heap.size, 0, none⟩) L.length (negs L) := ⟨by rw [hln]; exact HO.out, fun g hg e => by
          have h1 : w3.heap.size = g := by simpa [Value.ownBlock] using hg
          have h2 := (H.out.sto.fnd.lt g e).2
          have h3 := HB2.out.size
          omega⟩
        have hRW := H.out.below HBW.out
        have HSP := Lib.hid (spread_any hRW.sto hRW.wf hRW.fw hRW.fd hRW.short hRW.shn hap (fun x hx => by obtain ⟨y, hy, rfl⟩ := List.mem_map.1 hx; exact (HL.out y hy).neg) (by rw [hln]; exact hn))
        rw [hln] at HSP
        have HTW := Lib.hid (Tn.of_below (X := X) HBW.out hB)
        clear hap hRW hln
        go_wp2_with (go_at_call 67; refine HSP.out.mono ?_)
        rintro e5 w5 ⟨Z, fz, b, rfl, hS, hT, hLat, hSame, hFw, hWf, hyes, hno⟩
        have HFG := Lib.hid (forget_d (u := .returning) hS hFw)
        rw [hSame.s] at HFG
        have HT := Lib.hid (show Tn base X W w5 from HTW.out.trans hT (Later7.refl _ _))
        have HLA := Lib.hid (show Later7 W X Z from hLat.from_ HBW.out.size)
        have HSA := Lib.hid hSame
        have HWF := Lib.hid hWf
        have HY := Lib.hid hyes
        have HN := Lib.hid hno
        have HSZ := Lib.hid (Nat.le_trans HBW.out.size hT.below.size)
        clear hS hT hLat hSame hFw hWf hyes hno
        go_wp2
        refine leaves_cons (f := 66) (args := #[.pointer (some ⟨X.s, 0, none⟩)]) (by simp) (by simp [go_sem]) ?_
        refine HFG.out.mono ?_
        rintro e6 u6 w6 ⟨rfl, hfg⟩
        obtain ⟨rfl, fo6, hS6, hF6, hT6, hL6⟩ := hfg
        refine ⟨_, results_tmp rfl _ _ _, ?_⟩
        refine ⟨Z.clean, fo6, !b, rfl, H.out.again HSA.out HWF.out hS6 hF6, HT.out.trans hT6 HLA.out, HLA.out.trans hL6 HSZ.out, HSA.out.rest, ?_⟩
        rw [← HSA.out.cs]
        cases b with
        | true => exact ⟨fun e => (by cases e), fun e => absurd e.2 ((HY.out rfl).yes rfl).1⟩
        | false => exact ⟨fun _ => ⟨HFO.out, HN.out rfl⟩, fun _ => rfl⟩
end Go.Proofs.YthcpfaahcncfjaaGreatDoor

namespace Go.Proofs.YthcpfaahcncfjaaGreatDoor
open Go.RowKit
set_option linter.unusedVariables false
set_option linter.unusedSimpArgs false

theorem infoRow7 : (Tryz.prog.info? 113).map (fun i => (i.zero, i.size, i.bytes)) = some (some (.slice none 0 0), 1, 24) := by kernel_rfl
theorem infoBool7 : (Tryz.prog.info? 4).map (fun i => (i.zero, i.size, i.bytes)) = some (some (.bool false), 1, 1) := by kernel_rfl
/-- a store without clauses -/
def SX.new (s m fb V : Nat) (wb : Nat) : SX := { s := s, m := m, fb := fb, V := V, Aw := some ⟨wb, 0, none⟩, cw := 2 * V, vs := List.replicate (2 * V + 2) (.slice none 0 0), pss := List.replicate (2 * V + 2) [], ps := [], C := fun _ => ⟨0, none, 0, [], 0, 0, 0, false⟩, added := 0, ng := 0, ko := fun _ => 0, tk := 0, ks := [], Af := none, cf := 0, fd := [] }
theorem below_drew7 {B : Nat} {a w : World} (h : Below B a w) : Below B a w.drew := ⟨h.os, h.tape, h.output, h.size, h.block⟩
theorem made_list7 (z : Value) (n : Nat) : (madeCells #[z] n).toList = List.replicate n z := by
  apply List.ext_getElem
  · simp [madeCells]
  · intro i h1 h2
    simp [madeCells, Nat.mod_one]
theorem own_made7 {W : World} {base g n : Nat} {e : TypeId} {z : Value} (h : Blk W g e (madeCells #[z] n)) (hg : base ≤ g) (hn : n ≤ 1000000) : W.ownsRow base e 1 (.slice (some ⟨g, 0, none⟩) n n) n (List.replicate n z) :=
  ⟨by simp, .inr ⟨g, n, _, rfl, hg, h, Nat.le_refl _, by unfold maxLen; omega, by rw [← Array.length_toList, made_list7]; simp, by rw [made_list7]; simp⟩⟩
theorem getD_rep7 {α : Type} (x d : α) (n i : Nat) : (List.replicate n x).getD i d = if i < n then x else d := by
  simp only [List.getD, List.getElem?_replicate]
  split <;> rfl
theorem new_rest7 {W W' : World} {V s m fb wb : Nat} (hV : V ≤ 100000) (hs : Blk W' s 117 #[.int .i64 V, .int .i64 0, .int .i64 0, .slice none 0 0, .slice none 0 0, .slice (some ⟨wb, 0, none⟩) (2 * V) (2 * V), .map (some m), .slice (some ⟨fb, 0, none⟩) (2 * V) (2 * V), .slice none 0 0])
    (hw : Blk W' wb 113 (madeCells #[.slice none 0 0] (2 * V))) (hf : Blk W' fb 4 (madeCells #[.bool false] (2 * V))) (hm0 : W'.heap[m]? = some (.map #[] 0)) (l1 : W.heap.size ≤ s) (l2 : W.heap.size ≤ m) (l3 : W.heap.size ≤ fb) (l4 : W.heap.size ≤ wb) :
    Rest7 W' W.heap.size (SX.new s m fb V wb) (List.replicate (2 * V) false) := by
  have hm : W'.ownsMap Tryz.prog 9 heldE m 0 (.map []) := ⟨#[], 0, hm0, ⟨by simp, Go.MapKept.stamped_empty 0, by simp⟩, Nat.le_refl _, rfl⟩
  have hvs : ∀ j, (SX.new s m fb V wb).vs.getD j undef = if j < 2 * V + 2 then .slice none 0 0 else undef := fun j => getD_rep7 _ _ _ _
  have hps : ∀ j, (SX.new s m fb V wb).pss.getD j [] = [] := fun j => by
    show (List.replicate (2 * V + 2) []).getD j [] = []
    rw [getD_rep7]; split <;> rfl
  have hfr : ∀ j, (List.replicate (2 * V) false).getD j false = false := fun j => by rw [getD_rep7]; split <;> rfl
  refine ⟨⟨?_, ?_, by simp [SX.new], World.ownsRow_nil _ _ _ _, ?_, ⟨by simp [SX.new], fun j hj => ?_, fun i j g hij hi hj h1 h2 => ?_⟩, ⟨by simp [SX.new], List.nodup_nil⟩, fun p hp => (by simp [SX.new] at hp), ⟨_, 0, hm, Nat.zero_le _, Maps.isMap_empty, fun k => ?_⟩, ⟨l1, l3, l2⟩, hV⟩,
    ⟨fun p hp => (by simp [SX.new] at hp), by simp [SX.new], fun j hj => ?_⟩, ⟨by simp [SX.new], fun l hl => ?_, List.nodup_nil, fun l hl => (by simp [SX.new] at hl), fun l hl => (by simp [SX.new] at hl)⟩, rfl, ⟨fun p hp => ?_, fun p hp => (by simp [SX.new] at hp)⟩, ⟨?_, ?_, List.Pairwise.nil, fun p hp => (by simp [SX.new] at hp), rfl, fun p hp => (by simp [SX.new] at hp), fun i k hk => (by simp [SX.new] at hk), fun p hp => (by simp [SX.new, SX.live] at hp), fun i hi => (by simp [SX.new] at hi)⟩⟩
  · have e : (SX.new s m fb V wb).head = #[.int .i64 V, .int .i64 0, .int .i64 0, .slice none 0 0, .slice none 0 0, .slice (some ⟨wb, 0, none⟩) (2 * V) (2 * V), .map (some m), .slice (some ⟨fb, 0, none⟩) (2 * V) (2 * V), .slice none 0 0] := by
      unfold SX.head
      rw [show (SX.new s m fb V wb).V = V from rfl, hvs, hvs, if_pos (by omega), if_pos (by omega)]
      rfl
    rw [e]; exact hs
  · have e : ((List.replicate (2 * V) false).map Value.bool).toArray = madeCells #[.bool false] (2 * V) := by
      rw [List.map_replicate, ← made_list7]
    rw [e]; exact hf
  · have e : (SX.new s m fb V wb).vs.take (2 * (SX.new s m fb V wb).V) = List.replicate (2 * V) (.slice none 0 0) := by
      show (List.replicate (2 * V + 2) _).take (2 * V) = _
      rw [List.take_replicate]; congr 1; omega
    rw [e]
    exact own_made7 hw l4 (by show 2 * V ≤ 1000000; omega)
  · rw [hvs, hps]
    have hj2 : j < 2 * V + 2 := by simpa [SX.new] using hj
    rw [if_pos hj2]
    exact ⟨none, 0, rfl, World.ownsRow_nil _ _ _ _⟩
  · rw [hvs] at h1
    split at h1 <;> simp [Value.ownBlock, undef] at h1
  · simp [SX.new, DataW.atKey]
  · rw [hps]
    exact ⟨List.nodup_nil, fun p h => (by simp at h), fun p h => (by simp [SX.new] at h)⟩
  · rw [hfr]
    exact ⟨fun h => (by cases h), fun h => (by simp [SX.new] at h)⟩
  · rw [hps] at hp
    simp at hp
  · rw [hps]; exact List.nodup_nil
  · rw [hps]; rfl
set_option maxRecDepth 100000 in
set_option maxHeartbeats 1000000 in
theorem new_any7 (V : Nat) (hV : V ≤ 100000) (W : World) :
    Calls Tryz.prog 42 #[.int .i64 V] W fun e W' => ∃ (s m fb wb : Nat), e = .returned (.pointer (some ⟨s, 0, none⟩)) ∧ Rest7 W' W.heap.size (SX.new s m fb V wb) (List.replicate (2 * V) false) ∧ Below W.heap.size W W' := by
  have hmm := @run_makeMap Tryz.prog
  obtain ⟨N, hN⟩ : ∃ N, N = 2 * V := ⟨_, rfl⟩
  have hN2 : (2 * (V : Int)) = (N : Int) := by omega
  have hw1 : IntKind.i64.wrap (2 * (V : Int)) = (N : Int) := by rw [hN2]; exact IntWalk.i64_in _ (by omega)
  have hw2 : IntKind.i64.wrap (N : Int) = (N : Int) := IntWalk.i64_in _ (by omega)
  have hcl : max 0 (min (V : Int) 100000) = V := by omega
  have hm1 := run_make_row' (P := Tryz.prog) 114 113 (.slice none 0 0) 24 Tryz.underlying114 infoRow7 rfl .i64 .i64 N (by omega) (by omega)
  have hm2 := run_make_row' (P := Tryz.prog) 90 4 (.bool false) 1 Tryz.underlying90 infoBool7 rfl .i64 .i64 N (by omega) (by omega)
  have HN := Lib.hid hN
  clear hN hN2
  go_enter Tryz.func42, Tryz.ntmps42
  go_wp2
  go_region_held3 (fun _ => True) (trivial) (fail)
  all_goals (go_wp2; go_ret)
  all_goals
    obtain rfl := HN.out
    first
      | (refine ⟨W.heap.size + 1 + 1 + 1, W.heap.size, W.heap.size + 1, W.heap.size + 1 + 1, rfl, new_rest7 hV ?_ ?_ ?_ ?_ (by omega) (by omega) (by omega) (by omega), below_drew7 (((((Below.refl _ _).alloc (Nat.le_refl _) _).alloc (by simp) _).alloc (by simp; omega) _).alloc (by simp; omega) _)⟩ <;> (try unfold Blk) <;> simp only [World.alloc, World.drew, Array.getElem?_push, Array.size_push] <;> (repeat (first | rw [if_pos rfl] | rw [if_neg (by omega)])) <;> rfl)
      | (refine ⟨W.heap.size + 1 + 1 + 1, W.heap.size, W.heap.size + 1 + 1, W.heap.size + 1, rfl, new_rest7 hV ?_ ?_ ?_ ?_ (by omega) (by omega) (by omega) (by omega), below_drew7 (((((Below.refl _ _).alloc (Nat.le_refl _) _).alloc (by simp) _).alloc (by simp; omega) _).alloc (by simp; omega) _)⟩ <;> (try unfold Blk) <;> simp only [World.alloc, World.drew, Array.getElem?_push, Array.size_push] <;> (repeat (first | rw [if_pos rfl] | rw [if_neg (by omega)])) <;> rfl)
      | (refine ⟨W.heap.size + 1 + 1 + 1, W.heap.size + 1, W.heap.size, W.heap.size + 1 + 1, rfl, new_rest7 hV ?_ ?_ ?_ ?_ (by omega) (by omega) (by omega) (by omega), below_drew7 (((((Below.refl _ _).alloc (Nat.le_refl _) _).alloc (by simp) _).alloc (by simp; omega) _).alloc (by simp; omega) _)⟩ <;> (try unfold Blk) <;> simp only [World.alloc, World.drew, Array.getElem?_push, Array.size_push] <;> (repeat (first | rw [if_pos rfl] | rw [if_neg (by omega)])) <;> rfl)
      | (refine ⟨W.heap.size + 1 + 1 + 1, W.heap.size + 1, W.heap.size + 1 + 1, W.heap.size, rfl, new_rest7 hV ?_ ?_ ?_ ?_ (by omega) (by omega) (by omega) (by omega), below_drew7 (((((Below.refl _ _).alloc (Nat.le_refl _) _).alloc (by simp) _).alloc (by simp; omega) _).alloc (by simp; omega) _)⟩ <;> (try unfold Blk) <;> simp only [World.alloc, World.drew, Array.getElem?_push, Array.size_push] <;> (repeat (first | rw [if_pos rfl] | rw [if_neg (by omega)])) <;> rfl)
      | (refine ⟨W.heap.size + 1 + 1 + 1, W.heap.size + 1 + 1, W.heap.size, W.heap.size + 1, rfl, new_rest7 hV ?_ ?_ ?_ ?_ (by omega) (by omega) (by omega) (by omega), below_drew7 (((((Below.refl _ _).alloc (Nat.le_refl _) _).alloc (by simp) _).alloc (by simp; omega) _).alloc (by simp; omega) _)⟩ <;> (try unfold Blk) <;> simp only [World.alloc, World.drew, Array.getElem?_push, Array.size_push] <;> (repeat (first | rw [if_pos rfl] | rw [if_neg (by omega)])) <;> rfl)
      | (refine ⟨W.heap.size + 1 + 1 + 1, W.heap.size + 1 + 1, W.heap.size + 1, W.heap.size, rfl, new_rest7 hV ?_ ?_ ?_ ?_ (by omega) (by omega) (by omega) (by omega), below_drew7 (((((Below.refl _ _).alloc (Nat.le_refl _) _).alloc (by simp) _).alloc (by simp; omega) _).alloc (by simp; omega) _)⟩ <;> (try unfold Blk) <;> simp only [World.alloc, World.drew, Array.getElem?_push, Array.size_push] <;> (repeat (first | rw [if_pos rfl] | rw [if_neg (by omega)])) <;> rfl)
end Go.Proofs.YthcpfaahcncfjaaGreatDoor
