/- spread: what follows from literals. -/
import Derived.Test.YtlkgicaajenhaaaDoorExamine07b
namespace Go.Proofs.YtlkgicaajenhaaaDoor
open Go.RowKit
set_option linter.unusedVariables false
set_option linter.unusedSimpArgs false

/-- a row of ints of the caller's own, in no block of the store's -/
structure Apart (W : World) (X : SX) (b0 : Nat) (A : Option Addr) (c : Nat) (L : List Int) : Prop where
  own : W.ownsRow b0 3 1 (.slice A L.length c) L.length (L.map (Value.int .i64))
  ne : ∀ g, (Value.slice A L.length c).ownBlock = some g → X.fv.ownBlock ≠ some g
theorem Apart.turn {W W' : World} {base b0 c : Nat} {X X' : SX} {fo : List Bool} {A : Option Addr} {L : List Int} (h : Apart W X b0 A c L) (hs : Sto W base X fo) (ht : Tn base X W W') (hl : Later7 W X X') : Apart W' X' b0 A c L := by
  refine ⟨⟨h.own.1, ?_⟩, fun g hg => ?_⟩
  · rcases h.own.2 with hn | ⟨g', cap', cur, hv, hb', hg', rest⟩
    · exact .inl hn
    · refine .inr ⟨g', cap', cur, hv, hb', ht.blk g' _ cur hg' (by decide) (by decide) (by decide) (by decide) (Blk.ne_ (w := W) (g := g') hg' hs.fol (by decide)) (fun e => ?_), rest⟩
      exact h.ne g' (by rw [hv]; rfl) e.symm
  · rcases hl.2 with e | e
    · rw [e]; exact h.ne g hg
    · intro e2; have := e g e2; have := (h.own.lt g hg).2; omega
theorem Apart.cell {W : World} {b0 c : Nat} {X : SX} {A : Option Addr} {L : List Int} (h : Apart W X b0 A c L) {k : Nat} (hk : k < L.length) : ∃ g, A = some ⟨g, 0, none⟩ ∧ W.cell? ⟨g, k, none⟩ = some (.int .i64 (L.getD k 0)) := by
  obtain ⟨g, rfl, _, _⟩ := own_addr h.own (by omega)
  refine ⟨g, rfl, ?_⟩
  rw [World.ownsRow.cellAt h.own k (by omega)]
  simp [List.getD, hk]

section
variable {X X' : SX} {fo fo' : List Bool} {L : List Int} {E : Int → Prop} {l : Int}
/-- a literal that follows is found, or all clashes -/
theorem Good.found (h : Good X fo L E) (hl : Lt7 X.V l) (hF : Fol X.cs L l) (hs : SameButFd X X') (ha : fo.getD (ix (-l)) false = true → X' = X ∧ fo' = fo) (hb : fo.getD (ix (-l)) false = false → fo.getD (ix l) false = true → X' = X ∧ fo' = fo)
    (hc : fo.getD (ix (-l)) false = false → fo.getD (ix l) false = false → X'.fd = X.fd ++ [l] ∧ fo' = fo.set (ix l) true) :
    Good X' fo' L E ∧ Same7 X X' ∧ (fo.getD (ix (-l)) false = false → l ∈ X'.fd) ∧ (fo.getD (ix (-l)) false = true → Clash X'.cs L) := by
  cases c1 : fo.getD (ix (-l)) false with
  | true =>
    obtain ⟨rfl, rfl⟩ := ha c1
    exact ⟨h, Same7.refl _, fun e => (by cases e), fun _ => .inl ⟨l, hF, h.sound _ ((h.fw.tie _ hl.neg).1 c1)⟩⟩
  | false =>
    have hno : -l ∉ X.fd := fun hm => by rw [(h.fw.tie _ hl.neg).2 hm] at c1; cases c1
    cases c2 : fo.getD (ix l) false with
    | true =>
      obtain ⟨rfl, rfl⟩ := hb c1 c2
      exact ⟨h, Same7.refl _, fun _ => (h.fw.tie _ hl).1 c2, fun e => (by cases e)⟩
    | false =>
      obtain ⟨hfd, rfl⟩ := hc c1 c2
      have hon : l ∉ X.fd := fun hm => by rw [(h.fw.tie _ hl).2 hm] at c2; cases c2
      have hsame := hs.same7 ⟨_, hfd⟩
      refine ⟨⟨⟨by rw [hs.ps, hs.V, hs.C]; exact h.wf.cl, by rw [hs.ps]; exact h.wf.plen, by unfold InPile; rw [hs.V, hs.pss, hs.ps, hs.C]; exact h.wf.pile⟩, h.fw.add hs.V hl hon hno hfd, fun x hx => ?_, fun x hx => by rw [hfd]; exact List.mem_append_left _ (h.eF x hx), fun p hp hpg h2 => ?_⟩, hsame, fun _ => by rw [hfd]; simp, fun e => (by cases e)⟩
      · rw [hsame.cs]
        rw [hfd] at hx
        rcases List.mem_append.1 hx with hx | hx
        · exact h.sound x hx
        · rw [List.mem_singleton.1 hx]; exact hF
      · rw [hs.ps] at hp
        rw [hs.C] at h2 hpg ⊢
        have := h.watch p hp hpg h2
        rw [hfd]
        exact ⟨fun hE => List.mem_append_left _ (this.1 hE), fun hE => List.mem_append_left _ (this.2 hE)⟩
/-- all that was found has been gone through: it is what follows -/
theorem Good.told (h : Good X fo L E) (hE : ∀ x, x ∈ X.fd → E x) (hL : ∀ x, x ∈ L → x ∈ X.fd) (hsh : ∀ p, p ∈ X.ps → (X.C p).gone = false → (X.C p).lits.length < 2 → ∃ x, (X.C p).lits = [x] ∧ x ∈ X.fd) : Told X.cs L X.fd true := by
  have hcon : ∀ x, x ∈ X.fd → -x ∈ X.fd → False := fun x hx hn => h.fw.con x hx hn
  have key : ∀ c, c ∈ X.cs → (∀ x, x ∈ c → (∀ y, y ∈ c → y ≠ x → -y ∈ X.fd) → x ∈ X.fd) ∧ ¬ ∀ y, y ∈ c → -y ∈ X.fd := by
    intro c hc
    obtain ⟨p, hp, rfl⟩ := List.mem_map.1 hc
    obtain ⟨hp, hpg⟩ := SX.mem_live.1 hp
    by_cases h2 : 2 ≤ (X.C p).lits.length
    · obtain ⟨w1, w2⟩ := h.watch p hp hpg h2
      obtain ⟨a, b, d, _⟩ := (h.wf.cl p hp).two h2
      exact closed_of_watch (F := (· ∈ X.fd)) hcon a b d (fun hf => w1 (hE _ hf)) (fun hf => w2 (hE _ hf))
    · obtain ⟨x, hx, hm⟩ := hsh p hp hpg (by omega)
      rw [hx]
      exact ⟨fun z hz _ => by rw [List.mem_singleton.1 hz]; exact hm, fun hall => hcon x hm (hall x (by simp))⟩
  exact told_yes hL h.sound (fun c hc x hx hy => (key c hc).1 x hx hy) hcon fun c hc => (key c hc).2
end

theorem Good.congr {X : SX} {fo : List Bool} {L : List Int} {E E' : Int → Prop} (h : Good X fo L E) (he : ∀ x, E x ↔ E' x) : Good X fo L E' :=
  ⟨h.wf, h.fw, h.sound, fun x hx => h.eF x ((he x).2 hx), fun p hp hg h2 => ⟨fun hE => (h.watch p hp hg h2).1 ((he _).2 hE), fun hE => (h.watch p hp hg h2).2 ((he _).2 hE)⟩⟩
theorem Sto.pilecell {W : World} {base j k : Nat} {X : SX} {fo : List Bool} (h : Sto W base X fo) (hj : j < X.pss.length) (hk : k < (X.pss.getD j []).length) : ∃ g c, X.vs.getD j undef = .slice (some ⟨g, 0, none⟩) (X.pss.getD j []).length c ∧ W.cell? ⟨g, k, none⟩ = some (.pointer (some ⟨(X.pss.getD j []).getD k 0, 0, none⟩)) := by
  obtain ⟨Aj, cj, hvj, hoj⟩ := h.pil.each j hj
  obtain ⟨g, rfl, _, _⟩ := own_addr hoj (by omega)
  refine ⟨g, cj, hvj, ?_⟩
  obtain ⟨S, hS⟩ : ∃ S, S = X.pss.getD j [] := ⟨_, rfl⟩
  rw [← hS] at hoj hk ⊢
  rw [World.ownsRow.cellAt hoj k (by omega)]
  simp [ptrs7, List.getD, hk]
theorem Sto.header {W : World} {base j : Nat} {X : SX} {fo : List Bool} (h : Sto W base X fo) (hj : j < X.pss.length) : ∃ A c, X.vs.getD j undef = .slice A (X.pss.getD j []).length c := by
  obtain ⟨Aj, cj, hvj, _⟩ := h.pil.each j hj
  exact ⟨Aj, cj, hvj⟩
theorem Sto.foundcell {W : World} {base k : Nat} {X : SX} {fo : List Bool} (h : Sto W base X fo) (hk : k < X.fd.length) : ∃ g, X.fv = .slice (some ⟨g, 0, none⟩) X.fd.length X.cf ∧ W.cell? ⟨g, k, none⟩ = some (.int .i64 (X.fd.getD k 0)) := by
  have ho := h.fnd
  unfold SX.fv at ho
  obtain ⟨g, hg, _, _⟩ := own_addr ho (by omega)
  rw [hg] at ho
  refine ⟨g, by unfold SX.fv; rw [hg], ?_⟩
  rw [World.ownsRow.cellAt ho k (by omega)]
  simp [List.getD, hk]

/-- the short clauses -/
def Short (X : SX) : Prop := (∀ p, p ∈ X.pss.getD (2 * X.V + 1) [] → p ∈ X.ps ∧ (X.C p).lits.length < 2) ∧ ∀ p, p ∈ X.ps → (X.C p).gone = false → (X.C p).lits.length < 2 → p ∈ X.pss.getD (2 * X.V + 1) []
/-- what spread leaves -/
def SpreadP (base : Nat) (X : SX) (L : List Int) (W : World) (e : Ending) (W' : World) : Prop :=
  ∃ (X' : SX) (fo' : List Bool) (b : Bool), e = .returned (.bool b) ∧ Sto W' base X' fo' ∧ Tn base X W W' ∧ Later7 W X X' ∧ Same7 X X' ∧ Fw X' fo' ∧ Wfs X' ∧ (b = true → Told X'.cs L X'.fd true) ∧ (b = false → Clash X'.cs L)
set_option maxRecDepth 100000 in
set_option maxHeartbeats 2000000 in
theorem spread_any {W : World} {base b0 c : Nat} {X : SX} {fo : List Bool} {L : List Int} {A : Option Addr} (h : Sto W base X fo) (hw : Wfs X) (hf : Fw X fo) (h0 : X.fd = []) (hsh : Short X) (hsn : (X.pss.getD (2 * X.V + 1) []).length ≤ 1000000000)
    (hA : Apart W X b0 A c L) (hL : ∀ x, x ∈ L → Lt7 X.V x) (hn : L.length ≤ 1000000000) :
    Calls Tryd.prog 31 #[.pointer (some ⟨X.s, 0, none⟩), .slice A L.length c] W (SpreadP base X L W) := by
  have hvb := h.vb
  have hgood : Good X fo L (fun _ => False) := ⟨hw, hf, fun x hx => (by rw [h0] at hx; simp at hx), fun x hx => hx.elim, fun p hp _ h2 => ⟨fun e => e.elim, fun e => e.elim⟩⟩
  have HS := Lib.hid h
  have HG := Lib.hid hgood
  have HA := Lib.hid hA
  have HL := Lib.hid hL
  have HSH := Lib.hid hsh
  clear h hw hf hgood hA hL hsh h0
  go_enter Tryd.func31, Tryd.ntmps31
  go_wp2
  go_loopg [12] (L.length + 1) (fun gk i wr => ∃ (k : Nat) (Y : SX) (fy : List Bool), k ≤ L.length ∧ gk = L.length - k + 1 ∧ i = .int .i64 k ∧ Hid (Sto wr base Y fy) ∧ Hid (Good Y fy L (fun _ => False)) ∧ Hid (Same7 X Y) ∧ Hid (Tn base X W wr) ∧ Hid (Later7 W X Y) ∧ Hid (Apart wr Y b0 A c L) ∧ Hid (∀ x, x ∈ L.take k → x ∈ Y.fd))
  case atStart => exact ⟨0, X, fo, by omega, by omega, rfl, HS, HG, Lib.hid (Same7.refl X), Lib.hid (Tn.refl base X W), Lib.hid (Later7.refl W X), HA, Lib.hid (by simp)⟩
  case round =>
    obtain ⟨k, Y, fy, hk, rfl, rfl, HSY, HGY, HSM, HTN, HLT, HAY, HIN⟩ := hrel
    by_cases hlt : k < L.length
    · obtain ⟨g, rfl, hc⟩ := HAY.out.cell hlt
      obtain ⟨htk, hmem⟩ := take_snoc7 hlt
      have hlx := HL.out _ hmem
      obtain ⟨x, hx⟩ : ∃ x, x = L.getD k 0 := ⟨_, rfl⟩
      rw [← hx] at hc htk hmem hlx
      have hlY : Lt7 Y.V x := by rw [HSM.out.V]; exact hlx
      have hfl := HGY.out.fw.len
      have hVY := HSY.out.vb
      have HFN := Lib.hid (find_any HSY.out x hlY (by omega))
      rw [HSM.out.s] at HFN
      have HTK := Lib.hid htk
      have HMEM := Lib.hid hmem
      have HLY := Lib.hid hlY
      clear hx htk hmem hlx hlY hfl hVY
      go_wp2_with fail
      refine HFN.out.mono ?_
      rintro e w3 ⟨Z, fz, rfl, z1, z2, z3, z4, z5, z6, z7⟩
      obtain ⟨y1, y2, y3, y4⟩ := HGY.out.found HLY.out (.given HMEM.out) z4 z5 z6 z7
      have HZ := Lib.hid (And.intro z1 (And.intro y1 (And.intro (HSM.out.trans y2) (And.intro (HTN.out.trans z2 HLT.out) (And.intro (HLT.out.trans z3 HTN.out.below.size) (HAY.out.turn HSY.out z2 z3))))))
      have HY2 := Lib.hid y2
      have HY34 := Lib.hid (And.intro y3 y4)
      clear z1 z2 z3 z4 z5 z6 z7 y1 y2 y3 y4 HFN
      cases c1 : fy.getD (ix (-x)) false with
      | true =>
        have HCL := Lib.hid (HY34.out.2 c1)
        clear c1
        go_wp2
        go_ret
        exact ⟨Z, fz, false, rfl, HZ.out.1, HZ.out.2.2.2.1, HZ.out.2.2.2.2.1, HZ.out.2.2.1, HZ.out.2.1.fw, HZ.out.2.1.wf, fun e => (by cases e), fun _ => HCL.out⟩
      | false =>
        have HIN2 := Lib.hid (HY34.out.1 c1)
        clear c1
        go_wp2
        go_roundg (L.length - k)
        case measure => omega
        case rel =>
          refine ⟨k + 1, Z, fz, by omega, by omega, by go_num, Lib.hid HZ.out.1, Lib.hid HZ.out.2.1, Lib.hid HZ.out.2.2.1, Lib.hid HZ.out.2.2.2.1, Lib.hid HZ.out.2.2.2.2.1, Lib.hid HZ.out.2.2.2.2.2, Lib.hid fun z hz => ?_⟩
          rw [HTK.out] at hz
          obtain ⟨t, ht⟩ := HY2.out.fd
          rcases List.mem_append.1 hz with hz | hz
          · rw [ht]; exact List.mem_append_left _ (HIN.out z hz)
          · rw [List.mem_singleton.1 hz]; exact HIN2.out
    · obtain rfl : k = L.length := by omega
      rw [List.take_length] at HIN
      have hjl : 2 * X.V + 1 < Y.pss.length := by have := HSY.out.num.1; rw [HSM.out.V] at this; omega
      obtain ⟨As, cs, hhd⟩ := HSY.out.header hjl
      obtain ⟨hh1, hh2⟩ := HSM.out.high (2 * X.V + 1) (by omega)
      rw [hh2] at hhd
      obtain ⟨S, hSS⟩ : ∃ S, S = X.pss.getD (2 * X.V + 1) [] := ⟨_, rfl⟩
      rw [← hSS] at hhd hsn
      have hs4 : wr.cell? ⟨X.s, 4, none⟩ = some (.slice As S.length cs) := by
        have := HSY.out.st.cell 4
        rw [HSM.out.s] at this
        rw [this, ← hhd]
        show some (Y.vs.getD (2 * Y.V + 1) undef) = _
        rw [HSM.out.V]
      have HHD : Hid (X.vs.getD (2 * X.V + 1) undef = .slice As S.length cs) := Lib.hid (hh1.symm.trans hhd)
      have HSS := Lib.hid hSS
      clear hhd hh1 hh2 hSS hjl
      go_wp2
      go_loopg [26] (S.length + 1) (fun gk i wr => ∃ (k : Nat) (Y : SX) (fy : List Bool), k ≤ S.length ∧ gk = S.length - k + 1 ∧ i = .int .i64 k ∧ Hid (Sto wr base Y fy) ∧ Hid (Good Y fy L (fun _ => False)) ∧ Hid (Same7 X Y) ∧ Hid (Tn base X W wr) ∧ Hid (Later7 W X Y) ∧ Hid (∀ x, x ∈ L → x ∈ Y.fd) ∧ Hid (∀ p, p ∈ S.take k → (X.C p).gone = false → ∃ x, (X.C p).lits = [x] ∧ x ∈ Y.fd))
      case atStart => exact ⟨0, Y, fy, by omega, by omega, rfl, HSY, HGY, HSM, HTN, HLT, HIN, Lib.hid (by simp)⟩
      case round =>
        obtain ⟨k, Y, fy, hk, rfl, rfl, HSY, HGY, HSM, HTN, HLT, HIN, HSP⟩ := hrel
        have hjl : 2 * X.V + 1 < Y.pss.length := by have := HSY.out.num.1; rw [HSM.out.V] at this; omega
        obtain ⟨hh1, hh2⟩ := HSM.out.high (2 * X.V + 1) (by omega)
        by_cases hlt2 : k < S.length
        · obtain ⟨g, cg, hv, hc⟩ := HSY.out.pilecell (k := k) hjl (by rw [hh2, ← HSS.out]; exact hlt2)
          rw [hh1, HHD.out] at hv
          injection hv with hv1 hv2 hv3
          subst hv1
          rw [hh2, ← HSS.out] at hc
          have hmem : S.getD k 0 ∈ S := by rw [show S.getD k 0 = S[k] by simp [List.getD, hlt2]]; exact List.getElem_mem hlt2
          have htk : S.take (k + 1) = S.take k ++ [S.getD k 0] := by rw [List.take_succ_eq_append_getElem hlt2]; simp [List.getD, hlt2]
          obtain ⟨p, hpp⟩ : ∃ p, p = S.getD k 0 := ⟨_, rfl⟩
          rw [← hpp] at hc hmem htk
          have hps := HSH.out.1 p (by rw [← HSS.out]; exact hmem)
          have hpY : p ∈ Y.ps := by rw [HSM.out.ps]; exact hps.1
          obtain ⟨p1, p2, p3, p4⟩ := HSY.out.cl p hpY
          have q5 : wr.cell? ⟨p, 5, none⟩ = some (.bool (Y.C p).gone) := p1.cell 5
          rw [(HSM.out.gn p).1] at q5
          have q1 : wr.cell? ⟨p, 1, none⟩ = some (.slice (Y.C p).A (Y.C p).lits.length (Y.C p).c) := p1.cell 1
          have hlits := HSM.out.lits p
          rw [hlits] at q1 p3
          have hclx := HGY.out.wf.cl p hpY
          have HTK := Lib.hid htk
          have HPS := Lib.hid hps
          have HPY := Lib.hid hpY
          have HLI := Lib.hid hlits
          clear hpp hmem htk hps hpY p1 p2 p4 hh1 hh2 hv2 hv3 hjl
          cases hgn : (X.C p).gone with
          | true =>
          rw [hgn] at q5
          have HGN := Lib.hid hgn
          clear hgn p3 hclx hlits q1
          go_wp2
          go_roundg (S.length - k)
          case measure => omega
          case rel =>
            refine ⟨k + 1, Y, fy, by omega, by omega, by go_num, HSY, HGY, HSM, HTN, HLT, HIN, Lib.hid fun z hz hzg => ?_⟩
            rw [HTK.out] at hz
            rcases List.mem_append.1 hz with hz | hz
            · exact HSP.out z hz hzg
            · rw [List.mem_singleton.1 hz, HGN.out] at hzg; cases hzg
          | false =>
          rw [hgn] at q5
          have HGN : Hid ((Y.C p).gone = false) := Lib.hid ((HSM.out.gn p).1.trans hgn)
          clear hgn
          cases hli : (X.C p).lits with
          | nil =>
            have HCL : Hid (Clash Y.cs L) := Lib.hid (.inr ⟨[], by rw [← hli, ← HLI.out]; exact SX.mem_cs HPY.out HGN.out, fun y hy => by simp at hy⟩)
            rw [hli] at q1
            simp at q1
            clear hli p3 hclx hlits
            go_wp2
            go_ret
            exact ⟨Y, fy, false, rfl, HSY.out, HTN.out, HLT.out, HSM.out, HGY.out.fw, HGY.out.wf, fun e => (by cases e), fun _ => HCL.out⟩
          | cons x r =>
            have hr : r = [] := by
              have := HPS.out.2
              rw [hli] at this
              cases r with
              | nil => rfl
              | cons a b => simp at this; omega
            subst hr
            rw [hli] at q1 p3
            simp at q1
            have hlY : Lt7 Y.V x := hclx.lt x (by rw [hlits, hli]; simp)
            have hA0 := p3
            unfold CX.row at hA0
            rw [hlits, hli] at hA0
            obtain ⟨gx, hgx, _, _⟩ := own_addr hA0 (by simp)
            rw [hgx] at hA0 q1
            have qx : wr.cell? ⟨gx, 0, none⟩ = some (.int .i64 x) := by
              rw [World.ownsRow.cellAt hA0 0 (by simp)]
              rfl
            have HF : Hid (Fol Y.cs L x) := Lib.hid (Fol.closed (X.C p).lits (by rw [← HLI.out]; exact SX.mem_cs HPY.out HGN.out) x (by rw [hli]; simp) fun y hy hne => by rw [hli] at hy; exact absurd (List.mem_singleton.1 hy) hne)
            have hfl := HGY.out.fw.len
            have hVY := HSY.out.vb
            have HFN := Lib.hid (find_any HSY.out x hlY (by omega))
            rw [HSM.out.s] at HFN
            have HLY := Lib.hid hlY
            have HLX := Lib.hid hli
            clear hli p3 hclx hlits hA0 hlY hfl hVY hgx
            go_wp2_with fail
            refine HFN.out.mono ?_
            rintro e w3 ⟨Z, fz, rfl, z1, z2, z3, z4, z5, z6, z7⟩
            obtain ⟨y1, y2, y3, y4⟩ := HGY.out.found HLY.out HF.out z4 z5 z6 z7
            have HZ := Lib.hid (And.intro z1 (And.intro y1 (And.intro (HSM.out.trans y2) (And.intro (HTN.out.trans z2 HLT.out) (HLT.out.trans z3 HTN.out.below.size)))))
            have HY2 := Lib.hid y2
            have HY34 := Lib.hid (And.intro y3 y4)
            clear z1 z2 z3 z4 z5 z6 z7 y1 y2 y3 y4 HFN
            cases c1 : fy.getD (ix (-x)) false with
            | true =>
              have HCL := Lib.hid (HY34.out.2 c1)
              clear c1
              go_wp2
              go_ret
              exact ⟨Z, fz, false, rfl, HZ.out.1, HZ.out.2.2.2.1, HZ.out.2.2.2.2, HZ.out.2.2.1, HZ.out.2.1.fw, HZ.out.2.1.wf, fun e => (by cases e), fun _ => HCL.out⟩
            | false =>
              have HIN2 := Lib.hid (HY34.out.1 c1)
              clear c1
              go_wp2
              go_roundg (S.length - k)
              case measure => omega
              case rel =>
                obtain ⟨t, ht⟩ := HY2.out.fd
                refine ⟨k + 1, Z, fz, by omega, by omega, by go_num, Lib.hid HZ.out.1, Lib.hid HZ.out.2.1, Lib.hid HZ.out.2.2.1, Lib.hid HZ.out.2.2.2.1, Lib.hid HZ.out.2.2.2.2, Lib.hid fun z hz => by rw [ht]; exact List.mem_append_left _ (HIN.out z hz), Lib.hid fun z hz hzg => ?_⟩
                rw [HTK.out] at hz
                rcases List.mem_append.1 hz with hz | hz
                · obtain ⟨u, hu1, hu2⟩ := HSP.out z hz hzg
                  exact ⟨u, hu1, by rw [ht]; exact List.mem_append_left _ hu2⟩
                · rw [List.mem_singleton.1 hz]; exact ⟨x, HLX.out, HIN2.out⟩
        · obtain rfl : k = S.length := by omega
          rw [List.take_length] at HSP
          clear hh1 hh2 hjl
          go_wp2
          go_loopg [9] (2 * X.V + 1) (fun gk i wr => ∃ (k : Nat) (Y : SX) (fy : List Bool), k ≤ Y.fd.length ∧ gk = 2 * X.V - k + 1 ∧ i = .int .i64 k ∧ Y.fd.length ≤ 2 * X.V ∧ Hid (Sto wr base Y fy) ∧ Hid (Good Y fy L (fun x => x ∈ Y.fd.take k)) ∧ Hid (Same7 X Y) ∧ Hid (Tn base X W wr) ∧ Hid (Later7 W X Y) ∧ Hid (∀ x, x ∈ L → x ∈ Y.fd) ∧ Hid (∀ p, p ∈ S → (X.C p).gone = false → ∃ x, (X.C p).lits = [x] ∧ x ∈ Y.fd))
          case atStart => exact ⟨0, Y, fy, by omega, by omega, rfl, by have := HGY.out.fw.len; rw [HSM.out.V] at this; exact this, HSY, Lib.hid (HGY.out.congr fun x => by simp), HSM, HTN, HLT, HIN, HSP⟩
          case round =>
            obtain ⟨k, Y, fy, hk, rfl, rfl, hfl, HSY, HGY, HSM, HTN, HLT, HIN, HSP⟩ := hrel
            have hs8 : wr.cell? ⟨X.s, 8, none⟩ = some Y.fv := by
              have := HSY.out.st.cell 8
              rw [HSM.out.s] at this
              exact this
            by_cases hlt3 : k < Y.fd.length
            · obtain ⟨g, hv, hc⟩ := HSY.out.foundcell hlt3
              rw [hv] at hs8
              obtain ⟨htk, hmem⟩ := take_snoc7 hlt3
              have hlx := HGY.out.fw.lt _ hmem
              obtain ⟨x, hx⟩ : ∃ x, x = Y.fd.getD k 0 := ⟨_, rfl⟩
              rw [← hx] at hc htk hmem hlx
              have hxb : -1000000 ≤ x ∧ x ≤ 1000000 := by have := HSY.out.vb; obtain ⟨_, a, b⟩ := hlx; omega
              obtain ⟨hx1, hx2⟩ := hxb
              have hwx : IntKind.i64.wrap (-x) = -x := IntWalk.i64_in _ (by omega)
              have HEX := Lib.hid (examine_any HSY.out HGY.out (-x) hlx.neg (by rw [Int.neg_neg]; exact hmem))
              rw [HSM.out.s] at HEX
              obtain ⟨m, hm⟩ : ∃ m, m = Y.fd.length := ⟨_, rfl⟩
              rw [← hm] at hs8 hlt3 hfl
              have hkm : (k : Int) < (m : Int) := by omega
              have HTK := Lib.hid htk
              have HM := Lib.hid hm
              clear hx htk hmem hlx hv hm hk
              go_wp2_with fail
              refine HEX.out.mono ?_
              rintro e w3 ⟨Z, fz, b, rfl, z1, z2, z3, z4, z5, z6, z7, z8⟩
              have HZ := Lib.hid (And.intro z1 (And.intro (HSM.out.trans z4) (And.intro (HTN.out.trans z2 HLT.out) (And.intro (HLT.out.trans z3 HTN.out.below.size) (And.intro z5 z6)))))
              have HZ4 := Lib.hid z4
              have HZ78 := Lib.hid (And.intro z7 z8)
              clear z1 z2 z3 z4 z5 z6 z7 z8 HEX
              cases b with
              | false =>
                go_wp2
                go_ret
                exact ⟨Z, fz, false, rfl, HZ.out.1, HZ.out.2.2.1, HZ.out.2.2.2.1, HZ.out.2.1, HZ.out.2.2.2.2.1, HZ.out.2.2.2.2.2, fun e => (by cases e), fun _ => HZ78.out.2 (by first | rfl | trivial)⟩
              | true =>
                go_wp2
                go_roundg (2 * X.V - k)
                case measure => omega
                case rel =>
                  obtain ⟨t, ht⟩ := HZ4.out.fd
                  have hlen := HZ.out.2.2.2.2.1.len
                  rw [HZ.out.2.1.V] at hlen
                  have htake : Z.fd.take (k + 1) = Y.fd.take k ++ [x] := by rw [ht, List.take_append_of_le_length (by rw [← HM.out]; omega)]; exact HTK.out
                  refine ⟨k + 1, Z, fz, by rw [ht, List.length_append, ← HM.out]; omega, by omega, by go_num, hlen, Lib.hid HZ.out.1, Lib.hid ((HZ78.out.1 (by first | rfl | trivial)).congr fun z => ?_), Lib.hid HZ.out.2.1, Lib.hid HZ.out.2.2.1, Lib.hid HZ.out.2.2.2.1, Lib.hid fun z hz => by rw [ht]; exact List.mem_append_left _ (HIN.out z hz), Lib.hid fun z hz hzg => ?_⟩
                  · rw [htake, List.mem_append, List.mem_singleton, Int.neg_neg]
                  · obtain ⟨u, hu1, hu2⟩ := HSP.out z hz hzg
                    exact ⟨u, hu1, by rw [ht]; exact List.mem_append_left _ hu2⟩
            · obtain rfl : k = Y.fd.length := by omega
              have HTD : Hid (Told Y.cs L Y.fd true) := Lib.hid (HGY.out.told (fun x hx => by rw [List.take_length]; exact hx) HIN.out fun p hp hg h2 => by
                rw [HSM.out.ps] at hp
                rw [HSM.out.lits] at h2 ⊢
                rw [(HSM.out.gn p).1] at hg
                exact HSP.out p (by rw [HSS.out]; exact HSH.out.2 p hp hg h2) hg)
              unfold SX.fv at hs8
              go_wp2
              go_ret
              exact ⟨Y, fy, true, rfl, HSY.out, HTN.out, HLT.out, HSM.out, HGY.out.fw, HGY.out.wf, fun _ => HTD.out, fun e => (by cases e)⟩
end Go.Proofs.YtlkgicaajenhaaaDoor
