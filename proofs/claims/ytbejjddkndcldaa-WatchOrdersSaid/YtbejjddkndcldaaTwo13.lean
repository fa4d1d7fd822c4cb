/- Two propagators beside each other. -/
import Derived.Test.YtbejjddkndcldaaBack13
import Derived.Test.YtbejjddkndcldaaLits13
namespace Go.Proofs.Ytbejjddkndcldaa
open Go.RowKit
set_option linter.unusedVariables false
set_option linter.unusedSimpArgs false

theorem light_nil {F : Nat} : LightForm F [] := ⟨by simp, by simp, by simp⟩
theorem dj_new {G G1 H : Nat → Prop} {w w1 : World} (hs : St G G1 w w1) (hd : ∀ q, G q → H q → False) (hb : ∀ q, H q → q < w.heap.size) : ∀ q, G1 q → H q → False := fun q h1 h2 => by
  rcases hs.nw q h1 with e | e
  · exact hd q e h2
  · have := hb q h2; omega
theorem n_new {G G1 : Nat → Prop} {w w1 : World} {g : Nat} (hs : St G G1 w w1) (hn : ¬ G g) (hg : g < w.heap.size) : ¬ G1 g := fun e => by
  rcases hs.nw g e with e | e
  · exact hn e
  · omega
/-- two propagators, just made -/
structure Two (w5 wx : World) (F : Nat) (yss zss : List (List Int)) (gX ML : Nat) (px : Px) (G : Nat → Prop) (s : WS) (hd : Nat → Value) (gY MY : Nat) (py : Px) (H : Nat → Prop) (sy : WS) (hy : Nat → Value) : Prop where
  x : ∃ bX, w5.heap.size < bX ∧ bX ≤ wx.heap.size ∧ Lv wx bX F yss gX ML px G (csOf yss) (TS.fresh F) s hd
  y : ∃ bY, w5.heap.size < bY ∧ bY ≤ wx.heap.size ∧ Lv wx bY F zss gY MY py H (csOf zss) (TS.fresh F) sy hy
  dj : ∀ q, G q → H q → False
  nx : ¬ H gX
  ny : ¬ G gY
  vx : s.vis = 0
  vy : sy.vis = 0
  below : Below w5.heap.size w5 wx
section
variable {w5 wx wa wb wX wY : World} {F : Nat} {yss zss : List (List Int)} {gX ML : Nat} {px : Px} {G : Nat → Prop} {s : WS} {hd : Nat → Value} {gY MY : Nat} {py : Px} {H : Nat → Prop} {sy : WS} {hy : Nat → Value} {vs vs' : List Value}
theorem Two.symm (h : Two w5 wx F yss zss gX ML px G s hd gY MY py H sy hy) : Two w5 wx F zss yss gY MY py H sy hy gX ML px G s hd := ⟨h.y, h.x, fun q h1 h2 => h.dj q h2 h1, h.ny, h.nx, h.vy, h.vx, h.below⟩
theorem two_of (hX : Begun wa wX F yss vs gX ML px G s hd) (hY : Begun wb wY F zss vs' gY MY py H sy hy) (h5 : Below w5.heap.size w5 wa) (hab : Below wX.heap.size wX wb) (hn : yss.length ≤ 1000) (hn' : zss.length ≤ 1000) : Two w5 wY F yss zss gX ML px G s hd gY MY py H sy hy := by
  have h1 := h5.size
  have h2 := hX.below.size
  have h3 := hab.size
  have h4 := hY.below.size
  have h6 := hX.blk.lt
  have h7 := hX.hX
  have h8 := hY.blk.lt
  have h9 := hY.hX
  have hXY : Below wX.heap.size wX wY := hab.trans (hY.below.mono h3)
  refine ⟨⟨_, by omega, by omega, (hX.lv hn).below hXY⟩, ⟨_, by omega, by omega, hY.lv hn'⟩, fun q e1 e2 => ?_, fun e => ?_, fun e => ?_, hX.vis, hY.vis, h5.trans ((hX.below.mono h1).trans (hXY.mono (by omega)))⟩
  · have := (hX.ob.bd q e1).2
    have := (hY.ob.bd q e2).1
    omega
  · have := (hY.ob.bd _ e).1
    omega
  · have := (hX.ob.bd _ e).2
    omega
end

theorem fol_nil {L : List Int} {x : Int} : Fol [] L x ↔ x ∈ L := by
  constructor
  · intro h
    exact h.least (K := fun y => y ∈ L) (fun y hy => hy) (fun c hc => absurd hc (by simp))
  · exact fun h => Fol.given h
theorem clash_nil {t : TS} (h : t.Good) : ¬ Clash [] t.lits := by
  rintro (⟨x, h1, h2⟩ | ⟨c, hc, _⟩)
  · rw [fol_nil] at h1 h2
    exact lits_both h (lits_ne h h1).1 h1 h2
  · cases hc
/-- behind decisions alone -/
def Deci (t : TS) : Prop := t.recs.length = t.starts.length
theorem Deci.decN {t : TS} {N : Nat} (h : Deci t) (hg : t.Good) (hN : N = 0 ∨ N = t.ph.length) (n : Int) (h0 : 0 ≤ n) (h1 : n ≤ 65535) : Deci (decN N n t) ∧ (decN N n t).recs.length ≤ t.recs.length + 1 := by
  unfold Proofs.Ytbejjddkndcldaa.decN
  by_cases hz : N = 0
  · rw [if_pos hz]
    exact ⟨h, Nat.le_succ _⟩
  · rw [if_neg hz]
    unfold TS.dec Deci at *
    split
    · simp [TS.up, TS.push, h]
    · exact ⟨h, Nat.le_succ _⟩
theorem nil_told {t t' : TS} (h : t.Good) (h' : t'.Good) (hT : Told [] t.lits t'.lits true) : t'.recs.length = t.recs.length := by
  rw [← lits_len, ← lits_len]
  exact nodup_same (lits_nodup h') (lits_nodup h) fun x => ((hT.yes rfl).2 x).trans fol_nil

end Go.Proofs.Ytbejjddkndcldaa
