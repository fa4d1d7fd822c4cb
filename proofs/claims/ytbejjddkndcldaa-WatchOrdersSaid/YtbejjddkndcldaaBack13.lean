/- What the propagator takes back, to level 0. -/
import Derived.Test.YtbejjddkndcldaaLaw13
namespace Go.Proofs.Ytbejjddkndcldaa
open Go.RowKit
set_option linter.unusedVariables false
set_option linter.unusedSimpArgs false

theorem back0_starts (t : TS) : (t.back 0).starts.length = 0 := by
  unfold TS.back
  rcases h : t.starts[(0 : Int).toNat]? with _ | s
  · simp at h
    simp [h]
  · simp
theorem back0_recs {t : TS} (h : t.recs.length = t.starts.length) (hg : t.Good) : (t.back 0).recs.length = 0 ∧ (t.gone 0).length = t.recs.length := by
  unfold TS.back TS.gone
  rcases e : t.starts[(0 : Int).toNat]? with _ | s
  · simp at e
    simp [e] at h
    simp [h]
  · have hs := hg.start s (List.mem_of_getElem? e)
    have hm := hg.mono
    have h0 : s = 0 := by
      have hge : ∀ k x, t.starts[k]? = some x → s + k ≤ x := fun k => by
        induction k with
        | zero => intro x hx; rw [show (0 : Int).toNat = 0 from rfl] at e; rw [e] at hx; injection hx with hx; omega
        | succ k ih =>
          intro x hx
          obtain ⟨hk, rfl⟩ := List.getElem?_eq_some_iff.1 hx
          have h1 := ih _ (List.getElem?_eq_getElem (show k < t.starts.length by omega))
          have h2 := List.pairwise_iff_getElem.1 hm k (k + 1) (by omega) hk (by omega)
          omega
      have hpos : 0 < t.starts.length := by
        rcases List.getElem?_eq_some_iff.1 e with ⟨hk, _⟩
        omega
      have h1 := hge (t.starts.length - 1) _ (List.getElem?_eq_getElem (by omega))
      have h2 := hg.start _ (List.getElem_mem (show t.starts.length - 1 < t.starts.length by omega))
      omega
    subst h0
    simp
end Go.Proofs.Ytbejjddkndcldaa
