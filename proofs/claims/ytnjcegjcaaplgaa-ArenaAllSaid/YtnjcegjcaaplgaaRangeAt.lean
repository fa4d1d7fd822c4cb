/- A loop over a function that is ranged over, where what is yielded hangs on what the rounds do: the iterator goes through numbered places, and passes over those that are gone. No program is named here. -/
import Derived.RangeFuncKeeps
import Derived.RangeFuncLeaves
import Derived.RangeFuncCalls
namespace Go.Proofs.Ytnjcegjcaaplgaa
open Go.RowKit

/-- from block B on, nothing that was there has turned -/
structure KeptUp (B : Nat) (W W' : World) : Prop where
  size : W.heap.size ≤ W'.heap.size
  same : ∀ j, B ≤ j → j < W.heap.size → W'.heap[j]? = W.heap[j]?
theorem KeptUp.refl (B : Nat) (W : World) : KeptUp B W W := ⟨Nat.le_refl _, fun _ _ _ => rfl⟩
theorem KeptUp.trans {B : Nat} {X Y Z : World} (h : KeptUp B X Y) (k : KeptUp B Y Z) : KeptUp B X Z :=
  ⟨Nat.le_trans h.size k.size, fun j h1 h2 => (k.same j h1 (Nat.lt_of_lt_of_le h2 h.size)).trans (h.same j h1 h2)⟩
theorem KeptUp.mono {B B' : Nat} {W W' : World} (h : KeptUp B W W') (hB : B ≤ B') : KeptUp B' W W' := ⟨h.size, fun j h1 h2 => h.same j (Nat.le_trans hB h1) h2⟩
theorem keptUp_put (B : Nat) (W : World) (l : Nat) (o : Obj) (hl : l < B) : KeptUp B W (W.putObj l o) := ⟨by simp, fun j h1 _ => World.putObj_heap_other (by omega)⟩
set_option linter.unusedVariables false
theorem below_put {B : Nat} (W : World) (l : Nat) (o : Obj) (hl : B ≤ l) (h : B ≤ W.heap.size) : Below B W (W.putObj l o) :=
  ⟨rfl, rfl, rfl, by simp, fun j hj => World.putObj_heap_other (by omega)⟩

/-- the iterator's contract: of N numbered places it yields those that are there when it comes to them -/
def SeqAt (m : Nat) (P : Program) (gf : Nat) (lb : Array Value) (enc : Nat → Int) (N : Nat) (Gone Here : Nat → World → Prop) (Rd : World → Prop) (w : World) : Prop :=
  ∀ (l : Nat) (J : Nat → World → Prop) (Jx : World → Prop) (W : World), Below w.heap.size w W → (∀ k W', J k W' → Rd W') → (∀ k W' W'', J k W' → Below W.heap.size W' W'' → J k W'') →
    (∀ k W', J k W' → k < N → Gone k W' → J (k + 1) W') →
    (∀ k W', J k W' → k < N → Here k W' → YieldAt Fence.wide (m - 1) P l #[.int .i64 (enc k)] W' fun e W'' => (e = .returned (.bool true) ∧ J (k + 1) W'' ∧ KeptUp W.heap.size W' W'') ∨ (e = .returned (.bool false) ∧ Jx W'')) →
    J 0 W → CallsIn Fence.wide m P gf (#[.func (.yield l) #[] #[]] ++ lb) W fun e W' => (∃ v, e = .returned v) ∧ (J N W' ∨ Jx W')

/-- how a round may be left -/
def roundEnd (B : Nat) (I : World → Prop) (Ix : Code → World → Prop) (W : World) : Exit → Act → World → Prop
  | .normal, _, W' => KeptUp B W W' ∧ I W'
  | .ret, _, W' => KeptUp B W W' ∧ Ix .ret W'
  | .exit id, _, W' => KeptUp B W W' ∧ Ix (.exit id) W'
  | .goto t, _, W' => KeptUp B W W' ∧ Ix (.goto t) W'
  | .panic _, _, _ => False
  | .outgrown, _, _ => False

theorem range_at {m : Nat} {P : Program} {g : Operand} {ps : Array Tmp} {assign body : Code} {Q : Exit → Act → World → Prop} {a : Act} {w : World} {gf : Nat} {lb : Array Value}
    (hg : a.eval g = .func (.func gf) #[] lb) (eg : ∀ args w, (callFunc gf args).run P w = .ok (.enter gf args) w)
    {enc : Nat → Int} {N : Nat} {Gone Here : Nat → World → Prop} {Rd : World → Prop} (hseq : SeqAt (m - 1) P gf lb enc N Gone Here Rd w) (hps : ps.size = 1)
    (I : Nat → World → Prop) (Ix : Code → World → Prop) (hI : ∀ k W W', I k W → Below w.heap.size W W' → I k W') (hIx : ∀ c W W', Ix c W → Below w.heap.size W W' → Ix c W')
    (h0 : I 0 w) (hgone : ∀ k W, I k W → k < N → Gone k W → I (k + 1) W) (hrd : ∀ k W, I k W → Rd W) (a₁ : Nat → Act)
    (hassign : ∀ (l k : Nat) (W : World) (K : Act → World → Prop), K (a₁ k) W →
      assign.wpIn (Fence.wide.inRound l) (m - 1 - 1) P (Exit.then K (fun _ _ _ => False)) { tmps := (ps.zip #[.int .i64 (enc k)]).foldl (fun t (p, v) => t.setIfInBounds p v) a.tmps, defers := [] } W)
    (hbody : ∀ (l k : Nat) (W : World), w.heap.size < W.heap.size → I k W → k < N → Here k W → body.wpIn (Fence.wide.inRound l) (m - 1 - 1) P (roundEnd w.heap.size (I (k + 1)) Ix W) (a₁ k) W)
    (hhere : ∀ k W W', Here k W → I k W → Below w.heap.size W W' → Here k W')
    (hdone : ∀ (D : Nat) (W : World), w.heap.size ≤ D → I N W → W.heap[D]? = some (.deferred (some [])) → Q .normal { a with defers := { target := .collected D, args := #[] } :: a.defers } W)
    (hstop : ∀ (D : Nat) (c : Code) (W : World), w.heap.size ≤ D → Ix c W → W.heap[D]? = some (.deferred (some [])) → c.wpIn Fence.wide m P Q { a with defers := { target := .collected D, args := #[] } :: a.defers } W) :
    (Code.rangeFunc g ps assign body).wpIn Fence.wide m P Q a w := by
  refine wpIn_rangeFunc fun fn hfn => ?_
  let rec_ : LoopState → Option Code → Loop := fun st pe => { state := st, pending := pe, fn, tmps := a.tmps, params := ps, assign, body, defers := w.heap.size }
  obtain ⟨R, hR⟩ : ∃ R, R = rec_ := ⟨_, rfl⟩
  obtain ⟨W1, hW1⟩ : ∃ W1, W1 = (w.alloc (.deferred (some []))).alloc (.loop (R .ready none)) := ⟨_, rfl⟩
  have hs1 : W1.heap.size = w.heap.size + 2 := by rw [hW1]; simp
  have hL : W1.heap[w.heap.size + 1]? = some (.loop (R .ready none)) := by
    have h := World.alloc_heap_new (w.alloc (.deferred (some []))) (.loop (R .ready none))
    rw [World.size_alloc] at h
    rw [hW1]; exact h
  have hD : W1.heap[w.heap.size]? = some (.deferred (some [])) := by
    rw [hW1]; exact (Below.heap_alloc _ _ _ (by simp)).trans (World.alloc_heap_new w _)
  have hb1 : Below w.heap.size w W1 := by rw [hW1]; exact ((Below.refl _ w).alloc (Nat.le_refl _) _).alloc (by simp) _
  refine ⟨w.heap.size + 1, [{ target := .collected w.heap.size, args := #[] }], W1, { target := .fn (.func gf) lb, args := #[.func (.yield (w.heap.size + 1)) #[] #[]] }, W1, gf,
    #[.func (.yield (w.heap.size + 1)) #[] #[]] ++ lb, W1, ?_, ?_, ?_, ?_, ?_, ?_⟩
  · rw [hW1, hR]; exact run_enterLoop_outer _ _ _ _ _
  · simp only [resolve, hg]
    simp [go_sem]
  · intro f' hf'; simp [Target.leads] at hf'; subst hf'; trivial
  · simp [invoke, go_sem, eg]
  · intro h; simp [Fence.wide] at h
  -- the iterator, at the caller's invariant with the two records
  refine (hseq (w.heap.size + 1)
    (fun k W => I k W ∧ W.heap[w.heap.size + 1]? = some (.loop (R .ready none)) ∧ W.heap[w.heap.size]? = some (.deferred (some [])))
    (fun W => ∃ c, Ix c W ∧ W.heap[w.heap.size + 1]? = some (.loop (R .done (some c))) ∧ W.heap[w.heap.size]? = some (.deferred (some [])))
    W1 hb1 (fun k W h => hrd k W h.1) (fun k W W' h hb => ⟨hI k W W' h.1 (hb.mono (by omega)), (hb.block _ (by omega)).trans h.2.1, (hb.block _ (by omega)).trans h.2.2⟩)
    (fun k W h hk hgn => ⟨hgone k W h.1 hk hgn, h.2⟩) ?_ ⟨hI 0 w W1 h0 hb1, hL, hD⟩).mono ?_
  · -- one round
    rintro k W ⟨hi, hl, hd⟩ hk hh
    have hlt : w.heap.size + 1 < W.heap.size := (Array.getElem?_eq_some_iff.1 hl).1
    have hy := run_yield (P := P) (args := #[.int .i64 (enc k)]) hl (by rw [hR]; exact hps.symm)
    rw [hR] at hy
    refine ⟨fn, _, assign, body, hy, roundIn_of_wpIn hfn (hassign _ k W _ ⟨_, run_beginRound hl (by rw [hR]), ?_⟩)⟩
    obtain ⟨W2, hW2⟩ : ∃ W2, W2 = W.putObj (w.heap.size + 1) (.loop { R .ready none with state := .busy }) := ⟨_, rfl⟩
    have hl2 : W2.heap[w.heap.size + 1]? = some (.loop { R .ready none with state := .busy }) := by rw [hW2]; exact World.putObj_heap_same hlt
    have hd2 : W2.heap[w.heap.size]? = some (.deferred (some [])) := by rw [hW2]; exact (World.putObj_heap_other (by omega)).trans hd
    have hb2 : Below w.heap.size W W2 := by rw [hW2]; exact below_put W _ _ (by omega) (by omega)
    have hk2 : KeptUp W1.heap.size W W2 := by rw [hW2]; exact keptUp_put _ _ _ _ (by omega)
    have hs2 : w.heap.size < W2.heap.size := by have := hb2.size; omega
    rw [← hW2]
    refine wpIn_mono (hbody _ k W2 hs2 (hI k W W2 hi hb2) hk (hhere k W W2 hh hi hb2)) ?_
    have fin : ∀ (jump : Option Code) (W3 : World), KeptUp w.heap.size W2 W3 →
        (Instr.endRound (w.heap.size + 1) jump).run P W3 = .ok (.bool jump.isNone) (W3.putObj (w.heap.size + 1) (.loop (R (if jump.isNone then .ready else .done) jump))) ∧
        (W3.putObj (w.heap.size + 1) (.loop (R (if jump.isNone then .ready else .done) jump))).heap[w.heap.size + 1]? = some (.loop (R (if jump.isNone then .ready else .done) jump)) ∧
        (W3.putObj (w.heap.size + 1) (.loop (R (if jump.isNone then .ready else .done) jump))).heap[w.heap.size]? = some (.deferred (some [])) ∧
        Below w.heap.size W3 (W3.putObj (w.heap.size + 1) (.loop (R (if jump.isNone then .ready else .done) jump))) ∧
        KeptUp W1.heap.size W (W3.putObj (w.heap.size + 1) (.loop (R (if jump.isNone then .ready else .done) jump))) := fun jump W3 hk3 => by
      have hl3 := (hk3.same _ (by omega) (Array.getElem?_eq_some_iff.1 hl2).1).trans hl2
      have hr3 := run_endRound (P := P) jump hl3
      have hs3 := (Array.getElem?_eq_some_iff.1 hl3).1
      rw [hR] at hr3 ⊢
      exact ⟨hr3, World.putObj_heap_same hs3, (World.putObj_heap_other (by omega)).trans ((hk3.same _ (Nat.le_refl _) hs2).trans hd2), below_put W3 _ _ (by omega) (by omega),
        (hk2.trans (hk3.mono (by omega))).trans (keptUp_put _ _ _ _ (by omega))⟩
    rintro e a3 W3 hp
    cases e with
    | normal =>
      obtain ⟨hk3, hi3⟩ := hp
      obtain ⟨hr, hl4, hd4, hb4, hk4⟩ := fin none W3 hk3
      exact ⟨_, _, hr, .inl ⟨rfl, ⟨hI _ _ _ hi3 hb4, hl4, hd4⟩, hk4⟩⟩
    | ret =>
      obtain ⟨hk3, hi3⟩ := hp
      obtain ⟨hr, hl4, hd4, hb4, _⟩ := fin (some .ret) W3 hk3
      exact ⟨_, _, hr, .inr ⟨rfl, .ret, hIx _ _ _ hi3 hb4, hl4, hd4⟩⟩
    | exit id =>
      obtain ⟨hk3, hi3⟩ := hp
      obtain ⟨hr, hl4, hd4, hb4, _⟩ := fin (some (.exit id)) W3 hk3
      exact ⟨_, _, hr, .inr ⟨rfl, .exit id, hIx _ _ _ hi3 hb4, hl4, hd4⟩⟩
    | goto t =>
      obtain ⟨hk3, hi3⟩ := hp
      obtain ⟨hr, hl4, hd4, hb4, _⟩ := fin (some (.goto t)) W3 hk3
      exact ⟨_, _, hr, .inr ⟨rfl, .goto t, hIx _ _ _ hi3 hb4, hl4, hd4⟩⟩
    | panic ch => exact hp.elim
    | outgrown => exact hp.elim
  · -- behind the iterator
    rintro e W2 ⟨⟨v, rfl⟩, (⟨hi, hl, hd⟩ | ⟨c, hi, hl, hd⟩)⟩
    · have hs := (Array.getElem?_eq_some_iff.1 hl).1
      exact ⟨none, _, by have h := run_endLoop (P := P) hl (by rw [hR]; simp [rec_]); rw [hR] at h; exact h, hdone _ _ (Nat.le_refl _) (hI _ _ _ hi (below_put W2 _ _ (by omega) (by omega))) ((World.putObj_heap_other (by omega)).trans hd)⟩
    · have hs := (Array.getElem?_eq_some_iff.1 hl).1
      exact ⟨some c, _, by have h := run_endLoop (P := P) hl (by rw [hR]; simp [rec_]); rw [hR] at h; exact h, hstop _ c _ (Nat.le_refl _) (hIx _ _ _ hi (below_put W2 _ _ (by omega) (by omega))) ((World.putObj_heap_other (by omega)).trans hd)⟩
end Go.Proofs.Ytnjcegjcaaplgaa
