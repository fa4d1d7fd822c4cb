/- A loop over a function that is ranged over, where each value that is yielded is laid anew, and the rounds may turn all memory but the loops' own records. No program is named here. A region that draws its order, in a round of a loop over a function: walked by the laws that serve everywhere else. No program is named here. -/
import Derived.RangeFuncKeeps
import Derived.RangeFuncLeaves
import Derived.RangeFuncCalls
import Derived.Test.YtlkgicaajenhaaaDoorRecs
import Derived.OrdersIn
import Derived.OrdersHeld
import Derived.OwnWalkIn
import Derived.Deep.RegionHeld3
namespace Go.Proofs.YtlkgicaajenhaaaDoor
open Go.RowKit
set_option linter.unusedVariables false

/-- rows and maps stay -/
structure Rows9 (B : Nat) (W W' : World) : Prop where
  below : Below B W W'
  data : ∀ (q : Nat) (o : Obj), W.heap[q]? = some o → ((∃ cs t z, o = Obj.cells cs t z) ∨ ∃ es n, o = Obj.map es n) → W'.heap[q]? = some o
theorem Rows9.of_below {B : Nat} {W W' : World} (h : Below W.heap.size W W') (hB : B ≤ W.heap.size) : Rows9 B W W' := ⟨h.mono hB, fun q o hq _ => (h.block q (Array.getElem?_eq_some_iff.1 hq).1).trans hq⟩
theorem rows9_put {B : Nat} (W : World) (l : Nat) (o o' : Obj) (hl : W.heap[l]? = some o') (hk : ¬ ((∃ cs t z, o' = Obj.cells cs t z) ∨ ∃ es n, o' = Obj.map es n)) (hB : B ≤ l) : Rows9 B W (W.putObj l o) := by
  have hlt := (Array.getElem?_eq_some_iff.1 hl).1
  refine ⟨⟨rfl, rfl, rfl, by simp, fun j hj => World.putObj_heap_other (by omega)⟩, fun q oq hq hd => ?_⟩
  by_cases e : q = l
  · subst e; rw [hl] at hq; injection hq with hq; subst hq; exact absurd hd hk
  · exact (World.putObj_heap_other (by omega)).trans hq

/-- the iterator's contract: it yields N values, each laid anew -/
def SeqIt (m : Nat) (P : Program) (gf : Nat) (lb : Array Value) (N : Nat) (Arg : Nat → Value → World → World → Prop) (Rd : World → Prop) (w : World) : Prop :=
  ∀ (l : Nat) (J : Nat → World → Prop) (Jx : World → Prop) (W : World), Below w.heap.size w W → (∀ k W', J k W' → Rd W') → (∀ k W' W'', J k W' → Below W'.heap.size W' W'' → J k W'') →
    (∀ k v W' W'', J k W' → k < N → Below W'.heap.size W' W'' → Arg k v W' W'' → YieldAt Fence.wide (m - 1) P l #[v] W'' fun e W3 => (e = .returned (.bool true) ∧ J (k + 1) W3) ∨ (e = .returned (.bool false) ∧ Jx W3)) →
    J 0 W → CallsIn Fence.wide m P gf (#[.func (.yield l) #[] #[]] ++ lb) W fun e W' => (∃ v, e = .returned v) ∧ (J N W' ∨ Jx W')

/-- how a round may be left -/
def roundEnd9 (I : World → Prop) (Ix : Code → World → Prop) (W : World) : Exit → Act → World → Prop
  | .normal, _, W' => Recs W W' ∧ I W'
  | .ret, _, W' => Recs W W' ∧ Ix .ret W'
  | .exit id, _, W' => Recs W W' ∧ Ix (.exit id) W'
  | .goto t, _, W' => Recs W W' ∧ Ix (.goto t) W'
  | .panic _, _, _ => False
  | .outgrown, _, _ => False

theorem range_it {m : Nat} {P : Program} {g : Operand} {ps : Array Tmp} {assign body : Code} {Q : Exit → Act → World → Prop} {a : Act} {w : World} {gf : Nat} {lb : Array Value}
    (hg : a.eval g = .func (.func gf) #[] lb) (eg : ∀ args w, (callFunc gf args).run P w = .ok (.enter gf args) w)
    {N : Nat} {Arg : Nat → Value → World → World → Prop} {Rd : World → Prop} (hseq : SeqIt (m - 1) P gf lb N Arg Rd w) (hps : ps.size = 1)
    (I : Nat → World → Prop) (Ix : Code → World → Prop) (hI : ∀ k W W', I k W → Rows9 w.heap.size W W' → I k W') (hIx : ∀ c W W', Ix c W → Rows9 w.heap.size W W' → Ix c W')
    (hsz : ∀ k W, I k W → w.heap.size ≤ W.heap.size)
    (h0 : I 0 w) (hrd : ∀ k W, I k W → Rd W) (a₁ : Value → Act)
    (hassign : ∀ (l : Nat) (v : Value) (W : World) (K : Act → World → Prop), K (a₁ v) W →
      assign.wpIn (Fence.wide.inRound l) (m - 1 - 1) P (Exit.then K (fun _ _ _ => False)) { tmps := (ps.zip #[v]).foldl (fun t (p, v) => t.setIfInBounds p v) a.tmps, defers := [] } W)
    (hbody : ∀ (l k : Nat) (v : Value) (W0 W1 W : World), I k W0 → k < N → Below W0.heap.size W0 W1 → Arg k v W0 W1 → Rows9 w.heap.size W1 W → I k W → body.wpIn (Fence.wide.inRound l) (m - 1 - 1) P (roundEnd9 (I (k + 1)) Ix W) (a₁ v) W)
    (hdone : ∀ (D : Nat) (W : World), w.heap.size ≤ D → I N W → W.heap[D]? = some (.deferred (some [])) → Q .normal { a with defers := { target := .collected D, args := #[] } :: a.defers } W)
    (hstop : ∀ (D : Nat) (c : Code) (W : World), w.heap.size ≤ D → Ix c W → W.heap[D]? = some (.deferred (some [])) → c.wpIn Fence.wide m P Q { a with defers := { target := .collected D, args := #[] } :: a.defers } W) :
    (Code.rangeFunc g ps assign body).wpIn Fence.wide m P Q a w := by
  refine wpIn_rangeFunc fun fn hfn => ?_
  let rec_ : LoopState → Option Code → Loop := fun st pe => { state := st, pending := pe, fn, tmps := a.tmps, params := ps, assign, body, defers := w.heap.size }
  obtain ⟨R, hR⟩ : ∃ R, R = rec_ := ⟨_, rfl⟩
  obtain ⟨W1, hW1⟩ : ∃ W1, W1 = (w.alloc (.deferred (some []))).alloc (.loop (R .ready none)) := ⟨_, rfl⟩
  have hs1 : W1.heap.size = w.heap.size + 2 := by rw [hW1]; simp
  have hL : W1.heap[w.heap.size + 1]? = some (.loop (R .ready none)) := by
    have h := World.alloc_heap_new (w.alloc (.deferred (some []))) (.loop (R .ready none))
    rw [World.size_alloc] at h
    rw [hW1]; exact h
  have hD : W1.heap[w.heap.size]? = some (.deferred (some [])) := by
    rw [hW1]; exact (Below.heap_alloc _ _ _ (by simp)).trans (World.alloc_heap_new w _)
  have hb1 : Below w.heap.size w W1 := by rw [hW1]; exact ((Below.refl _ w).alloc (Nat.le_refl _) _).alloc (by simp) _
  have nl : ∀ l : Loop, ¬ ((∃ cs t z, Obj.loop l = Obj.cells cs t z) ∨ ∃ es n, Obj.loop l = Obj.map es n) := fun l h => by rcases h with ⟨_, _, _, h⟩ | ⟨_, _, h⟩ <;> cases h
  refine ⟨w.heap.size + 1, [{ target := .collected w.heap.size, args := #[] }], W1, { target := .fn (.func gf) lb, args := #[.func (.yield (w.heap.size + 1)) #[] #[]] }, W1, gf,
    #[.func (.yield (w.heap.size + 1)) #[] #[]] ++ lb, W1, ?_, ?_, ?_, ?_, ?_, ?_⟩
  · rw [hW1, hR]; exact run_enterLoop_outer _ _ _ _ _
  · simp only [resolve, hg]
    simp [go_sem]
  · intro f' hf'; simp [Target.leads] at hf'; subst hf'; trivial
  · simp [invoke, go_sem, eg]
  · intro h; simp [Fence.wide] at h
  refine (hseq (w.heap.size + 1)
    (fun k W => I k W ∧ W.heap[w.heap.size + 1]? = some (.loop (R .ready none)) ∧ W.heap[w.heap.size]? = some (.deferred (some [])))
    (fun W => ∃ c, Ix c W ∧ W.heap[w.heap.size + 1]? = some (.loop (R .done (some c))) ∧ W.heap[w.heap.size]? = some (.deferred (some [])))
    W1 hb1 (fun k W h => hrd k W h.1) (fun k W W' h hb => ⟨hI k W W' h.1 (Rows9.of_below hb (hsz k W h.1)), (hb.block _ (Array.getElem?_eq_some_iff.1 h.2.1).1).trans h.2.1, (hb.block _ (Array.getElem?_eq_some_iff.1 h.2.2).1).trans h.2.2⟩)
    ?_ ⟨hI 0 w W1 h0 (Rows9.of_below hb1 (Nat.le_refl _)), hL, hD⟩).mono ?_
  · -- one round
    rintro k v W0 W ⟨hi0, hl0, hd0⟩ hk hb0 harg
    have hl : W.heap[w.heap.size + 1]? = some (.loop (R .ready none)) := (hb0.block _ (Array.getElem?_eq_some_iff.1 hl0).1).trans hl0
    have hd : W.heap[w.heap.size]? = some (.deferred (some [])) := (hb0.block _ (Array.getElem?_eq_some_iff.1 hd0).1).trans hd0
    have hi : I k W := hI k W0 W hi0 (Rows9.of_below hb0 (hsz k W0 hi0))
    have hlt : w.heap.size + 1 < W.heap.size := (Array.getElem?_eq_some_iff.1 hl).1
    have hy := run_yield (P := P) (args := #[v]) hl (by rw [hR]; exact hps.symm)
    rw [hR] at hy
    refine ⟨fn, _, assign, body, hy, roundIn_of_wpIn hfn (hassign _ v W _ ⟨_, run_beginRound hl (by rw [hR]), ?_⟩)⟩
    obtain ⟨W2, hW2⟩ : ∃ W2, W2 = W.putObj (w.heap.size + 1) (.loop { R .ready none with state := .busy }) := ⟨_, rfl⟩
    have hl2 : W2.heap[w.heap.size + 1]? = some (.loop { R .ready none with state := .busy }) := by rw [hW2]; exact World.putObj_heap_same hlt
    have hd2 : W2.heap[w.heap.size]? = some (.deferred (some [])) := by rw [hW2]; exact (World.putObj_heap_other (by omega)).trans hd
    have hr2 : Rows9 w.heap.size W W2 := by rw [hW2]; exact rows9_put W _ _ _ hl (nl _) (by omega)
    rw [← hW2]
    refine wpIn_mono (hbody _ k v W0 W W2 hi0 hk hb0 harg hr2 (hI k W W2 hi hr2)) ?_
    have fin : ∀ (jump : Option Code) (W3 : World), Recs W2 W3 →
        (Instr.endRound (w.heap.size + 1) jump).run P W3 = .ok (.bool jump.isNone) (W3.putObj (w.heap.size + 1) (.loop (R (if jump.isNone then .ready else .done) jump))) ∧
        (W3.putObj (w.heap.size + 1) (.loop (R (if jump.isNone then .ready else .done) jump))).heap[w.heap.size + 1]? = some (.loop (R (if jump.isNone then .ready else .done) jump)) ∧
        (W3.putObj (w.heap.size + 1) (.loop (R (if jump.isNone then .ready else .done) jump))).heap[w.heap.size]? = some (.deferred (some [])) ∧
        Rows9 w.heap.size W3 (W3.putObj (w.heap.size + 1) (.loop (R (if jump.isNone then .ready else .done) jump))) := fun jump W3 hk3 => by
      have hl3 := hk3 _ _ hl2 (by intro _ _ _ h; cases h) (by intro _ _ h; cases h)
      have hd3 := hk3 _ _ hd2 (by intro _ _ _ h; cases h) (by intro _ _ h; cases h)
      have hr3 := run_endRound (P := P) jump hl3
      have hs3 := (Array.getElem?_eq_some_iff.1 hl3).1
      rw [hR] at hr3 ⊢
      exact ⟨hr3, World.putObj_heap_same hs3, (World.putObj_heap_other (by omega)).trans hd3, rows9_put W3 _ _ _ hl3 (nl _) (by omega)⟩
    rintro e a3 W3 hp
    cases e with
    | normal =>
      obtain ⟨hk3, hi3⟩ := hp
      obtain ⟨hr, hl4, hd4, hb4⟩ := fin none W3 hk3
      exact ⟨_, _, hr, .inl ⟨rfl, hI _ _ _ hi3 hb4, hl4, hd4⟩⟩
    | ret =>
      obtain ⟨hk3, hi3⟩ := hp
      obtain ⟨hr, hl4, hd4, hb4⟩ := fin (some .ret) W3 hk3
      exact ⟨_, _, hr, .inr ⟨rfl, .ret, hIx _ _ _ hi3 hb4, hl4, hd4⟩⟩
    | exit id =>
      obtain ⟨hk3, hi3⟩ := hp
      obtain ⟨hr, hl4, hd4, hb4⟩ := fin (some (.exit id)) W3 hk3
      exact ⟨_, _, hr, .inr ⟨rfl, .exit id, hIx _ _ _ hi3 hb4, hl4, hd4⟩⟩
    | goto t =>
      obtain ⟨hk3, hi3⟩ := hp
      obtain ⟨hr, hl4, hd4, hb4⟩ := fin (some (.goto t)) W3 hk3
      exact ⟨_, _, hr, .inr ⟨rfl, .goto t, hIx _ _ _ hi3 hb4, hl4, hd4⟩⟩
    | panic ch => exact hp.elim
    | outgrown => exact hp.elim
  · -- behind the iterator
    rintro e W2 ⟨⟨v, rfl⟩, (⟨hi, hl, hd⟩ | ⟨c, hi, hl, hd⟩)⟩
    · exact ⟨none, _, by have h := run_endLoop (P := P) hl (by rw [hR]; simp [rec_]); rw [hR] at h; exact h, hdone _ _ (Nat.le_refl _) (hI _ _ _ hi (rows9_put W2 _ _ _ hl (nl _) (by omega))) ((World.putObj_heap_other (by omega)).trans hd)⟩
    · exact ⟨some c, _, by have h := run_endLoop (P := P) hl (by rw [hR]; simp [rec_]); rw [hR] at h; exact h, hstop _ c _ (Nat.le_refl _) (hIx _ _ _ hi (rows9_put W2 _ _ _ hl (nl _) (by omega))) ((World.putObj_heap_other (by omega)).trans hd)⟩
end Go.Proofs.YtlkgicaajenhaaaDoor

namespace Go.Proofs.YtlkgicaajenhaaaDoor
open Go.RowKit
set_option linter.unusedVariables false

theorem oper_round {P : Program} {o : Oper} {a : Act} {w : World} {K : Act → World → Prop} {Q : Exit → Act → World → Prop} (l n : Nat) (hd : ∀ c, o.op ≠ Op.defer c) (h : o.wp P a w K Q) : o.wpIn (Fence.wide.inRound l) n P a w K Q := by
  unfold Oper.wpIn
  refine ⟨fun _ _ => trivial, ?_⟩
  rw [Fence.inRound_round, Oper.semAt_some l _ _ hd]
  unfold Oper.wp at h
  have hdep : (Fence.wide.inRound l).depth.isSome = true → 1 ≤ n := fun h => by simp [Fence.wide] at h
  generalize (execOp a.eval o).run P w = r at h ⊢
  cases r with
  | ok x w' =>
    cases x <;> simp only [Oper.upon] at h <;> simp only [Oper.uponIn]
    all_goals first
      | exact h
      | (refine ⟨hdep, CallsIn.inRound l (callsIn_wide.2 (Calls.mono h ?_))⟩; intro e w'' he; cases e <;> exact he)
      | (refine ⟨hdep, fun c cs _ => ?_⟩; obtain ⟨v, w'', hr, hs⟩ := h c cs; exact ⟨v, w'', hr, stepsIn_wide.2 hs⟩)
  | halt x w' => cases x <;> simp only [Oper.upon] at h <;> simp only [Oper.uponIn] <;> exact h

theorem wpOp_round {P : Program} {ops : Array Oper} {Q : Exit → Act → World → Prop} {i : Nat} {K : Act → World → Prop} {a : Act} {w : World} (l n : Nat) (hout : ¬ LetsOut Q) (hd : ∀ (j : Nat) (o : Oper), ops[j]? = some o → ∀ c, o.op ≠ Op.defer c) (h : wpOp P ops Q i K a w) :
    wpOpIn (Fence.wide.inRound l) n P ops Q i K a w := by
  unfold wpOp at h
  unfold wpOpIn
  cases ho : ops[i]? with
  | none => simpa [ho] using h
  | some o =>
    simp only [ho] at h ⊢
    by_cases hw : Region.wanted o (yielded ops a.tmps) = true
    · simp only [hw, if_true] at h ⊢
      exact oper_round l n (hd i o ho) (h.resolve_right fun h => hout h.2)
    · simp only [hw, if_false, Bool.false_eq_true] at h ⊢
      exact ⟨fun _ _ => trivial, h⟩

theorem any_round {P : Program} {md : Region.Mode} {ops : Array Oper} {Q : Exit → Act → World → Prop} (l n : Nat) (hout : ¬ LetsOut Q) (hd : ∀ (j : Nat) (o : Oper), ops[j]? = some o → ∀ c, o.op ≠ Op.defer c) :
    ∀ (fuel : Nat) (listed : Array Bool) (a : Act) (w : World), wpAny P md ops Q fuel listed a w → wpAnyIn (Fence.wide.inRound l) n P md ops Q fuel listed a w
  | 0, _, _, _, h => h
  | fuel + 1, _, _, _, h => ⟨h.1, fun i hi => wpOpIn_mono (fun a' w' h' => any_round l n hout hd fuel _ a' w' h') (wpOp_round l n hout hd (h.2 i hi))⟩

/-- no operation of the region puts a call off -/
def noDefer (ops : Array Oper) : Bool := ops.all fun o => match o.op with | .defer _ => false | _ => true
theorem noDefer_spec {ops : Array Oper} (h : noDefer ops = true) : ∀ (j : Nat) (o : Oper), ops[j]? = some o → ∀ c, o.op ≠ Op.defer c := by
  intro j o ho c e
  unfold noDefer at h
  rw [Array.all_eq_true] at h
  obtain ⟨hj, rfl⟩ := Array.getElem?_eq_some_iff.1 ho
  have := h j hj
  rw [e] at this
  cases this

/-- off its end alone -/
def Calm (Q : Exit → Act → World → Prop) : Exit → Act → World → Prop
  | .normal, a, w => Q .normal a w
  | _, _, _ => False
theorem calm_not_out {Q : Exit → Act → World → Prop} : ¬ LetsOut (Calm Q) := fun ⟨_, _, h⟩ => h
theorem region_round {P : Program} {ops : Array Oper} {Q : Exit → Act → World → Prop} (S : World → Prop) {id l n : Nat} {a : Act} {w : World} (hm : P.follows .mixedOrders = true) (hd : noDefer ops = true) (hS : S w.drew)
    (h : S w.drew → wpAnyH P .any ops (Calm Q) S ops.size (Array.replicate ops.size false) a w.drew) : (Code.region id ops true).wpIn (Fence.wide.inRound l) n P Q a w :=
  wpIn_mono (wpIn_region_any hm (any_round l n calm_not_out (noDefer_spec hd) _ _ _ _ (wpAny_of_held _ _ _ _ (h hS)))) fun e a w h => by cases e <;> first | exact h | exact h.elim
end Go.Proofs.YtlkgicaajenhaaaDoor
