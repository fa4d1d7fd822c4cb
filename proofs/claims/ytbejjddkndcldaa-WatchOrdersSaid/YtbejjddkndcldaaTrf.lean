/- A trail with its footprint; a literal put there, or decided. -/
import Derived.Test.YtbejjddkndcldaaTrlB
import Derived.Test.YtbejjddkndcldaaFt
namespace Go.Proofs.Ytbejjddkndcldaa
open Go.RowKit
set_option linter.unusedVariables false
set_option linter.unusedSimpArgs false

/-- the blocks of a trail -/
def tfoot (g P V S : Nat) (A D : Option Addr) (q : Nat) : Prop := q = g ∨ q = P ∨ q = V ∨ q = S ∨ A.map Addr.block = some q ∨ D.map Addr.block = some q
theorem own_map {A : Option Addr} {n c : Nat} : (Value.slice A n c).ownBlock = A.map Addr.block := by cases A <;> rfl
structure TrX (w : World) (base g P : Nat) (F : Nat → Prop) (t : TS) : Prop where
  ex : ∃ (V S : Nat) (A D : Option Addr) (c d : Nat), Blk w g 97 #[.slice A t.recs.length c, .slice D t.starts.length d, .slice (some ⟨V, 0, none⟩) t.ph.length t.ph.length, .slice (some ⟨S, 0, none⟩) t.ph.length t.ph.length, .slice (some ⟨P, 0, none⟩) t.ph.length t.ph.length] ∧
    w.ownsRow base 3 1 (.slice A t.recs.length c) t.recs.length (litsV t.recs) ∧ w.ownsRow base 3 1 (.slice D t.starts.length d) t.starts.length (startsV t.starts) ∧
    (∀ q, (Value.slice A t.recs.length c).ownBlock = some q → (Value.slice D t.starts.length d).ownBlock = some q → False) ∧ Vals w V t.ph.length t.recs ∧ Spots w S t.ph.length t.recs ∧ base ≤ V ∧ base ≤ S ∧ ∀ q, tfoot g P V S A D q → F q
  phs : BlkB w P 4 t.ph
  hg : base ≤ g
  hP : base ≤ P
theorem TrX.trM {w : World} {base g P : Nat} {F : Nat → Prop} {t : TS} (h : TrX w base g P F t) : TrM w base g P t := by
  obtain ⟨V, S, A, D, c, d, b1, b2, b3, b4, b5, b6, b7, b8, b9⟩ := h.ex
  exact ⟨⟨V, S, A, D, c, d, b1, b2, b3, b4, b5, b6, b7, b8⟩, h.phs, h.hg, h.hP⟩
/-- it hangs on its own blocks alone -/
theorem TrX.stay {w w' : World} {base g P : Nat} {F : Nat → Prop} {t : TS} (h : TrX w base g P F t) (hk : ∀ q o, F q → w.heap[q]? = some o → w'.heap[q]? = some o) : TrX w' base g P F t := by
  obtain ⟨V, S, A, D, c, d, b1, b2, b3, b4, ⟨cv, b5, b5'⟩, ⟨cp, b6, b6'⟩, b7, b8, b9⟩ := h.ex
  have ko : ∀ {n : Nat} {v : Value} {xs : List Value}, (∀ q, v.ownBlock = some q → F q) → w.ownsRow base 3 1 v n xs → w'.ownsRow base 3 1 v n xs := fun hF ho => by
    refine ⟨ho.1, ?_⟩
    rcases ho.2 with hn | ⟨q, cap, cur, hv, hq, hh, rest⟩
    · exact .inl hn
    · exact .inr ⟨q, cap, cur, hv, hq, hk q _ (hF q (by rw [hv]; rfl)) hh, rest⟩
  exact ⟨⟨V, S, A, D, c, d, hk _ _ (b9 _ (by unfold tfoot; simp)) b1, ko (fun q hq => b9 q (by rw [own_map] at hq; unfold tfoot; simp [hq])) b2, ko (fun q hq => b9 q (by rw [own_map] at hq; unfold tfoot; simp [hq])) b3, b4,
    ⟨cv, hk _ _ (b9 _ (by unfold tfoot; simp)) b5, b5'⟩, ⟨cp, hk _ _ (b9 _ (by unfold tfoot; simp)) b6, b6'⟩, b7, b8, b9⟩, hk _ _ (b9 _ (by unfold tfoot; simp)) h.phs, h.hg, h.hP⟩
theorem TrX.below {w w' : World} {base g P : Nat} {F : Nat → Prop} {t : TS} (h : TrX w base g P F t) (hb : Below w.heap.size w w') : TrX w' base g P F t := h.stay fun q o _ hq => (hb.block q (Array.getElem?_eq_some_iff.1 hq).1).trans hq
theorem TrX.apart {w w' : World} {base g P : Nat} {F G : Nat → Prop} {t : TS} (h : TrX w base g P F t) (hf : Ft G w w') (hd : ∀ q, F q → G q → False) : TrX w' base g P F t := h.stay fun q o h1 hq => (hf.at_ hq fun e => hd q h1 e).trans hq
theorem TrX.drewE {w w' : World} {base g P : Nat} {F : Nat → Prop} {t : TS} (h : TrX w base g P F t) (hd : ∃ m, w' = w.drewN m) : TrX w' base g P F t := by
  obtain ⟨m, rfl⟩ := hd
  exact ⟨h.ex, h.phs, h.hg, h.hP⟩
/-- how things stand ahead of the append -/
structure MidX (w W : World) (base g P V S : Nat) (A D : Option Addr) (c d : Nat) (t : TS) (l rs : Int) : Prop where
  hd : Blk W g 97 #[.slice A t.recs.length c, .slice D t.starts.length d, .slice (some ⟨V, 0, none⟩) t.ph.length t.ph.length, .slice (some ⟨S, 0, none⟩) t.ph.length t.ph.length, .slice (some ⟨P, 0, none⟩) t.ph.length t.ph.length]
  rl : W.ownsRow base 3 1 (.slice A t.recs.length c) t.recs.length (litsV t.recs)
  rd : W.ownsRow base 3 1 (.slice D t.starts.length d) t.starts.length (startsV t.starts)
  vals : Vals W V t.ph.length (t.push l rs).recs
  spots : Spots W S t.ph.length (t.push l rs).recs
  phs : BlkB W P 4 (t.push l rs).ph
  tn : Ft (tfoot g P V S A D) w W
/-- in the midst of it -/
structure PmX (w W : World) (base g P V S k : Nat) (A D : Option Addr) (c d : Nat) (t : TS) (u : Value) (rs' : List Rec) (ph' : List Bool) : Prop where
  hd : Blk W g 97 #[.slice A t.recs.length c, .slice D t.starts.length d, .slice (some ⟨V, 0, none⟩) t.ph.length t.ph.length, .slice (some ⟨S, 0, none⟩) t.ph.length t.ph.length, .slice (some ⟨P, 0, none⟩) t.ph.length t.ph.length]
  rl : W.ownsRow base 3 1 (.slice A t.recs.length c) t.recs.length (litsV t.recs)
  rd : W.ownsRow base 3 1 (.slice D t.starts.length d) t.starts.length (startsV t.starts)
  vals : ValsAt W V t.ph.length k u t.recs
  spots : Spots W S t.ph.length rs'
  phs : BlkB W P 4 ph'
  tn : Ft (tfoot g P V S A D) w W
section
variable {w W : World} {base g P V S k : Nat} {A D : Option Addr} {c d : Nat} {t : TS} {u : Value} {rs' : List Rec} {ph' : List Bool}
theorem PmX.ne (h : PmX w W base g P V S k A D c d t u rs' ph') : g ≠ S ∧ g ≠ V ∧ g ≠ P ∧ V ≠ S ∧ V ≠ P ∧ S ≠ P := by
  obtain ⟨b1, b2, b3, ⟨cv, v1, v2⟩, ⟨cp, s1, s2, s3⟩, b6, b7⟩ := h
  exact ⟨b1.ne_ s1 (by decide), b1.ne_ v1 (by decide), b1.ne_ b6 (by decide), v1.ne_ s1 (by decide), v1.ne_ b6 (by decide), s1.ne_ b6 (by decide)⟩
theorem PmX.far (h : PmX w W base g P V S k A D c d t u rs' ph') : (∀ {n : Nat} {v : Value} {xs : List Value}, W.ownsRow base 3 1 v n xs → some S ≠ v.ownBlock ∧ some V ≠ v.ownBlock ∧ some P ≠ v.ownBlock) := fun ho => by
  obtain ⟨b1, b2, b3, ⟨cv, v1, v2⟩, ⟨cp, s1, s2, s3⟩, b6, b7⟩ := h
  exact ⟨own_blk_ne ho s1 (by decide), own_blk_ne ho v1 (by decide), own_blk_ne ho b6 (by decide)⟩
theorem PmX.putV (h : PmX w W base g P V S k A D c d t u rs' ph') (hk : k < t.ph.length) (hV : base ≤ V) (v : Value) : PmX w (W.setCell ⟨V, k, none⟩ v) base g P V S k A D c d t v rs' ph' := by
  obtain ⟨n1, n2, n3, n4, n5, n6⟩ := h.ne
  have f1 := (h.far h.rl).2.1
  have f2 := (h.far h.rd).2.1
  obtain ⟨cv, v1, v2⟩ := id h.vals
  exact ⟨h.hd.far n2 _, own_setCell h.rl _ f1, own_setCell h.rd _ f2, h.vals.set hk v, h.spots.keep fun X hX => hX.far (Ne.symm n4) _, Blk.far h.phs (Ne.symm n5) _, h.tn.set (fun _ => by unfold tfoot; simp) _ _⟩
theorem PmX.putP (h : PmX w W base g P V S k A D c d t u rs' ph') (hP : base ≤ P) (b : Bool) : PmX w (W.setCell ⟨P, k, none⟩ (.bool b)) base g P V S k A D c d t u rs' (ph'.set k b) := by
  obtain ⟨n1, n2, n3, n4, n5, n6⟩ := h.ne
  have f1 := (h.far h.rl).2.2
  have f2 := (h.far h.rd).2.2
  exact ⟨h.hd.far n3 _, own_setCell h.rl _ f1, own_setCell h.rd _ f2, h.vals.keep fun X hX => hX.far n5 _, h.spots.keep fun X hX => hX.far n6 _, BlkB.set_ h.phs k b, h.tn.set (fun _ => by unfold tfoot; simp) _ _⟩
end
theorem PmX.start {w : World} {base g P V S k : Nat} {A D : Option Addr} {c d : Nat} {t : TS} {l rs : Int} (b1 : Blk w g 97 #[.slice A t.recs.length c, .slice D t.starts.length d, .slice (some ⟨V, 0, none⟩) t.ph.length t.ph.length, .slice (some ⟨S, 0, none⟩) t.ph.length t.ph.length, .slice (some ⟨P, 0, none⟩) t.ph.length t.ph.length])
    (b2 : w.ownsRow base 3 1 (.slice A t.recs.length c) t.recs.length (litsV t.recs)) (b3 : w.ownsRow base 3 1 (.slice D t.starts.length d) t.starts.length (startsV t.starts)) (b4 : Vals w V t.ph.length t.recs) (b5 : Spots w S t.ph.length t.recs) (b6 : BlkB w P 4 t.ph)
    (hS : base ≤ S) (hk : k < t.ph.length) (hl : l.natAbs = k + 1) (hn : find t.recs l = none) (h0 : ∀ r ∈ t.recs, r.l ≠ 0) :
    ∃ u, PmX w ((((w.setCell ⟨S, k * 3, none⟩ (.int .i64 (t.recs.length : Nat))).setCell ⟨S, k * 3 + 1, none⟩ (.int .i64 (t.starts.length : Nat))).setCell ⟨S, k * 3 + 2, none⟩ (.int .i64 rs)).drew) base g P V S k A D c d t u (t.push l rs).recs t.ph := by
  obtain ⟨cv, v1, v2⟩ := id b4
  obtain ⟨cp, s1, s2, s3⟩ := id b5
  have gS : g ≠ S := b1.ne_ s1 (by decide)
  have VS : V ≠ S := v1.ne_ s1 (by decide)
  have SP : S ≠ P := s1.ne_ b6 (by decide)
  have hsp := b5.snoc hk hl hn h0 t.starts.length rs
  have oS := fun {n : Nat} {v : Value} {xs : List Value} (ho : w.ownsRow base 3 1 v n xs) => own_blk_ne ho s1 (by decide)
  have t1 := (Ft.refl (F := tfoot g P V S A D) w).set (q := S) (fun _ => by unfold tfoot; simp) (k * 3) (.int .i64 (t.recs.length : Nat))
  have r1 := own_setCell b2 (p := ⟨S, k * 3, none⟩) (.int .i64 (t.recs.length : Nat)) (oS b2)
  have q1 := own_setCell b3 (p := ⟨S, k * 3, none⟩) (.int .i64 (t.recs.length : Nat)) (oS b3)
  have g1 := b1.far (p := ⟨S, k * 3, none⟩) gS (.int .i64 (t.recs.length : Nat))
  have p1 := Blk.far b6 (p := ⟨S, k * 3, none⟩) (Ne.symm SP) (.int .i64 (t.recs.length : Nat))
  have m1 := (b4.but hk).keep (w' := w.setCell ⟨S, k * 3, none⟩ (.int .i64 (t.recs.length : Nat))) fun X hX => hX.far VS _
  have s1 := s1.set_ (k * 3) (.int .i64 (t.recs.length : Nat))
  obtain ⟨wa, hwa⟩ : ∃ wa, wa = w.setCell ⟨S, k * 3, none⟩ (.int .i64 (t.recs.length : Nat)) := ⟨_, rfl⟩
  rw [← hwa] at hsp t1 r1 q1 g1 p1 m1 s1
  rw [← hwa]
  have t2 := t1.set (q := S) (fun _ => by unfold tfoot; simp) (k * 3 + 1) (.int .i64 (t.starts.length : Nat))
  have r2 := own_setCell r1 (p := ⟨S, k * 3 + 1, none⟩) (.int .i64 (t.starts.length : Nat)) (own_blk_ne r1 s1 (by decide))
  have q2 := own_setCell q1 (p := ⟨S, k * 3 + 1, none⟩) (.int .i64 (t.starts.length : Nat)) (own_blk_ne q1 s1 (by decide))
  have g2 := g1.far (p := ⟨S, k * 3 + 1, none⟩) gS (.int .i64 (t.starts.length : Nat))
  have p2 := Blk.far p1 (p := ⟨S, k * 3 + 1, none⟩) (Ne.symm SP) (.int .i64 (t.starts.length : Nat))
  have m2 := m1.keep (w' := wa.setCell ⟨S, k * 3 + 1, none⟩ (.int .i64 (t.starts.length : Nat))) fun X hX => hX.far VS _
  have s2 := s1.set_ (k * 3 + 1) (.int .i64 (t.starts.length : Nat))
  obtain ⟨wb, hwb⟩ : ∃ wb, wb = wa.setCell ⟨S, k * 3 + 1, none⟩ (.int .i64 (t.starts.length : Nat)) := ⟨_, rfl⟩
  rw [← hwb] at hsp t2 r2 q2 g2 p2 m2 s2
  rw [← hwb]
  exact ⟨_, (g2.far gS _).drew_, own_setCell r2 _ (own_blk_ne r2 s2 (by decide)), own_setCell q2 _ (own_blk_ne q2 s2 (by decide)), (m2.keep (w' := wb.setCell ⟨S, k * 3 + 2, none⟩ (.int .i64 rs)) fun X hX => hX.far VS _).keep fun X hX => hX.drew_, hsp.keep fun X hX => hX.drew_, Blk.drew_ (Blk.far p2 (Ne.symm SP) _), (t2.set (fun _ => by unfold tfoot; simp) _ _).drew⟩
theorem PmX.mid {w W : World} {base g P V S k : Nat} {A D : Option Addr} {c d : Nat} {t : TS} {l rs : Int} (h : PmX w W base g P V S k A D c d t (.int .i8 (if 0 < l then 1 else -1)) (t.push l rs).recs (t.push l rs).ph) (hk : k < t.ph.length) (hl : l.natAbs = k + 1) (hn : find t.recs l = none) : MidX w W base g P V S A D c d t l rs :=
  ⟨h.hd, h.rl, h.rd, h.vals.snoc hk hl hn rfl _ _, h.spots, h.phs, h.tn⟩
theorem MidX.make {w : World} {base g P V S k : Nat} {A D : Option Addr} {c d : Nat} {t : TS} {l rs : Int} (b1 : Blk w g 97 #[.slice A t.recs.length c, .slice D t.starts.length d, .slice (some ⟨V, 0, none⟩) t.ph.length t.ph.length, .slice (some ⟨S, 0, none⟩) t.ph.length t.ph.length, .slice (some ⟨P, 0, none⟩) t.ph.length t.ph.length])
    (b2 : w.ownsRow base 3 1 (.slice A t.recs.length c) t.recs.length (litsV t.recs)) (b3 : w.ownsRow base 3 1 (.slice D t.starts.length d) t.starts.length (startsV t.starts)) (b4 : Vals w V t.ph.length t.recs) (b5 : Spots w S t.ph.length t.recs) (b6 : BlkB w P 4 t.ph)
    (hV : base ≤ V) (hS : base ≤ S) (hP : base ≤ P) (hk : k < t.ph.length) (hl : l.natAbs = k + 1) (hn : find t.recs l = none) (h0 : ∀ r ∈ t.recs, r.l ≠ 0) :
    ∃ W1, W1 = (((w.setCell ⟨S, k * 3, none⟩ (.int .i64 (t.recs.length : Nat))).setCell ⟨S, k * 3 + 1, none⟩ (.int .i64 (t.starts.length : Nat))).setCell ⟨S, k * 3 + 2, none⟩ (.int .i64 rs)).drew ∧
      (0 < l → MidX w (((W1.setCell ⟨V, k, none⟩ (.int .i8 (-1))).setCell ⟨V, k, none⟩ (.int .i8 1)).setCell ⟨P, k, none⟩ (.bool true)) base g P V S A D c d t l rs) ∧
      (¬ 0 < l → MidX w ((W1.setCell ⟨V, k, none⟩ (.int .i8 (-1))).setCell ⟨P, k, none⟩ (.bool false)) base g P V S A D c d t l rs) := by
  obtain ⟨u, hs⟩ := PmX.start (rs := rs) b1 b2 b3 b4 b5 b6 hS hk hl hn h0
  refine ⟨_, rfl, fun hp => ?_, fun hp => ?_⟩
  · have h1 := ((hs.putV hk hV (.int .i8 (-1))).putV hk hV (.int .i8 1)).putP hP true
    refine PmX.mid ?_ hk hl hn
    rw [if_pos hp]
    have e : (t.push l rs).ph = t.ph.set k true := by simp [TS.push, hl, hp]
    rw [e]
    exact h1
  · have h1 := (hs.putV hk hV (.int .i8 (-1))).putP hP false
    refine PmX.mid ?_ hk hl hn
    rw [if_neg hp]
    have e : (t.push l rs).ph = t.ph.set k false := by simp [TS.push, hl, hp]
    rw [e]
    exact h1

/-- behind the append -/
theorem MidX.done {w W W9 : World} {base g P V S : Nat} {A D : Option Addr} {c d : Nat} {t : TS} {l rs : Int} {v' : Value} {b : Value} {F : Nat → Prop} (hF : ∀ q, tfoot g P V S A D q → F q) (h : MidX w W base g P V S A D c d t l rs) (hB : base ≤ W.heap.size) (hV : base ≤ V) (hS : base ≤ S) (hP : base ≤ P) (hg : base ≤ g) (hne : ∀ q, (Value.slice A t.recs.length c).ownBlock = some q → (Value.slice D t.starts.length d).ownBlock = some q → False)
    (ho : W9.ownsRow base 3 1 v' (t.recs.length + 1) (litsV t.recs ++ [.int .i64 l])) (hgr : (W.alloc (.cells #[.int .i64 l] 3)).grownBy W9 (Value.slice A t.recs.length c).ownBlock) (hv : v'.ownBlock = (Value.slice A t.recs.length c).ownBlock ∨ v'.ownBlock = some (W.alloc (.cells #[.int .i64 l] 3)).heap.size) :
    ∃ F', TrX (W9.setCell ⟨g, 0, none⟩ v') base g P F' (t.push l rs) ∧ Ft F w (W9.setCell ⟨g, 0, none⟩ v') ∧ NewF F F' w := by
  obtain ⟨WA, hWA⟩ : ∃ WA, WA = W.alloc (.cells #[.int .i64 l] 3) := ⟨_, rfl⟩
  have hsz : WA.heap.size = W.heap.size + 1 := by rw [hWA]; simp
  rw [← hWA] at hgr hv
  have bA : Below W.heap.size W WA := by rw [hWA]; exact (Below.refl _ _).alloc (Nat.le_refl _) _
  have rlA := own_below h.rl bA fun q hq => (h.rl.lt q hq).2
  have rdA := own_below h.rd bA fun q hq => (h.rd.lt q hq).2
  have K : ∀ {q : Nat} {ty : TypeId} {X : Array Value}, Blk W q ty X → ty ≠ 3 → Blk W9 q ty X := fun hq hne => (hq.below bA hq.lt).grown hgr (own_blk_ne rlA (hq.below bA hq.lt) (Ne.symm hne))
  have hg9 := K h.hd (by decide)
  have K2 : ∀ {q : Nat} {ty : TypeId} {X : Array Value} (v : Value), Blk W9 q ty X → ty ≠ 97 → Blk (W9.setCell ⟨g, 0, none⟩ v) q ty X := fun v hq hne => hq.far (hq.ne_ hg9 hne) v
  have rd9 : W9.ownsRow base 3 1 (.slice D t.starts.length d) t.starts.length (startsV t.starts) := rdA.kept hgr (by
    rcases hq : (Value.slice D t.starts.length d).ownBlock with _ | q
    · exact .inl rfl
    · exact .inr fun e => hne q e.symm hq)
  obtain ⟨A', c', rfl, _⟩ := own_slice ho
  have epl : (t.push l rs).ph.length = t.ph.length := by simp [TS.push]
  refine ⟨fun q => F q ∨ A'.map Addr.block = some q, ⟨⟨V, S, A', D, c', d, ?_, ?_, ?_, ?_, epl ▸ h.vals.keep fun X hX => K2 _ (K hX (by decide)) (by decide), epl ▸ h.spots.keep fun X hX => K2 _ (K hX (by decide)) (by decide), hV, hS, fun q hq => ?_⟩, K2 _ (K h.phs (by decide)) (by decide), hg, hP⟩, ?_, ?_⟩
  · have := hg9.set_ 0 (.slice A' (t.recs.length + 1) c')
    simpa [TS.push] using this
  · have := own_setCell ho (p := ⟨g, 0, none⟩) (.slice A' (t.recs.length + 1) c') (own_blk_ne ho hg9 (by decide))
    simpa [TS.push, litsV] using this
  · exact own_setCell rd9 (p := ⟨g, 0, none⟩) _ (own_blk_ne rd9 hg9 (by decide))
  · intro q h1 h2
    simp only [TS.push, List.length_append, List.length_singleton] at h1
    rcases hv with e | e
    · rw [h1] at e
      exact hne q e.symm h2
    · rw [h1] at e
      injection e with e
      have := (rdA.lt q h2).2
      omega
  · unfold tfoot at hq
    rcases hq with e | e | e | e | e | e
    · exact .inl (hF q (by unfold tfoot; simp [e]))
    · exact .inl (hF q (by unfold tfoot; simp [e]))
    · exact .inl (hF q (by unfold tfoot; simp [e]))
    · exact .inl (hF q (by unfold tfoot; simp [e]))
    · exact .inr e
    · exact .inl (hF q (by unfold tfoot; simp [e]))
  · exact (((h.tn.mono hF).low bA).grown hgr (fun q hq _ => hF q (by rw [own_map] at hq; unfold tfoot; simp [hq]))).set (fun _ => hF g (by unfold tfoot; simp)) _ _
  · intro q hq
    rcases hq with hq | hq
    · exact .inl hq
    · rcases hv with e | e
      · rw [own_map, own_map, hq] at e
        exact .inl (hF q (by unfold tfoot; simp [← e]))
      · rw [own_map, hq] at e
        injection e with e
        have := h.tn.size
        exact .inr (by omega)

theorem MidX.hd9 {w W W9 : World} {base g P V S : Nat} {A D : Option Addr} {c d : Nat} {t : TS} {l rs : Int} (h : MidX w W base g P V S A D c d t l rs) (hgr : (W.alloc (.cells #[.int .i64 l] 3)).grownBy W9 (Value.slice A t.recs.length c).ownBlock) :
    Blk W9 g 97 #[.slice A t.recs.length c, .slice D t.starts.length d, .slice (some ⟨V, 0, none⟩) t.ph.length t.ph.length, .slice (some ⟨S, 0, none⟩) t.ph.length t.ph.length, .slice (some ⟨P, 0, none⟩) t.ph.length t.ph.length] :=
  (h.hd.alloc (.cells #[.int .i64 l] 3)).grown hgr (own_blk_ne (own_below h.rl ((Below.refl _ _).alloc (Nat.le_refl _) (.cells #[.int .i64 l] 3)) fun q hq => (h.rl.lt q hq).2) (h.hd.alloc (.cells #[.int .i64 l] 3)) (by decide))

set_option maxHeartbeats 2000000 in
theorem push_x {w : World} {base g P : Nat} {t : TS} {F : Nat → Prop} (h : TrX w base g P F t) (hB : base ≤ w.heap.size) (l rs : Int) (hl : l ≠ 0 ∧ l.natAbs ≤ t.ph.length) (hn : find t.recs l = none) (hz : ∀ r ∈ t.recs, r.l ≠ 0) (h1 : t.ph.length ≤ 100000) (h2 : t.recs.length ≤ 100000) :
    Calls Try.prog 66 #[.pointer (some ⟨g, 0, none⟩), .int .i64 l, .int .i64 rs] w fun e w' => e = .returned (.tuple #[]) ∧ ∃ F', TrX w' base g P F' (t.push l rs) ∧ Ft F w w' ∧ NewF F F' w := by
  obtain ⟨V, S, A, D, c, d, b1, b2, b3, b4, hvals, hspots, b8, b9, hFF⟩ := h.ex
  have HFF := Lib.hid hFF
  clear hFF
  obtain ⟨cv, b5, b6, b7⟩ := id hvals
  obtain ⟨cp, s5, s6, s7⟩ := id hspots
  have hph := h.phs
  have c0 := b1.cell 0
  have c1 := b1.cell 1
  have c2 := b1.cell 2
  have c3 := b1.cell 3
  have c4 := b1.cell 4
  have f0 := b1.frozen 0
  simp at c0 c1 c2 c3 c4
  have HL := Lib.hid (fun w => var_any l w (by omega) (by omega))
  obtain ⟨k, hk⟩ : ∃ k : Nat, litVar l = (k : Int) + 1 := ⟨l.natAbs - 1, by unfold litVar; split <;> omega⟩
  have hk2 : l.natAbs = k + 1 := by unfold litVar at hk; split at hk <;> omega
  rw [hk] at HL
  have hkn : k < t.ph.length := by omega
  obtain ⟨W1, hW1, M1, M2⟩ := MidX.make (rs := rs) b1 b2 b3 hvals hspots hph b8 b9 h.hP hkn hk2 hn hz
  have gS : g ≠ S := b1.ne_ s5 (by decide)
  have gV : g ≠ V := b1.ne_ b5 (by decide)
  have gP : g ≠ P := b1.ne_ hph (by decide)
  have VS : V ≠ S := b5.ne_ s5 (by decide)
  have VP : V ≠ P := b5.ne_ hph (by decide)
  have SP : S ≠ P := s5.ne_ hph (by decide)
  have v0 := (b5.cell k).trans (b7 k hkn)
  have p0 := hph.cell hkn
  obtain ⟨x0, e0⟩ : ∃ x, w.cell? ⟨S, k * 3, none⟩ = some x := by rw [s5.cell]; exact ⟨_, Array.getElem?_eq_getElem (by omega)⟩
  obtain ⟨x1, e1⟩ : ∃ x, w.cell? ⟨S, k * 3 + 1, none⟩ = some x := by rw [s5.cell]; exact ⟨_, Array.getElem?_eq_getElem (by omega)⟩
  obtain ⟨x2, e2⟩ : ∃ x, w.cell? ⟨S, k * 3 + 2, none⟩ = some x := by rw [s5.cell]; exact ⟨_, Array.getElem?_eq_getElem (by omega)⟩
  have fS0 := s5.frozen (k * 3)
  have fS1 := s5.frozen (k * 3 + 1)
  have fS2 := s5.frozen (k * 3 + 2)
  have fV := b5.frozen k
  have fP := BlkB.frozen hph k
  have B1 : Blk W1 g 97 #[.slice A t.recs.length c, .slice D t.starts.length d, .slice (some ⟨V, 0, none⟩) t.ph.length t.ph.length, .slice (some ⟨S, 0, none⟩) t.ph.length t.ph.length, .slice (some ⟨P, 0, none⟩) t.ph.length t.ph.length] := by
    rw [hW1]; exact (((b1.far gS _).far gS _).far gS _).drew_
  have B2 : Blk W1 V 100 cv := by rw [hW1]; exact (((b5.far VS _).far VS _).far VS _).drew_
  have B3 : BlkB W1 P 4 t.ph := by rw [hW1]; exact (((Blk.far hph (Ne.symm SP) _).far (Ne.symm SP) _).far (Ne.symm SP) _).drew_
  have HS1 := Lib.hid (show W1.heap.size = w.heap.size by rw [hW1]; simp [World.drew, World.setCell])
  obtain ⟨i0, hi, hz0, hz1, hz2⟩ := info_parts infoI12
  have HH := Lib.hid h
  have HM := Lib.hid (And.intro M1 M2)
  have HW1 := Lib.hid hW1
  have HX := Lib.hid (And.intro b4 (And.intro b8 (And.intro b9 (And.intro h.hP h.hg))))
  have HB := Lib.hid (And.intro B1 (And.intro B2 B3))
  have d0 := B1.cell 0
  have d2 := B1.cell 2
  have d4 := B1.cell 4
  have g0 := B1.frozen 0
  have u0 := (B2.cell k).trans (b7 k hkn)
  have uf := B2.frozen k
  have y0 := B3.cell hkn
  have yf := BlkB.frozen B3 k
  simp at d0 d2 d4
  obtain ⟨n, hn'⟩ : ∃ n, t.ph.length = n := ⟨_, rfl⟩
  rw [hn'] at c2 c3 c4 d2 d4 hkn
  have hkk : (k : Int) < (n : Int) := by omega
  have hwk : IntKind.i64.wrap (k : Int) = (k : Int) := i64_ok (by omega)
  clear h hph b1 b2 b3 b4 b5 b6 b7 s5 s6 s7 hk hkn hn' hvals hspots M1 M2 hW1 B1 B2 B3 b8 b9
  by_cases hp : 0 < l
  · go_enter Try.func66, Try.ntmps66
    go_wp2_with fail
    refine (HL.out _).mono ?_
    rintro e w1 ⟨rfl, rfl⟩
    go_wp2_with fail
    go_region
    rw [← HW1.out]
    clear c0 c1 c2 c3 c4 f0 v0 p0 e0 e1 e2 fS0 fS1 fS2 fV fP
    have MM := Lib.hid (HM.out.1 hp)
    go_wp2_with (at_builtin; refine wpList_append1 _ rfl _ _ 32 rfl base 3 i0 (.int .i64 0) 8 Try.underlying32 hi hz0 hz1 hz2 rfl _ t.recs.length (litsV t.recs) rfl (own_below MM.out.rl ((Below.refl _ _).alloc (Nat.le_refl _) _) fun q hq => (MM.out.rl.lt q hq).2) (.int .i64 l) _ rfl ?_ rfl (by unfold maxLen; omega) (by omega) ?_ ?_)
    · have h8 := (Blk.new (((W1.setCell ⟨V, k, none⟩ (.int .i8 (-1))).setCell ⟨V, k, none⟩ (.int .i8 1)).setCell ⟨P, k, none⟩ (.bool true)) 3 #[.int .i64 l]).cell 0
      simp at h8
      simpa using h8
    · have := HS1.out
      simp
      omega
    intro v' w9 ho hgr hv
    obtain ⟨A', c', rfl, _⟩ := own_slice ho
    have HD9 := Lib.hid (MM.out.hd9 hgr)
    have HE := Lib.hid (MidX.done HFF.out MM.out (by have := HS1.out; simp; omega) HX.out.2.1 HX.out.2.2.1 HX.out.2.2.2.1 HX.out.2.2.2.2 HX.out.1 (b := undef) ho hgr (by simpa using hv))
    have z0 := HD9.out.cell 0
    have zf := HD9.out.frozen 0
    simp at z0
    clear ho hgr hv
    go_wp2
    go_end0
    exact ⟨rfl, HE.out⟩
  · have hd0 : decide (0 < l) = false := by simp [hp]
    go_enter Try.func66, Try.ntmps66
    go_wp2_with fail
    refine (HL.out _).mono ?_
    rintro e w1 ⟨rfl, rfl⟩
    go_wp2_with fail
    go_region
    rw [← HW1.out]
    clear c0 c1 c2 c3 c4 f0 v0 p0 e0 e1 e2 fS0 fS1 fS2 fV fP
    have MM := Lib.hid (HM.out.2 hp)
    go_wp2_with (at_builtin; refine wpList_append1 _ rfl _ _ 32 rfl base 3 i0 (.int .i64 0) 8 Try.underlying32 hi hz0 hz1 hz2 rfl _ t.recs.length (litsV t.recs) rfl (own_below MM.out.rl ((Below.refl _ _).alloc (Nat.le_refl _) _) fun q hq => (MM.out.rl.lt q hq).2) (.int .i64 l) _ rfl ?_ rfl (by unfold maxLen; omega) (by omega) ?_ ?_)
    · have h8 := (Blk.new ((W1.setCell ⟨V, k, none⟩ (.int .i8 (-1))).setCell ⟨P, k, none⟩ (.bool false)) 3 #[.int .i64 l]).cell 0
      simp at h8
      simpa using h8
    · have := HS1.out
      simp
      omega
    intro v' w9 ho hgr hv
    obtain ⟨A', c', rfl, _⟩ := own_slice ho
    have HD9 := Lib.hid (MM.out.hd9 hgr)
    have HE := Lib.hid (MidX.done HFF.out MM.out (by have := HS1.out; simp; omega) HX.out.2.1 HX.out.2.2.1 HX.out.2.2.2.1 HX.out.2.2.2.2 HX.out.1 (b := undef) ho hgr (by simpa using hv))
    have z0 := HD9.out.cell 0
    have zf := HD9.out.frozen 0
    simp at z0
    clear ho hgr hv
    go_wp2
    go_end0
    exact ⟨rfl, HE.out⟩
section
variable {w : World} {base g P : Nat} {F : Nat → Prop} {t : TS}
theorem put_x (h : TrX w base g P F t) (hgd : t.Good) (hB : base ≤ w.heap.size) (l rs : Int) (h0 : -9223372036854775808 ≤ l ∧ l ≤ 9223372036854775807) :
    Calls Try.prog 87 #[.pointer (some ⟨g, 0, none⟩), .int .i64 l, .int .i64 rs] w fun e w' => e = .returned (.bool (t.takes l)) ∧ ∃ F', TrX w' base g P F' (t.put l rs) ∧ Ft F w w' ∧ NewF F F' w := by
  have HT := Lib.hid (takes_any ⟨h.trM, hgd⟩ l h0)
  have HGD := Lib.hid hgd
  have H := Lib.hid h
  clear h hgd
  rcases ht : t.takes l with _ | _
  · have e : t.put l rs = t := by unfold TS.put; rw [if_neg (by simp [ht])]
    rw [e]
    rw [ht] at HT
    clear ht e
    go_enter Try.func87, Try.ntmps87
    go_wp2_with fail
    refine HT.out.mono ?_
    rintro e w1 ⟨rfl, hw⟩
    have HW := Lib.hid hw
    clear hw
    go_wp2
    go_ret
    exact ⟨rfl, F, H.out.drewE HW.out, (Ft.refl _).drewE HW.out, NewF.refl⟩
  · have e : t.put l rs = t.push l rs := by unfold TS.put; rw [if_pos ht]
    obtain ⟨h1, h2⟩ := (TS.takes_iff HGD.out.few).1 ht
    rw [e]
    rw [ht] at HT
    have HG := Lib.hid (HGD.out.push h1 h2 rs)
    have HL := Lib.hid h1
    have HF := Lib.hid h2
    clear ht e h1 h2
    go_enter Try.func87, Try.ntmps87
    go_wp2_with fail
    refine HT.out.mono ?_
    rintro e w1 ⟨rfl, hw⟩
    have HW := Lib.hid hw
    have HS := Lib.hid (show base ≤ w1.heap.size by obtain ⟨m, rfl⟩ := hw; exact hB)
    clear hw hB
    go_wp2_with fail
    refine (push_x (H.out.drewE HW.out) HS.out l rs HL.out HF.out (fun r hr => (HGD.out.lit r hr).1) HGD.out.few (by have := HGD.out.len; have := HGD.out.few; omega)).mono ?_
    rintro e w2 ⟨rfl, F2, h2, h3, h4⟩
    have H2 := Lib.hid h2
    have H3 := Lib.hid (And.intro h3 h4)
    clear h2 h3 h4
    go_wp2
    go_ret
    exact ⟨rfl, F2, H2.out, ((Ft.refl _).drewE HW.out).trans H3.out.1 NewF.refl, fun q hq => (H3.out.2 q hq).imp id fun e => by obtain ⟨m, hm⟩ := HW.out; rw [hm] at e; exact e⟩

theorem TrX.upped {w1 wa w3 : World} {A3 : Option Addr} {c3 : Nat} {V S : Nat} {A D : Option Addr} {c d : Nat} (hF : ∀ q, tfoot g P V S A D q → F q) (b1 : Blk w1 g 97 #[.slice A t.recs.length c, .slice D t.starts.length d, .slice (some ⟨V, 0, none⟩) t.ph.length t.ph.length, .slice (some ⟨S, 0, none⟩) t.ph.length t.ph.length, .slice (some ⟨P, 0, none⟩) t.ph.length t.ph.length])
    (b2 : w1.ownsRow base 3 1 (.slice A t.recs.length c) t.recs.length (litsV t.recs)) (b3 : w1.ownsRow base 3 1 (.slice D t.starts.length d) t.starts.length (startsV t.starts))
    (hne : ∀ q, (Value.slice A t.recs.length c).ownBlock = some q → (Value.slice D t.starts.length d).ownBlock = some q → False)
    (b4 : Vals w1 V t.ph.length t.recs) (b5 : Spots w1 S t.ph.length t.recs) (b6 : BlkB w1 P 4 t.ph) (hV : base ≤ V) (hS : base ≤ S) (hP : base ≤ P) (hg : base ≤ g) (hB : base ≤ w1.heap.size)
    (ba : Below w1.heap.size w1 wa) (ho : w3.ownsRow base 3 1 (.slice A3 (t.starts.length + 1) c3) (t.starts.length + 1) (startsV t.starts ++ [.int .i64 (t.recs.length : Nat)])) (hgr : wa.grownBy w3 (Value.slice D t.starts.length d).ownBlock)
    (hv : (Value.slice A3 (t.starts.length + 1) c3).ownBlock = (Value.slice D t.starts.length d).ownBlock ∨ (Value.slice A3 (t.starts.length + 1) c3).ownBlock = some wa.heap.size) :
    ∃ F', (TrX (w3.setCell ⟨g, 1, none⟩ (.slice A3 (t.starts.length + 1) c3)) base g P F' t.up ∧ Ft F w1 (w3.setCell ⟨g, 1, none⟩ (.slice A3 (t.starts.length + 1) c3)) ∧ NewF F F' w1) ∧ base ≤ (w3.setCell ⟨g, 1, none⟩ (.slice A3 (t.starts.length + 1) c3)).heap.size := by
  have hsz := ba.size
  have rlA := own_below b2 ba fun q hq => (b2.lt q hq).2
  have rdA := own_below b3 ba fun q hq => (b3.lt q hq).2
  have K : ∀ {q : Nat} {ty : TypeId} {X : Array Value}, Blk w1 q ty X → ty ≠ 3 → Blk w3 q ty X := fun hq hne => (hq.below ba hq.lt).grown hgr (own_blk_ne rdA (hq.below ba hq.lt) (Ne.symm hne))
  have hg9 := K b1 (by decide)
  have K2 : ∀ {q : Nat} {ty : TypeId} {X : Array Value} (v : Value), Blk w3 q ty X → ty ≠ 97 → Blk (w3.setCell ⟨g, 1, none⟩ v) q ty X := fun v hq hne => hq.far (hq.ne_ hg9 hne) v
  have rl9 : w3.ownsRow base 3 1 (.slice A t.recs.length c) t.recs.length (litsV t.recs) := rlA.kept hgr (by
    rcases hq : (Value.slice A t.recs.length c).ownBlock with _ | q
    · exact .inl rfl
    · exact .inr fun e => hne q hq e.symm)
  refine ⟨fun q => F q ∨ A3.map Addr.block = some q, ⟨⟨⟨V, S, A, A3, c, c3, ?_, ?_, ?_, ?_, b4.keep fun X hX => K2 _ (K hX (by decide)) (by decide), b5.keep fun X hX => K2 _ (K hX (by decide)) (by decide), hV, hS, fun q hq => ?_⟩, K2 _ (K b6 (by decide)) (by decide), hg, hP⟩, ?_, ?_⟩, ?_⟩
  · have := hg9.set_ 1 (.slice A3 (t.starts.length + 1) c3)
    simpa [TS.up] using this
  · exact own_setCell rl9 (p := ⟨g, 1, none⟩) _ (own_blk_ne rl9 hg9 (by decide))
  · have := own_setCell ho (p := ⟨g, 1, none⟩) (.slice A3 (t.starts.length + 1) c3) (own_blk_ne ho hg9 (by decide))
    simpa [TS.up, startsV] using this
  · intro q h1 h2
    simp only [TS.up, List.length_append, List.length_singleton] at h2
    rcases hv with e | e
    · rw [h2] at e
      exact hne q h1 e.symm
    · rw [h2] at e
      injection e with e
      have := (b2.lt q h1).2
      omega
  · unfold tfoot at hq
    rcases hq with e | e | e | e | e | e
    · exact .inl (hF q (by unfold tfoot; simp [e]))
    · exact .inl (hF q (by unfold tfoot; simp [e]))
    · exact .inl (hF q (by unfold tfoot; simp [e]))
    · exact .inl (hF q (by unfold tfoot; simp [e]))
    · exact .inl (hF q (by unfold tfoot; simp [e]))
    · exact .inr e
  · exact ((Ft.of_below ba).grown hgr (fun q hq _ => hF q (by rw [own_map] at hq; unfold tfoot; simp [hq]))).set (fun _ => hF g (by unfold tfoot; simp)) _ _
  · intro q hq
    rcases hq with hq | hq
    · exact .inl hq
    · rcases hv with e | e
      · rw [own_map, own_map, hq] at e
        exact .inl (hF q (by unfold tfoot; simp [← e]))
      · rw [own_map, hq] at e
        injection e with e
        exact .inr (by omega)
  · have := hgr.size
    simp [World.setCell]
    omega

set_option maxHeartbeats 2000000 in
theorem decide_x (h : TrX w base g P F t) (hgd : t.Good) (hB : base ≤ w.heap.size) (l : Int) (h0 : -9223372036854775808 ≤ l ∧ l ≤ 9223372036854775807) :
    Calls Try.prog 36 #[.pointer (some ⟨g, 0, none⟩), .int .i64 l] w fun e w' => e = .returned (.bool (t.takes l)) ∧ ∃ F', TrX w' base g P F' (t.dec l) ∧ Ft F w w' ∧ NewF F F' w := by
  have HT := Lib.hid (takes_any ⟨h.trM, hgd⟩ l h0)
  have HGD := Lib.hid hgd
  have H := Lib.hid h
  clear h hgd
  rcases ht : t.takes l with _ | _
  · have e : t.dec l = t := by unfold TS.dec; rw [if_neg (by simp [ht])]
    rw [e]
    rw [ht] at HT
    clear ht e
    go_enter Try.func36, Try.ntmps36
    go_wp2_with fail
    refine HT.out.mono ?_
    rintro e w1 ⟨rfl, hw⟩
    have HW := Lib.hid hw
    clear hw
    go_wp2
    go_ret
    exact ⟨rfl, F, H.out.drewE HW.out, (Ft.refl _).drewE HW.out, NewF.refl⟩
  · have e : t.dec l = t.up.push l (-1) := by unfold TS.dec; rw [if_pos ht]
    obtain ⟨h1, h2⟩ := (TS.takes_iff HGD.out.few).1 ht
    rw [e]
    rw [ht] at HT
    have HG := Lib.hid (HGD.out.dpush h1 h2 (-1))
    have HL := Lib.hid h1
    have HF := Lib.hid h2
    obtain ⟨i0, hi, hz0, hz1, hz2⟩ := info_parts infoI12
    have hlen := HGD.out.len
    have hsl := HGD.out.starts_len
    have hfew := HGD.out.few
    clear ht e h1 h2
    go_enter Try.func36, Try.ntmps36
    go_wp2_with fail
    refine HT.out.mono ?_
    rintro e w1 ⟨rfl, hw⟩
    have hB1 : base ≤ w1.heap.size := by obtain ⟨m, rfl⟩ := hw; exact hB
    have HW := Lib.hid hw
    obtain ⟨V, S, A, D, c, d, b1, b2, b3, b4, hvals, hspots, b8, b9, hFF⟩ := (H.out.drewE hw).ex
    have c0 := b1.cell 0
    have c1 := b1.cell 1
    simp at c0 c1
    obtain ⟨wa, hwa⟩ : ∃ wa, wa = (w1.alloc (.cells #[.int .i64 (t.recs.length : Nat)] 3)).drew := ⟨_, rfl⟩
    have hba : Below w1.heap.size w1 wa := by rw [hwa]; exact ((Below.refl _ _).alloc (Nat.le_refl _) _).drew
    have HA2 := Lib.hid (own_below b3 hba fun q hq => (b3.lt q hq).2)
    have HAC := Lib.hid (show wa.cell? ⟨w1.heap.size, 0, none⟩ = some (.int .i64 (t.recs.length : Nat)) by rw [hwa]; go_cell)
    have HAS := Lib.hid (show wa.heap.size = w1.heap.size + 1 by rw [hwa]; simp)
    have HAT := Lib.hid (b1.below hba b1.lt)
    have HU := Lib.hid (fun (w3 : World) (A3 : Option Addr) (c3 : Nat) => TrX.upped (w3 := w3) (A3 := A3) (c3 := c3) hFF b1 b2 b3 b4 hvals hspots (H.out.drewE hw).phs b8 b9 H.out.hP H.out.hg hB1 hba)
    have HC1 := Lib.hid c1
    have HB1 := Lib.hid hB1
    have hgl : g < w1.heap.size := b1.lt
    have HWA := Lib.hid hwa
    clear hw hB hba hwa b1 b2 b3 b4 hvals hspots b8 b9 hB1 hFF
    go_wp2
    go_region_law (first | (rw [← HWA.out]; refine step_app12 rfl (.tmp 13) (.tmp 19) 32 rfl base 3 i0 (.int .i64 0) 8 Try.underlying32 hi hz0 hz1 hz2 rfl (.slice D t.starts.length d) t.starts.length (startsV t.starts) rfl HA2.out (.int .i64 (t.recs.length : Nat)) w1.heap.size rfl HAC.out rfl (by unfold maxLen; omega) (by omega) (by have := HAS.out; have := HB1.out; omega) ?_; intro v' w3 hown3 hg3 hat3; obtain ⟨A3, c3, hv3, -⟩ := own_slice hown3; subst hv3; have hbk3 := HAT.out.grown hg3 (own_blk_ne HA2.out HAT.out (by decide)); have dF := hbk3.frozen 1; have dC := hbk3.cell 1; simp at dC; have HO3 := Lib.hid hown3; have HG3 := Lib.hid hg3; have HAT3 := Lib.hid hat3; clear hbk3 hown3 hg3 hat3))
    all_goals
      obtain ⟨F1, hfe⟩ := HU.out w3 A3 c3 HO3.out HG3.out HAT3.out
      have HE := Lib.hid hfe
      clear hfe
      go_wp2_with fail
      refine (push_x HE.out.1.1 HE.out.2 l (-1) HL.out HF.out (fun r hr => (HGD.out.lit r hr).1) HGD.out.few (by show t.recs.length ≤ _; omega)).mono ?_
      rintro e w2 ⟨rfl, F2, h2, h3, h4⟩
      have H2 := Lib.hid h2
      have H3 := Lib.hid (And.intro h3 h4)
      clear h2 h3 h4
      go_wp2
      go_ret
      have hsz : w1.heap.size = w.heap.size := by obtain ⟨m, hm⟩ := HW.out; rw [hm]; rfl
      have f1 : Ft F w _ := ((Ft.refl _).drewE HW.out).trans HE.out.1.2.1 NewF.refl
      have n1 : NewF F F1 w := fun q hq => (HE.out.1.2.2 q hq).imp id fun e => by omega
      exact ⟨rfl, F2, H2.out, f1.trans H3.out.1 n1, n1.trans H3.out.2 f1.size⟩

end

theorem TrX.of_new {w w' : World} {base g P : Nat} {t : TS} (h : TrM w' base g P t) (hb : w.heap.size ≤ base) : ∃ F, TrX w' base g P F t ∧ ∀ q, F q → w.heap.size ≤ q := by
  obtain ⟨V, S, A, D, c, d, b1, b2, b3, b4, b5, b6, b7, b8⟩ := h.ex
  refine ⟨tfoot g P V S A D, ⟨⟨V, S, A, D, c, d, b1, b2, b3, b4, b5, b6, b7, b8, fun _ h => h⟩, h.phs, h.hg, h.hP⟩, fun q hq => ?_⟩
  have := h.hg
  have := h.hP
  unfold tfoot at hq
  rcases hq with e | e | e | e | e | e
  · omega
  · omega
  · omega
  · omega
  · have := (b2.lt q (by rw [own_map]; exact e)).1; omega
  · have := (b3.lt q (by rw [own_map]; exact e)).1; omega
theorem TrX.lt {w : World} {base g P : Nat} {F : Nat → Prop} {t : TS} (h : TrX w base g P F t) : ∃ F', TrX w base g P F' t ∧ (∀ q, F' q → F q) ∧ ∀ q, F' q → q < w.heap.size := by
  obtain ⟨V, S, A, D, c, d, b1, b2, b3, b4, ⟨cv, b5, b5'⟩, ⟨cp, b6, b6'⟩, b7, b8, b9⟩ := h.ex
  refine ⟨tfoot g P V S A D, ⟨⟨V, S, A, D, c, d, b1, b2, b3, b4, ⟨cv, b5, b5'⟩, ⟨cp, b6, b6'⟩, b7, b8, fun _ h => h⟩, h.phs, h.hg, h.hP⟩, b9, fun q hq => ?_⟩
  unfold tfoot at hq
  rcases hq with e | e | e | e | e | e
  · rw [e]; exact b1.lt
  · rw [e]; exact Blk.lt h.phs
  · rw [e]; exact b5.lt
  · rw [e]; exact b6.lt
  · exact (b2.lt q (by rw [own_map]; exact e)).2
  · exact (b3.lt q (by rw [own_map]; exact e)).2
end Go.Proofs.Ytbejjddkndcldaa
