/- A propagator in memory, beside its arena and its trail. -/
import Derived.Test.YtbejjddkndcldaaArg
import Derived.Test.YtbejjddkndcldaaTrf
import Derived.Test.YtbejjddkndcldaaWatMathA
namespace Go.Proofs.Ytbejjddkndcldaa
open Go.RowKit
set_option linter.unusedVariables false
set_option linter.unusedSimpArgs false

def mkV (m : Mk) : List Value := [.int .i64 m.ref, .int .i64 m.oth, .int .i64 (m.nxt : Nat)]
def mksV (ms : List Mk) : List Value := ms.flatMap mkV
theorem mksV_len (ms : List Mk) : (mksV ms).length = ms.length * 3 := by
  induction ms with
  | nil => rfl
  | cons m ms ih => simp only [mksV, List.flatMap_cons, List.length_append, List.length_cons] at ih ⊢; rw [ih]; simp [mkV]; omega
theorem mksV_snoc (ms : List Mk) (m : Mk) : mksV (ms ++ [m]) = mksV ms ++ mkV m := by simp [mksV]
theorem mksV_at : ∀ (ms : List Mk) (i k : Nat) (m : Mk), ms[i]? = some m → k < 3 → (mksV ms)[i * 3 + k]? = (mkV m)[k]?
  | [], i, k, m, h, _ => by simp at h
  | x :: ms, i, k, m, h, hk => by
    have e : mksV (x :: ms) = mkV x ++ mksV ms := by simp [mksV]
    rw [e]
    cases i with
    | zero =>
      simp at h
      subst h
      rw [List.getElem?_append_left (by simp [mkV]; omega)]
      simp
    | succ i =>
      rw [List.getElem?_append_right (by simp [mkV]; omega)]
      rw [show (i + 1) * 3 + k - (mkV x).length = i * 3 + k by simp [mkV]; omega]
      exact mksV_at ms i k m (by simpa using h) hk
theorem mksV_set (ms : List Mk) (i k : Nat) (m m' : Mk) (h : ms[i]? = some m) (hk : k < 3) (v : Value) (hv : mkV m' = (mkV m).set k v) : (mksV ms).set (i * 3 + k) v = mksV (ms.set i m') := by
  refine List.ext_getElem? fun j => ?_
  have hi := (List.getElem?_eq_some_iff.1 h).1
  rcases Nat.lt_or_ge j (ms.length * 3) with hj | hj
  · obtain ⟨a, b, rfl, hb⟩ : ∃ a b, j = a * 3 + b ∧ b < 3 := ⟨j / 3, j % 3, by omega, by omega⟩
    by_cases e : a = i
    · subst e
      rw [mksV_at (ms.set a m') a b m' (by rw [List.getElem?_set_self hi]) hb, hv]
      by_cases e2 : b = k
      · subst e2
        rw [List.getElem?_set_self (by rw [mksV_len]; omega), List.getElem?_set_self (by simp [mkV]; omega)]
      · rw [List.getElem?_set_ne (by omega), List.getElem?_set_ne (Ne.symm e2)]
        exact mksV_at ms a b m h hb
    · rw [List.getElem?_set_ne (by omega)]
      have ha : a < ms.length := by omega
      rw [mksV_at ms a b ms[a] (List.getElem?_eq_getElem ha) hb, mksV_at (ms.set i m') a b ms[a] (by rw [List.getElem?_set_ne (Ne.symm e), List.getElem?_eq_getElem ha]) hb]
  · rw [List.getElem?_eq_none (by simp [mksV_len]; omega), List.getElem?_eq_none (by simp [mksV_len]; omega)]

/-- which blocks: the arena's, the trail's, the propagator's, its lists' -/
structure Px where
  gA : Nat
  bA : Nat
  gw : Option Nat
  gT : Nat
  P : Nat
  gW : Nat
  L : Nat
def wfoot (g L N : Nat) (hd : Nat → Value) (Af Ah : Option Addr) (q : Nat) : Prop := q = g ∨ q = L ∨ (∃ i, i < 2 * N ∧ (hd i).ownBlock = some q) ∨ Af.map Addr.block = some q ∨ Ah.map Addr.block = some q
def wcells (px : Px) (N : Nat) (s : WS) (Af : Option Addr) (cf : Nat) (Ah : Option Addr) (ch : Nat) : Array Value :=
  #[.pointer (some ⟨px.gA, 0, none⟩), .pointer (some ⟨px.gT, 0, none⟩), .int .i64 (N : Nat), .slice (some ⟨px.L, 0, none⟩) (2 * N) (2 * N), .slice Af s.fresh.length cf, .int .i64 (s.head : Nat), .slice Ah s.heads.length ch, .int .i64 (s.vis : Nat)]
def hdV (N : Nat) (hd : Nat → Value) : Array Value := ((List.range (2 * N)).map hd).toArray
theorem hdV_at {N i : Nat} {hd : Nat → Value} (h : i < 2 * N) : (hdV N hd)[i]? = some (hd i) := by simp [hdV, h]
theorem hdV_size {N : Nat} {hd : Nat → Value} : (hdV N hd).size = 2 * N := by simp [hdV]
theorem hdV_set {N i : Nat} {hd : Nat → Value} (v : Value) : (hdV N hd).setIfInBounds i v = hdV N (fun j => if j = i then v else hd j) := by
  apply Array.ext_getElem?
  intro j
  by_cases e : j = i
  · subst e
    rw [Array.getElem?_setIfInBounds_self]
    by_cases hj : j < 2 * N
    · rw [hdV_at hj]; simp [hdV, hj]
    · rw [if_neg (by rw [hdV_size]; exact hj), Array.getElem?_eq_none (by rw [hdV_size]; omega)]
  · rw [Array.getElem?_setIfInBounds_ne (Ne.symm e)]
    by_cases hj : j < 2 * N
    · rw [hdV_at hj, hdV_at hj, if_neg e]
    · rw [Array.getElem?_eq_none (by rw [hdV_size]; omega), Array.getElem?_eq_none (by rw [hdV_size]; omega)]

/-- the propagator -/
structure WM (w : World) (px : Px) (F : Nat → Prop) (N : Nat) (hd : Nat → Value) (s : WS) : Prop where
  ex : ∃ (Af Ah : Option Addr) (cf ch : Nat), Blk w px.gW 79 (wcells px N s Af cf Ah ch) ∧
    w.ownsRow 0 3 1 (.slice Af s.fresh.length cf) s.fresh.length (s.fresh.map (Value.int .i64)) ∧ w.ownsRow 0 3 1 (.slice Ah s.heads.length ch) s.heads.length (startsV s.heads) ∧
    (∀ q, Af.map Addr.block = some q → Ah.map Addr.block = some q → False) ∧ (∀ q, wfoot px.gW px.L N hd Af Ah q → F q) ∧ hd (2 * N) = .slice Af s.fresh.length cf
  lists : Blk w px.L 111 (hdV N hd)
  rows : ∀ i, i < 2 * N → ∃ A c, hd i = .slice A (s.ms i).length c ∧ w.ownsRow 0 106 3 (.slice A (s.ms i).length c) (s.ms i).length (mksV (s.ms i))
  ne : ∀ i j q, i < 2 * N → j < 2 * N → i ≠ j → (hd i).ownBlock = some q → (hd j).ownBlock = some q → False

theorem owns_stay {w w' : World} {base e s n : Nat} {v : Value} {xs : List Value} (ho : w.ownsRow base e s v n xs) (hk : ∀ q o, v.ownBlock = some q → w.heap[q]? = some o → w'.heap[q]? = some o) : w'.ownsRow base e s v n xs := by
  refine ⟨ho.1, ?_⟩
  rcases ho.2 with hn | ⟨q, cap, cur, rfl, hq, hh, rest⟩
  · exact .inl hn
  · exact .inr ⟨q, cap, cur, rfl, hq, hk q _ rfl hh, rest⟩
theorem owns_blk_ne {w : World} {g : Nat} {t : TypeId} {cs : Array Value} {base s : Nat} {e : TypeId} {n : Nat} {v : Value} {xs : List Value} (h : w.ownsRow base e s v n xs) (hg : Blk w g t cs) (hne : e ≠ t) : v.ownBlock ≠ some g := by
  rcases h.2 with ⟨rfl, _⟩ | ⟨g', cap, cur, rfl, _, hh, _⟩
  · simp [Value.ownBlock]
  · intro he
    have : g' = g := by simpa [Value.ownBlock] using he
    subst this
    exact Blk.ne_ (t := e) hh hg hne rfl
theorem owns_owns_ne {w : World} {base s base' s' : Nat} {e e' : TypeId} {n n' : Nat} {v v' : Value} {xs xs' : List Value} (h : w.ownsRow base e s v n xs) (h' : w.ownsRow base' e' s' v' n' xs') (hne : e ≠ e') {q : Nat} (h1 : v.ownBlock = some q) (h2 : v'.ownBlock = some q) : False := by
  rcases h'.2 with ⟨rfl, _⟩ | ⟨g', cap, cur, rfl, _, hh, _⟩
  · simp [Value.ownBlock] at h2
  · have : g' = q := by simpa [Value.ownBlock] using h2
    subst this
    exact owns_blk_ne h (show Blk w g' e' cur from hh) hne h1
theorem own3_slice {w : World} {base e s n : Nat} {v : Value} {xs : List Value} (h : w.ownsRow base e s v n xs) : ∃ A c, v = .slice A n c ∧ n ≤ c := by
  rcases h.2 with ⟨rfl, rfl⟩ | ⟨g, cap, cur, rfl, _, _, hc, _⟩
  · exact ⟨none, 0, rfl, Nat.le_refl _⟩
  · exact ⟨_, cap, rfl, hc⟩
section
variable {w w' : World} {px : Px} {F F' G : Nat → Prop} {N : Nat} {hd : Nat → Value} {s : WS}
theorem WM.stay (h : WM w px F N hd s) (hk : ∀ q o, F q → w.heap[q]? = some o → w'.heap[q]? = some o) : WM w' px F N hd s := by
  obtain ⟨Af, Ah, cf, ch, h1, h2, h3, h4, h5, h6⟩ := h.ex
  refine ⟨⟨Af, Ah, cf, ch, hk _ _ (h5 _ (.inl rfl)) h1, owns_stay h2 fun q o hq => hk q o (h5 q (.inr (.inr (.inr (.inl (by rw [← own_map]; exact hq)))))), owns_stay h3 fun q o hq => hk q o (h5 q (.inr (.inr (.inr (.inr (by rw [← own_map]; exact hq)))))), h4, h5, h6⟩, hk _ _ (h5 _ (.inr (.inl rfl))) h.lists, fun i hi => ?_, h.ne⟩
  obtain ⟨A, c, e, ho⟩ := h.rows i hi
  exact ⟨A, c, e, owns_stay ho fun q o hq => hk q o (h5 q (.inr (.inr (.inl ⟨i, hi, by rw [e]; exact hq⟩))))⟩
theorem WM.below (h : WM w px F N hd s) (hb : Below w.heap.size w w') : WM w' px F N hd s := h.stay fun q o _ hq => (hb.block q (Array.getElem?_eq_some_iff.1 hq).1).trans hq
theorem WM.apart (h : WM w px F N hd s) (hf : Ft G w w') (hd' : ∀ q, F q → G q → False) : WM w' px F N hd s := h.stay fun q o h1 hq => (hf.at_ hq fun e => hd' q h1 e).trans hq
theorem WM.lt (h : WM w px F N hd s) : ∃ F', WM w px F' N hd s ∧ (∀ q, F' q → F q) ∧ ∀ q, F' q → q < w.heap.size := by
  obtain ⟨Af, Ah, cf, ch, h1, h2, h3, h4, h5, h6⟩ := h.ex
  refine ⟨wfoot px.gW px.L N hd Af Ah, ⟨⟨Af, Ah, cf, ch, h1, h2, h3, h4, fun _ h => h, h6⟩, h.lists, h.rows, h.ne⟩, h5, fun q hq => ?_⟩
  rcases hq with e | e | ⟨i, hi, e⟩ | e | e
  · rw [e]; exact h1.lt
  · rw [e]; exact h.lists.lt
  · obtain ⟨A, c, e2, ho⟩ := h.rows i hi
    exact (ho.lt q (by rw [← e2]; exact e)).2
  · exact (h2.lt q (by rw [own_map]; exact e)).2
  · exact (h3.lt q (by rw [own_map]; exact e)).2
/-- the struct's own cells -/
theorem WM.cells (h : WM w px F N hd s) : (w.cell? ⟨px.gW, 0, none⟩ = some (.pointer (some ⟨px.gA, 0, none⟩)) ∧ w.cell? ⟨px.gW, 1, none⟩ = some (.pointer (some ⟨px.gT, 0, none⟩)) ∧ w.cell? ⟨px.gW, 2, none⟩ = some (.int .i64 (N : Nat)) ∧ w.cell? ⟨px.gW, 3, none⟩ = some (.slice (some ⟨px.L, 0, none⟩) (2 * N) (2 * N))) ∧
    w.cell? ⟨px.gW, 5, none⟩ = some (.int .i64 (s.head : Nat)) ∧ w.cell? ⟨px.gW, 7, none⟩ = some (.int .i64 (s.vis : Nat)) ∧ px.gW < w.heap.size := by
  obtain ⟨Af, Ah, cf, ch, h1, _⟩ := h.ex
  refine ⟨⟨?_, ?_, ?_, ?_⟩, ?_, ?_, h1.lt⟩ <;> (rw [h1.cell]; rfl)
theorem WM.frz (h : WM w px F N hd s) (i : Nat) : w.frozen? ⟨px.gW, i, none⟩ = false := by
  obtain ⟨Af, Ah, cf, ch, h1, _⟩ := h.ex
  exact h1.frozen i
theorem WM.inF (h : WM w px F N hd s) : F px.gW ∧ F px.L ∧ ∀ i q, i < 2 * N → (hd i).ownBlock = some q → F q := by
  obtain ⟨Af, Ah, cf, ch, h1, h2, h3, h4, h5, h6⟩ := h.ex
  exact ⟨h5 _ (.inl rfl), h5 _ (.inr (.inl rfl)), fun i q hi hq => h5 q (.inr (.inr (.inl ⟨i, hi, hq⟩)))⟩
/-- a cell of the struct is set -/
theorem WM.setW (h : WM w px F N hd s) (i : Nat) (v : Value) {s' : WS} (h1 : ∀ Af Ah cf ch, (wcells px N s Af cf Ah ch).setIfInBounds i v = wcells px N s' Af cf Ah ch) (h2 : s'.ms = s.ms) (h3 : s'.fresh = s.fresh) (h4 : s'.heads = s.heads) :
    WM (w.setCell ⟨px.gW, i, none⟩ v) px F N hd s' ∧ Ft F w (w.setCell ⟨px.gW, i, none⟩ v) := by
  have hft : Ft F w (w.setCell ⟨px.gW, i, none⟩ v) := (Ft.refl w).set (fun _ => h.inF.1) i v
  obtain ⟨Af, Ah, cf, ch, b1, b2, b3, b4, b5, b6⟩ := h.ex
  have far : ∀ q o, q ≠ px.gW → w.heap[q]? = some o → (w.setCell ⟨px.gW, i, none⟩ v).heap[q]? = some o := fun q o hq ho => (Below.heap_setCell w _ v q hq).trans ho
  refine ⟨⟨⟨Af, Ah, cf, ch, ?_, ?_, ?_, b4, b5, by rw [h3]; exact b6⟩, far _ _ (h.lists.ne_ b1 (by decide)) h.lists, fun k hk => ?_, h.ne⟩, hft⟩
  · rw [← h1]; exact b1.set_ i v
  · rw [h3]; exact owns_stay b2 fun q o hq ho => far q o (fun e => owns_blk_ne b2 b1 (by decide) (by rw [hq, e])) ho
  · rw [h4]; exact owns_stay b3 fun q o hq ho => far q o (fun e => owns_blk_ne b3 b1 (by decide) (by rw [hq, e])) ho
  · obtain ⟨A, c, e, ho⟩ := h.rows k hk
    rw [h2]
    exact ⟨A, c, e, owns_stay ho fun q o hq ho' => far q o (fun e => owns_blk_ne ho b1 (by decide) (by rw [hq, e])) ho'⟩
/-- a list's marks are set in place -/
theorem WM.rowset (h : WM w px F N hd s) {a n c q : Nat} (ha : a < 2 * N) (hq : hd a = .slice (some ⟨q, 0, none⟩) n c) (hg : w.grownBy w' (some q)) {xs : List Mk} (hl : xs.length = n) (ho : w'.ownsRow 0 106 3 (.slice (some ⟨q, 0, none⟩) n c) n (mksV xs)) {s' : WS}
    (h1 : ∀ j, s'.ms j = if j = a then xs else s.ms j) (h2 : s'.fresh = s.fresh) (h3 : s'.head = s.head) (h4 : s'.heads = s.heads) (h5 : s'.vis = s.vis) : WM w' px F N hd s' ∧ Ft F w w' := by
  have hqF : F q := h.inF.2.2 a q ha (by rw [hq]; rfl)
  have hft : Ft F w w' := (Ft.refl w).grown hg fun x hx _ => by injection hx with hx; exact hx ▸ hqF
  obtain ⟨Af, Ah, cf, ch, b1, b2, b3, b4, b5, b6⟩ := h.ex
  obtain ⟨A, c', e, ho'⟩ := h.rows a ha
  have e2 := e
  rw [hq] at e2
  have far : ∀ x o, x ≠ q → w.heap[x]? = some o → w'.heap[x]? = some o := fun x o hx hxo => (hg.block x (Array.getElem?_eq_some_iff.1 hxo).1 (fun e => hx (by injection e))).trans hxo
  have hob : (Value.slice A (s.ms a).length c').ownBlock = some q := by rw [← e2]; rfl
  have nb : ∀ {x : Nat} {t : TypeId} {X : Array Value}, Blk w x t X → 106 ≠ t → x ≠ q := fun hx hne e => owns_blk_ne ho' hx hne (by rw [hob, e])
  refine ⟨⟨⟨Af, Ah, cf, ch, ?_, ?_, ?_, b4, b5, by rw [h2]; exact b6⟩, far _ _ (nb h.lists (by decide)) h.lists, fun k hk => ?_, h.ne⟩, hft⟩
  · have : wcells px N s' Af cf Ah ch = wcells px N s Af cf Ah ch := by unfold wcells; rw [h2, h3, h4, h5]
    rw [this]
    exact far _ _ (nb b1 (by decide)) b1
  · rw [h2]; exact owns_stay b2 fun x o hx hxo => far x o (fun e => owns_owns_ne ho' b2 (by decide) hob (e ▸ hx)) hxo
  · rw [h4]; exact owns_stay b3 fun x o hx hxo => far x o (fun e => owns_owns_ne ho' b3 (by decide) hob (e ▸ hx)) hxo
  · by_cases ek : k = a
    · subst ek
      refine ⟨some ⟨q, 0, none⟩, c, ?_, ?_⟩
      · rw [h1, if_pos rfl, hl, hq]
      · rw [h1, if_pos rfl, hl]; exact ho
    · obtain ⟨B, d, f1, f2⟩ := h.rows k hk
      rw [h1, if_neg ek]
      exact ⟨B, d, f1, owns_stay f2 fun x o hx hxo => far x o (fun e => h.ne k a q hk ha ek (by rw [f1, ← e]; exact hx) (by rw [hq]; rfl)) hxo⟩
/-- a mark more in a list -/
theorem WM.pushed (h : WM w px F N hd s) {i : Nat} (hi : i < 2 * N) {wa w9 : World} (hb : Below w.heap.size w wa) (hg : wa.grownBy w9 (hd i).ownBlock) {m : Mk} {v : Value} (ho : w9.ownsRow 0 106 3 v ((s.ms i).length + 1) (mksV (s.ms i) ++ mkV m)) (hv : v.ownBlock = (hd i).ownBlock ∨ v.ownBlock = some wa.heap.size) :
    ∃ F', WM (w9.setCell ⟨px.L, i, none⟩ v) px F' N (fun j => if j = i then v else hd j) { s with ms := fun j => if j = i then s.ms j ++ [m] else s.ms j } ∧ Ft F w (w9.setCell ⟨px.L, i, none⟩ v) ∧ NewF F F' w := by
  obtain ⟨Af, Ah, cf, ch, b1, b2, b3, b4, b5, b6⟩ := h.ex
  have hin := h.inF
  have ft9 : Ft F w w9 := (Ft.of_below hb).grown hg fun q hq _ => hin.2.2 i q hi hq
  have hs := hb.size
  have hft : Ft F w (w9.setCell ⟨px.L, i, none⟩ v) := ft9.set (fun _ => hin.2.1) _ _
  obtain ⟨A, c, ea, oa⟩ := h.rows i hi
  -- blocks of w but the row's, and the lists'
  have far : ∀ x o, (hd i).ownBlock ≠ some x → x ≠ px.L → w.heap[x]? = some o → (w9.setCell ⟨px.L, i, none⟩ v).heap[x]? = some o := fun x o h1 h2 hxo => by
    have hlt := (Array.getElem?_eq_some_iff.1 hxo).1
    exact (Below.heap_setCell w9 _ v x h2).trans ((hg.block x (by omega) (fun e => h1 e.symm)).trans ((hb.block x hlt).trans hxo))
  have L9 : Blk w9 px.L 111 (hdV N hd) := (hg.block px.L (by have := h.lists.lt; omega) (fun e => owns_blk_ne oa h.lists (by decide) (by rw [← ea]; exact e.symm))).trans ((hb.block _ h.lists.lt).trans h.lists)
  obtain ⟨A', c', rfl, _⟩ := own3_slice ho
  refine ⟨fun q => F q ∨ (Value.slice A' ((s.ms i).length + 1) c').ownBlock = some q, ⟨⟨Af, Ah, cf, ch, ?_, ?_, ?_, b4, fun q hq => ?_, by simp only [if_neg (show ¬ 2 * N = i by omega)]; exact b6⟩, ?_, fun k hk => ?_, fun j k q hj hk hjk h1 h2 => ?_⟩, hft, fun q hq => ?_⟩
  · exact far _ _ (by rw [ea]; exact owns_blk_ne oa b1 (by decide)) (b1.ne_ h.lists (by decide)) b1
  · exact owns_stay b2 fun q o hq hqo => far q o (fun e => owns_owns_ne oa b2 (by decide) (by rw [← ea]; exact e) hq) (fun e => owns_blk_ne b2 h.lists (by decide) (by rw [hq, e])) hqo
  · exact owns_stay b3 fun q o hq hqo => far q o (fun e => owns_owns_ne oa b3 (by decide) (by rw [← ea]; exact e) hq) (fun e => owns_blk_ne b3 h.lists (by decide) (by rw [hq, e])) hqo
  · rcases hq with e | e | ⟨k, hk, e⟩ | e | e
    · exact .inl (b5 q (.inl e))
    · exact .inl (b5 q (.inr (.inl e)))
    · by_cases ek : k = i
      · simp only [if_pos ek] at e; exact .inr e
      · simp only [if_neg ek] at e; exact .inl (hin.2.2 k q hk e)
    · exact .inl (b5 q (.inr (.inr (.inr (.inl e)))))
    · exact .inl (b5 q (.inr (.inr (.inr (.inr e)))))
  · rw [← hdV_set]; exact L9.set_ i _
  · by_cases ek : k = i
    · subst ek
      simp only [if_true, List.length_append, List.length_singleton]
      refine ⟨A', c', rfl, ?_⟩
      rw [mksV_snoc]
      exact owns_stay ho fun q o hq hqo => (Below.heap_setCell w9 _ _ q (fun e => owns_blk_ne ho L9 (by decide) (by rw [hq]; exact congrArg some e))).trans hqo
    · simp only [if_neg ek]
      obtain ⟨B, d, f1, f2⟩ := h.rows k hk
      exact ⟨B, d, f1, owns_stay f2 fun x o hx hxo => far x o (fun e => h.ne k i x hk hi ek (by rw [f1]; exact hx) e) (fun e => owns_blk_ne f2 h.lists (by decide) (by rw [hx, e])) hxo⟩
  · have key : ∀ k, k < 2 * N → k ≠ i → (Value.slice A' ((s.ms i).length + 1) c').ownBlock = some q → (hd k).ownBlock = some q → False := fun k hk hki h1 h2 => by
      rcases hv with e | e
      · rw [h1] at e
        exact h.ne k i q hk hi hki h2 e.symm
      · rw [h1] at e
        injection e with e
        obtain ⟨B, d, f1, f2⟩ := h.rows k hk
        have := (f2.lt q (by rw [← f1]; exact h2)).2
        omega
    by_cases e1 : j = i
    · have e2 : k ≠ i := fun e => hjk (by omega)
      simp only [if_pos e1] at h1
      simp only [if_neg e2] at h2
      exact key k hk e2 h1 h2
    · simp only [if_neg e1] at h1
      by_cases e2 : k = i
      · simp only [if_pos e2] at h2
        exact key j hj e1 h2 h1
      · simp only [if_neg e2] at h2
        exact h.ne j k q hj hk hjk h1 h2
  · rcases hq with hq | hq
    · exact .inl hq
    · rcases hv with e | e
      · exact .inl (hin.2.2 i q hi (by rw [← e]; exact hq))
      · rw [hq] at e
        injection e with e
        exact .inr (by omega)
end

/-- a propagator with its arena and its trail: all in the blocks G -/
structure Ob (w : World) (base : Nat) (px : Px) (N : Nat) (G : Nat → Prop) (cs : List Cl) (t : TS) (s : WS) (hd : Nat → Value) : Prop where
  ex : ∃ FT FW : Nat → Prop, Ar w base px.gA px.bA px.gw 0 cs ∧ TrX w base px.gT px.P FT t ∧ WM w px FW N hd s ∧ (∀ q, afoot px.gA px.bA px.gw q → FT q → False) ∧ (∀ q, afoot px.gA px.bA px.gw q → FW q → False) ∧ (∀ q, FT q → FW q → False) ∧
    ∀ q, afoot px.gA px.bA px.gw q ∨ FT q ∨ FW q → G q
  bd : ∀ q, G q → base ≤ q ∧ q < w.heap.size
/-- what a step leaves of all else -/
structure St (G G' : Nat → Prop) (w w' : World) : Prop where
  ft : Ft G w w'
  nw : NewF G G' w
section
variable {w w' : World} {base : Nat} {px : Px} {N : Nat} {G H : Nat → Prop} {cs cs' : List Cl} {t t' : TS} {s s' : WS} {hd hd' : Nat → Value} {FT FW FT' FW' : Nat → Prop}
theorem Ob.below (h : Ob w base px N G cs t s hd) (hb : Below w.heap.size w w') : Ob w' base px N G cs t s hd := by
  obtain ⟨FT, FW, h1, h2, h3, d1, d2, d3, d4⟩ := h.ex
  exact ⟨⟨FT, FW, h1.below hb, h2.below hb, h3.below hb, d1, d2, d3, d4⟩, fun q hq => ⟨(h.bd q hq).1, Nat.lt_of_lt_of_le (h.bd q hq).2 hb.size⟩⟩
theorem Ob.gr (h : Ob w base px N G cs t s hd) (hb : Gr w w') : Ob w' base px N G cs t s hd := h.below hb.below
theorem Ob.drewE (h : Ob w base px N G cs t s hd) (hd' : ∃ m, w' = w.drewN m) : Ob w' base px N G cs t s hd := h.gr ((Gr.refl w).drewE hd')
theorem Ob.apart (h : Ob w base px N G cs t s hd) (hf : Ft H w w') (hd' : ∀ q, G q → H q → False) : Ob w' base px N G cs t s hd := by
  obtain ⟨FT, FW, h1, h2, h3, d1, d2, d3, d4⟩ := h.ex
  exact ⟨⟨FT, FW, h1.apart hf fun q a b => hd' q (d4 q (.inl a)) b, h2.apart hf fun q a b => hd' q (d4 q (.inr (.inl a))) b, h3.apart hf fun q a b => hd' q (d4 q (.inr (.inr a))) b, d1, d2, d3, d4⟩, fun q hq => ⟨(h.bd q hq).1, Nat.lt_of_lt_of_le (h.bd q hq).2 hf.size⟩⟩
/-- a cell of a block elsewhere -/
theorem Ob.far (h : Ob w base px N G cs t s hd) {q : Nat} (hq : ¬ G q) (i : Nat) (v : Value) : Ob (w.setCell ⟨q, i, none⟩ v) base px N G cs t s hd :=
  h.apart ((Ft.refl (F := fun x => x = q) w).set (q := q) (fun _ => rfl) i v) fun x hx e => hq (e ▸ hx)
theorem St.refl (w : World) : St G G w w := ⟨Ft.refl w, NewF.refl⟩
theorem St.trans {G' G'' : Nat → Prop} {w'' : World} (h : St G G' w w') (h' : St G' G'' w' w'') : St G G'' w w'' := ⟨h.ft.trans h'.ft h.nw, h.nw.trans h'.nw h.ft.size⟩
theorem St.gr {G' : Nat → Prop} {w'' : World} (h : St G G' w w') (hb : Gr w' w'') : St G G' w w'' := ⟨h.ft.low hb.below, h.nw⟩
theorem St.drewE {G' : Nat → Prop} {w'' : World} (h : St G G' w w') (hd : ∃ m, w'' = w'.drewN m) : St G G' w w'' := ⟨h.ft.drewE hd, h.nw⟩
theorem St.size {G' : Nat → Prop} (h : St G G' w w') : w.heap.size ≤ w'.heap.size := h.ft.size
/-- a block that the call has made for itself -/
theorem St.own {G' : Nat → Prop} (h : St G G' w w') {q : Nat} (hq : w.heap.size ≤ q) (i : Nat) (v : Value) : St G G' w (w'.setCell ⟨q, i, none⟩ v) := ⟨h.ft.set (fun e => by omega) i v, h.nw⟩
theorem St.blk {G' : Nat → Prop} (h : St G G' w w') (ho : Ob w base px N G cs t s hd) {q : Nat} {ty : TypeId} {X : Array Value} (hq : Blk w q ty X) (hn : ¬ G q) : Blk w' q ty X := h.ft.blk hq hn
theorem Ob.of_trail (h : Ob w base px N G cs t s hd) (h1 : Ar w base px.gA px.bA px.gw 0 cs) (h3 : WM w px FW N hd s) (d1 : ∀ q, afoot px.gA px.bA px.gw q → FT q → False) (d2 : ∀ q, afoot px.gA px.bA px.gw q → FW q → False) (d3 : ∀ q, FT q → FW q → False) (d4 : ∀ q, afoot px.gA px.bA px.gw q ∨ FT q ∨ FW q → G q)
    (hB : base ≤ w.heap.size) (ht : TrX w' base px.gT px.P FT' t') (hf : Ft FT w w') (hn : NewF FT FT' w) : ∃ G', Ob w' base px N G' cs t' s hd ∧ St G G' w w' := by
  obtain ⟨F2, k1, k2, k3⟩ := ht.lt
  have nb : ∀ q, F2 q → FT q ∨ w.heap.size ≤ q := fun q hq => hn q (k2 q hq)
  have hs := hf.size
  refine ⟨fun q => G q ∨ F2 q, ⟨⟨F2, FW, h1.apart hf d1, k1, h3.apart hf fun q a b => d3 q b a, fun q a b => ?_, d2, fun q a b => ?_, fun q hq => ?_⟩, fun q hq => ?_⟩, hf.mono fun q hq => d4 q (.inr (.inl hq)), fun q hq => ?_⟩
  · rcases nb q b with e | e
    · exact d1 q a e
    · have := (h.bd q (d4 q (.inl a))).2; omega
  · rcases nb q a with e | e
    · exact d3 q e b
    · have := (h.bd q (d4 q (.inr (.inr b)))).2; omega
  · rcases hq with hq | hq | hq
    · exact .inl (d4 q (.inl hq))
    · exact .inr hq
    · exact .inl (d4 q (.inr (.inr hq)))
  · rcases hq with hq | hq
    · have := h.bd q hq; omega
    · refine ⟨?_, k3 q hq⟩
      rcases nb q hq with e | e
      · exact (h.bd q (d4 q (.inr (.inl e)))).1
      · omega
  · rcases hq with hq | hq
    · exact .inl hq
    · exact (nb q hq).imp (fun e => d4 q (.inr (.inl e))) id
theorem Ob.of_watch (h : Ob w base px N G cs t s hd) (h1 : Ar w base px.gA px.bA px.gw 0 cs) (h2 : TrX w base px.gT px.P FT t) (d1 : ∀ q, afoot px.gA px.bA px.gw q → FT q → False) (d2 : ∀ q, afoot px.gA px.bA px.gw q → FW q → False) (d3 : ∀ q, FT q → FW q → False) (d4 : ∀ q, afoot px.gA px.bA px.gw q ∨ FT q ∨ FW q → G q)
    (hB : base ≤ w.heap.size) (ht : WM w' px FW' N hd' s') (hf : Ft FW w w') (hn : NewF FW FW' w) : ∃ G', Ob w' base px N G' cs t s' hd' ∧ St G G' w w' := by
  obtain ⟨F2, k1, k2, k3⟩ := ht.lt
  have nb : ∀ q, F2 q → FW q ∨ w.heap.size ≤ q := fun q hq => hn q (k2 q hq)
  have hs := hf.size
  refine ⟨fun q => G q ∨ F2 q, ⟨⟨FT, F2, h1.apart hf d2, h2.apart hf d3, k1, d1, fun q a b => ?_, fun q a b => ?_, fun q hq => ?_⟩, fun q hq => ?_⟩, hf.mono fun q hq => d4 q (.inr (.inr hq)), fun q hq => ?_⟩
  · rcases nb q b with e | e
    · exact d2 q a e
    · have := (h.bd q (d4 q (.inl a))).2; omega
  · rcases nb q b with e | e
    · exact d3 q a e
    · have := (h.bd q (d4 q (.inr (.inl a)))).2; omega
  · rcases hq with hq | hq | hq
    · exact .inl (d4 q (.inl hq))
    · exact .inl (d4 q (.inr (.inl hq)))
    · exact .inr hq
  · rcases hq with hq | hq
    · have := h.bd q hq; omega
    · refine ⟨?_, k3 q hq⟩
      rcases nb q hq with e | e
      · exact (h.bd q (d4 q (.inr (.inr e)))).1
      · omega
  · rcases hq with hq | hq
    · exact .inl hq
    · exact (nb q hq).imp (fun e => d4 q (.inr (.inr e))) id
theorem Ob.tr (h : Ob w base px N G cs t s hd) (hg : t.Good) : Tr w base px.gT px.P t := by
  obtain ⟨FT, FW, h1, h2, h3, d1, d2, d3, d4⟩ := h.ex
  exact ⟨h2.trM, hg⟩
theorem Ob.ar (h : Ob w base px N G cs t s hd) : Ar w base px.gA px.bA px.gw 0 cs := by
  obtain ⟨FT, FW, h1, h2, h3, d1, d2, d3, d4⟩ := h.ex
  exact h1
theorem Ob.wm (h : Ob w base px N G cs t s hd) : ∃ FW, WM w px FW N hd s := by
  obtain ⟨FT, FW, h1, h2, h3, d1, d2, d3, d4⟩ := h.ex
  exact ⟨FW, h3⟩
/-- what is done to the propagator's own blocks -/
theorem Ob.turn (h : Ob w base px N G cs t s hd) (hB : base ≤ w.heap.size) (hk : ∀ FW, WM w px FW N hd s → ∃ FW', WM w' px FW' N hd' s' ∧ Ft FW w w' ∧ NewF FW FW' w) : ∃ G', Ob w' base px N G' cs t s' hd' ∧ St G G' w w' := by
  obtain ⟨FT, FW, h1, h2, h3, d1, d2, d3, d4⟩ := h.ex
  obtain ⟨FW', k1, k2, k3⟩ := hk FW h3
  exact h.of_watch h1 h2 d1 d2 d3 d4 hB k1 k2 k3
/-- the same blocks -/
theorem Ob.same (h : Ob w base px N G cs t s hd) (hk : ∀ FW, WM w px FW N hd s → WM w' px FW N hd' s' ∧ Ft FW w w') : Ob w' base px N G cs t s' hd' ∧ St G G w w' := by
  obtain ⟨FT, FW, h1, h2, h3, d1, d2, d3, d4⟩ := h.ex
  obtain ⟨k1, k2⟩ := hk FW h3
  have hs := k2.size
  exact ⟨⟨⟨FT, FW, h1.apart k2 d2, h2.apart k2 d3, k1, d1, d2, d3, d4⟩, fun q hq => ⟨(h.bd q hq).1, by have := (h.bd q hq).2; omega⟩⟩, k2.mono fun q hq => d4 q (.inr (.inr hq)), NewF.refl⟩
theorem ob_swap (h : Ob w base px N G cs t s hd) {r : Int} {cl : Cl} (hc : at? cs r = some cl) (ht : total cs ≤ 1099511627776) (i k : Nat) (hi : i < cl.lits.length) (hk : k < cl.lits.length) :
    Calls Try.prog 85 #[.pointer (some ⟨px.gA, 0, none⟩), .int .i64 r, .int .i64 i, .int .i64 k] w fun e w' => e = .returned (.bool true) ∧ Ob w' base px N G (putL cs r (swapOf cl.lits i k)) t s hd ∧ St G G w w' := by
  obtain ⟨FT, FW, h1, h2, h3, d1, d2, d3, d4⟩ := h.ex
  obtain ⟨pre, post, rfl, rfl, ha⟩ := at?_some hc
  refine (swap_yes pre post cl h1 ha ht i k hi hk).mono fun e w' ⟨he, ha', hf⟩ => ⟨he, ?_, hf.ft.mono fun q hq => d4 q (.inl hq), NewF.refl⟩
  have hs := hf.size
  rw [putL_mid]
  exact ⟨⟨FT, FW, ha', h2.apart hf.ft fun q a b => d1 q b a, h3.apart hf.ft fun q a b => d2 q b a, d1, d2, d3, d4⟩, fun q hq => ⟨(h.bd q hq).1, by have := (h.bd q hq).2; omega⟩⟩
/-- indices of which one is none: nothing is done -/
theorem ob_swap_bad (h : Ob w base px N G cs t s hd) {r : Int} {cl : Cl} (hc : at? cs r = some cl) (ht : total cs ≤ 1099511627776) (i k : Int) (hik : i < 0 ∨ k < 0 ∨ cl.lits.length ≤ i ∨ cl.lits.length ≤ k) :
    Calls Try.prog 85 #[.pointer (some ⟨px.gA, 0, none⟩), .int .i64 r, .int .i64 i, .int .i64 k] w fun e w' => e = .returned (.bool false) ∧ Ob w' base px N G cs t s hd ∧ St G G w w' := by
  obtain ⟨pre, post, rfl, rfl, ha⟩ := at?_some hc
  exact (swap_bad pre post cl h.ar ha ht i k hik).mono fun e w' ⟨he, hb⟩ => ⟨he, h.below hb, Ft.of_below hb, NewF.refl⟩
theorem ob_put (h : Ob w base px N G cs t s hd) (hg : t.Good) (hB : base ≤ w.heap.size) (l rs : Int) (h0 : -9223372036854775808 ≤ l ∧ l ≤ 9223372036854775807) :
    Calls Try.prog 87 #[.pointer (some ⟨px.gT, 0, none⟩), .int .i64 l, .int .i64 rs] w fun e w' => e = .returned (.bool (t.takes l)) ∧ ∃ G', Ob w' base px N G' cs (t.put l rs) s hd ∧ St G G' w w' := by
  obtain ⟨FT, FW, h1, h2, h3, d1, d2, d3, d4⟩ := h.ex
  exact (put_x h2 hg hB l rs h0).mono fun e w' ⟨he, F', k1, k2, k3⟩ => ⟨he, h.of_trail h1 h3 d1 d2 d3 d4 hB k1 k2 k3⟩
theorem ob_decide (h : Ob w base px N G cs t s hd) (hg : t.Good) (hB : base ≤ w.heap.size) (l : Int) (h0 : -9223372036854775808 ≤ l ∧ l ≤ 9223372036854775807) :
    Calls Try.prog 36 #[.pointer (some ⟨px.gT, 0, none⟩), .int .i64 l] w fun e w' => e = .returned (.bool (t.takes l)) ∧ ∃ G', Ob w' base px N G' cs (t.dec l) s hd ∧ St G G' w w' := by
  obtain ⟨FT, FW, h1, h2, h3, d1, d2, d3, d4⟩ := h.ex
  exact (decide_x h2 hg hB l h0).mono fun e w' ⟨he, F', k1, k2, k3⟩ => ⟨he, h.of_trail h1 h3 d1 d2 d3 d4 hB k1 k2 k3⟩
end
end Go.Proofs.Ytbejjddkndcldaa
