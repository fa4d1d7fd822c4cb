/- A raw formula that came in, opened; how much there may be of it. -/
import Derived.Test.YtnimmlfccgnneaaFrame
import Derived.Test.YtnimmlfccgnneaaMem
import Derived.Deep.Matrix
import Derived.ChangeSlices
import Derived.Lib.SmallJoins
namespace Go.Proofs.Ytnimmlfccgnneaa
open Go.ChangeShapes Go.WideShapes Go.ChangeAt Go.RowKit Go.Deep Go.Joins

/-- no part of it weighs more than the reach -/
def Sz {H : Type} (P : Program) (t : TypeId) (d : DataW H) : Prop := ∀ x ∈ d.weights P t, x ≤ reachBytes
section
variable {H : Type} {P : Program} {t : TypeId}
theorem sz_arg {ts : List TypeId} {ds : List (DataW H)} {d : DataW H} {j : Nat} (h : (DataW.weightsEach P ts ds).all (· ≤ reachBytes) = true) (ht : ts[j]? = some t) (hd : ds[j]? = some d) : Sz P t d :=
  fun x hx => of_decide_eq_true (List.all_eq_true.1 h x (DataW.weights_mem_each ht hd x hx))
theorem mem_weightsAll {e : TypeId} {d : DataW H} {x : Nat} : ∀ {es : List (DataW H)}, d ∈ es → x ∈ d.weights P e → x ∈ DataW.weightsAll P e es
  | d' :: r, hd, hx => by
    rw [DataW.weightsAll, List.mem_append]
    rcases List.mem_cons.1 hd with rfl | hd
    · exact .inl hx
    · exact .inr (mem_weightsAll hd hx)
theorem sz_slice {e : TypeId} {es sp : List (DataW H)} (h : Sz P t (.slice es sp)) (hu : P.underlying t = some (.slice e)) : (es.length + sp.length) * P.bytesOf e ≤ reachBytes ∧ ∀ d ∈ es, Sz P e d := by
  unfold Sz at h
  simp only [DataW.weights, hu, List.mem_cons, List.mem_append] at h
  exact ⟨h _ (.inl rfl), fun d hd x hx => h x (.inr (.inl (mem_weightsAll hd hx)))⟩
theorem sz_agg2 {f0 f1 : Field} {d0 d1 : DataW H} (h : Sz P t (.agg [d0, d1])) (hu : P.underlying t = some (.struct #[f0, f1])) : Sz P f0.type d0 ∧ Sz P f1.type d1 := by
  unfold Sz at h
  simp only [DataW.weights, hu] at h
  exact ⟨fun x hx => h x (DataW.weights_mem_each (ts := [f0.type, f1.type]) (ds := [d0, d1]) (j := 0) rfl rfl x hx), fun x hx => h x (DataW.weights_mem_each (ts := [f0.type, f1.type]) (ds := [d0, d1]) (j := 1) rfl rfl x hx)⟩
end

theorem wf_zero (k : IntKind) : (Lit.int k 0).wf = true := by cases k <;> decide
/-- rows of rows of numbers that came in -/
theorem krows_of {H : Type} {enc : TypeId × Value → H} {P : Program} {W : World} {t e q : TypeId} {k : IntKind} {v : Value} {y : DataW H × List MemPlace} {n bytes : Nat}
    (ht : P.underlying t = some (.slice e)) (he : P.underlying e = some (.slice q)) (hq : P.underlying q = some (.int k)) (ce : P.cellsOf e = 1) (cq : P.cellsOf q = 1) (be : P.bytesOf e = 24) (bq : P.bytesOf q = bytes)
    (h : DataW.trod enc P W 0 (fun _ => true) true n t [v] = some y) (hs : Sz P t y.1) :
    ∃ (A : Option Addr) (c : Nat) (nss : List (List Int)), v = .slice A nss.length c ∧ nss.length ≤ 5864062014805 ∧ (∀ j, (nss.getD j []).length * bytes ≤ 140737488351232) ∧ (∀ j i, (Lit.int k ((nss.getD j []).getD i 0)).wf = true) ∧ KRows k W W.heap.size A nss := by
  rcases open_int_rows ht he hq ce cq h with ⟨hcs, hx⟩ | ⟨a, len, cap, A, L, C, Z, hcs, _, hl, hm, rfl, hc⟩
  · simp at hcs
    subst hcs
    exact ⟨none, 0, [], rfl, by simp, fun j => by simp, fun j i => by rw [show (([] : List (List Int)).getD j []).getD i 0 = 0 by simp]; exact wf_zero k, fun h => absurd h (by simp)⟩
  · simp at hcs
    subst hcs
    obtain ⟨hs1, hs2⟩ := sz_slice hs ht
    simp only [List.length_map, List.length_range, be] at hs1
    have hr : reachBytes = 140737488351232 := by decide
    rw [hr] at hs1
    have hlen : ∀ j, j < len → ((Z j).take (L j)).length = L j := fun j hj => by
      have := hc j (by omega)
      rw [List.length_take, this.2.2.2.1]; omega
    have hget : ∀ j, j < len → ((List.range len).map fun r => (Z r).take (L r)).getD j [] = (Z j).take (L j) := fun j hj => by simp [List.getD, hj]
    have hout : ∀ j, ¬ j < len → ((List.range len).map fun r => (Z r).take (L r)).getD j [] = [] := fun j hj => by simp [List.getD, List.getElem?_eq_none (show ((List.range len).map fun r => (Z r).take (L r)).length ≤ j by simp; omega)]
    refine ⟨some a, cap, (List.range len).map fun r => (Z r).take (L r), by simp, by simp; omega, fun j => ?_, fun j i => ?_, fun hpos => ?_⟩
    · by_cases hj : j < len
      · rw [hget j hj, hlen j hj]
        obtain ⟨_, h1, _, h3, _, h5, _⟩ := hc j (by omega)
        have hsj := hs2 (intRow k (A j) (L j) (Z j)) (List.mem_map.2 ⟨j, List.mem_range.2 hj, rfl⟩)
        cases hA : A j with
        | none => rw [show L j = 0 by have := h5 hA; omega]; omega
        | some a' =>
          rw [hA] at hsj
          have := (sz_slice hsj he).1
          rw [bq, hr] at this
          simp only [lits, List.length_map, List.length_take, List.length_drop, h3] at this
          have e1 : min (L j) (C j) + (C j - L j) = C j := by omega
          rw [e1] at this
          exact Nat.le_trans (Nat.mul_le_mul_right _ h1) this
      · rw [hout j hj]; simp
    · by_cases hj : j < len
      · rw [hget j hj]
        obtain ⟨_, _, _, _, h4, _, _⟩ := hc j (by omega)
        by_cases hi : i < ((Z j).take (L j)).length
        · have : ((Z j).take (L j)).getD i 0 ∈ Z j := by
            rw [List.getD, List.getElem?_eq_getElem hi]
            exact List.mem_of_mem_take (List.getElem_mem hi)
          exact h4 _ this
        · rw [List.getD, List.getElem?_eq_none (by omega)]; exact wf_zero k
      · rw [hout j hj]; exact wf_zero k
    · simp at hpos
      obtain ⟨b, off, spot⟩ := a
      have hspot : spot = none := by simpa [Addr.add] using World.cell?_spot (hc 0 (by omega)).1
      subst hspot
      have hlt : b < W.heap.size := by have := World.block_lt_of_cell? W _ (hc 0 (by omega)).1; simpa [Addr.add] using this
      refine ⟨b, off, rfl, hlt, fun j hj => ?_⟩
      simp at hj
      obtain ⟨h0, h1, _, h3, _, _, h6⟩ := hc j (by omega)
      rw [hget j hj, hlen j hj]
      refine ⟨A j, C j, by rw [← add_plain]; exact h0, fun hn => ?_⟩
      rw [hlen j hj] at hn
      have hsome : ∃ a', A j = some a' := by
        cases hA : A j with
        | none => have := (hc j (by omega)).2.2.2.2.2.1 hA; omega
        | some a' => exact ⟨a', rfl⟩
      obtain ⟨a', ha'⟩ := hsome
      obtain ⟨_, hcell⟩ := h6 a' ha'
      obtain ⟨b', off', spot'⟩ := a'
      have hspot' : spot' = none := by simpa [Addr.add] using World.cell?_spot (hcell 0 (by omega))
      subst hspot'
      have hlt' : b' < W.heap.size := by have := World.block_lt_of_cell? W _ (hcell 0 (by omega)); simpa [Addr.add] using this
      refine ⟨b', off', ha', hlt', fun i hi => ?_⟩
      rw [hlen j hj] at hi
      rw [← add_plain, hcell i (by omega)]
      simp [List.getD, hi]
end Go.Proofs.Ytnimmlfccgnneaa
