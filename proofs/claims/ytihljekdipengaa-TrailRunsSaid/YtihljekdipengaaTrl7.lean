/- Assignment. -/
import Derived.Test.YtihljekdipengaaTrl5
import Derived.Deep.LoopGhost
namespace Go.Proofs.Ytihljekdipengaa
open Go.RowKit
set_option linter.unusedVariables false
set_option linter.unusedSimpArgs false

/-- phases, with the values of the first literals -/
def asgK (rs : List Rec) (ph : List Bool) : List Bool := rs.foldl (fun a r => a.set (r.l.natAbs - 1) (decide (0 < r.l))) ph
theorem asgK_len (rs : List Rec) : ∀ ph, (asgK rs ph).length = ph.length := by
  induction rs with
  | nil => intro ph; rfl
  | cons r rs ih => intro ph; show (asgK rs _).length = _; rw [ih]; simp
theorem asgK_snoc (rs : List Rec) (r : Rec) (ph : List Bool) : asgK (rs ++ [r]) ph = (asgK rs ph).set (r.l.natAbs - 1) (decide (0 < r.l)) := by
  simp [asgK, List.foldl_append]
theorem bools_map {xs : List Bool} {n : Nat} (h : xs.length = n) : ((List.range n).map fun j => Value.bool (xs.getD j false)) = xs.map Value.bool := by
  subst h
  apply List.ext_getElem
  · simp
  · intro i h1 h2
    simp at h1
    simp [List.getD, h1]

set_option maxHeartbeats 2000000 in
theorem assign_any {w : World} {base g P : Nat} {t : TS} (h : Tr w base g P t) (hB : base ≤ w.heap.size) :
    Calls Try.prog 25 #[.pointer (some ⟨g, 0, none⟩)] w fun e w' => ∃ A' c', e = .returned (.slice A' t.ph.length c') ∧ w'.ownsRow w.heap.size 4 1 (.slice A' t.ph.length c') t.ph.length (t.asg.map Value.bool) ∧ Below w.heap.size w w' := by
  obtain ⟨V, S, A, D, c, d, b1, b2, _⟩ := h.ex
  have c4 := b1.cell 4
  have c0 := b1.cell 0
  simp at c4 c0
  have hf := h.good.few
  have hml := h.good.len
  have hcl : Cells w w.heap.size (some ⟨P, 0, none⟩) t.ph.length fun j => .bool (t.ph.getD j false) := fun hn => ⟨P, 0, rfl, Blk.lt h.phs, fun j hj => by rw [Nat.zero_add]; exact h.phs.cell hj⟩
  obtain ⟨n, hn⟩ : ∃ n, t.ph.length = n := ⟨_, rfl⟩
  obtain ⟨m, hm⟩ : ∃ m, t.recs.length = m := ⟨_, rfl⟩
  rw [hn] at c4 hf hml hcl ⊢
  rw [hm] at c0 hml
  have HCL := Lib.hid (clone_bool n _ w.heap.size (some ⟨P, 0, none⟩) n w (by omega) (fun _ _ => rfl) hcl (Nat.le_refl _))
  have H := Lib.hid h
  have HB1 := Lib.hid b1
  have HB2 := Lib.hid b2
  have HN := Lib.hid hn
  have HM := Lib.hid hm
  clear h b1 b2 hcl hn hm
  go_enter Try.func25, Try.ntmps25
  go_wp2_with fail
  refine HCL.out.mono ?_
  rintro e w5 ⟨A5, c5, rfl, ho5, hb5⟩
  rw [bools_map HN.out] at ho5
  have HO5 := Lib.hid ho5
  have HB5 := Lib.hid hb5
  have x0 := (HB1.out.below hb5 HB1.out.lt).cell 0
  simp [HM.out] at x0
  have HB25 := Lib.hid (own_below HB2.out hb5 fun k hk => (HB2.out.lt k hk).2)
  have hs5 := hb5.size
  clear ho5 hb5 c0 c4
  go_wp2_with fail
  go_loopg [16] (m + 1) (fun gk i wr => ∃ k : Nat, k ≤ m ∧ gk = m - k + 1 ∧ i = .int .i64 k ∧ Hid (wr.ownsRow w.heap.size 4 1 (.slice A5 n c5) n ((asgK (t.recs.take k) t.ph).map Value.bool)) ∧ Hid (w5.grownBy wr (Value.slice A5 n c5).ownBlock))
  case atStart => exact ⟨0, by omega, by omega, rfl, Lib.hid (by simpa [asgK] using HO5.out), Lib.hid (World.grownBy.refl _ _)⟩
  case round =>
    obtain ⟨k, hk, rfl, rfl, HO, HG⟩ := hrel
    by_cases hlt : k < m
    · obtain ⟨q, rfl, hq1, hq2⟩ := own_addr HB25.out (by have := HM.out; omega)
      have HBK := HB25.out.kept HG.out (by
        rcases own_own_ne HB25.out HO5.out (by decide) with e | e
        · exact .inl e
        · exact .inr e)
      have q1 := World.ownsRow.cellAt HBK k (by have := HM.out; omega)
      obtain ⟨r, hr⟩ : ∃ r, t.recs[k]? = some r := ⟨_, List.getElem?_eq_getElem (by have := HM.out; omega)⟩
      have er : (litsV t.recs)[k]? = some (.int .i64 r.l) := by simp [litsV, hr]
      rw [er] at q1
      have hlit := H.out.good.lit r (List.mem_of_getElem? hr)
      have hlit2 : r.l.natAbs ≤ n := by have := HN.out; omega
      obtain ⟨v, hv⟩ : ∃ v : Nat, litVar r.l = (v : Int) + 1 := ⟨r.l.natAbs - 1, by unfold litVar; split <;> omega⟩
      have hv2 : r.l.natAbs - 1 = v := by unfold litVar at hv; split at hv <;> omega
      have HV := Lib.hid (fun w => hv ▸ var_any r.l w (by omega) (by omega))
      have hvn : (v : Int) < (n : Int) := by omega
      obtain ⟨L, rfl, hL1, hL2⟩ := own_addr HO.out (by omega)
      have p1 := World.ownsRow.cellAt HO.out v (by omega)
      have pf := World.ownsRow.frozenAt HO.out v
      have ep : ((asgK (t.recs.take k) t.ph).map Value.bool)[v]? = some (.bool ((asgK (t.recs.take k) t.ph).getD v false)) := by
        have : v < (asgK (t.recs.take k) t.ph).length := by rw [asgK_len, HN.out]; omega
        rw [List.getElem?_map, List.getElem?_eq_getElem this]
        simp [List.getD, this]
      rw [ep] at p1
      have etk : t.recs.take (k + 1) = t.recs.take k ++ [r] := by rw [List.take_add_one, hr]; rfl
      have HP := Lib.hid (own_put12 HO.out v (.bool (decide (0 < r.l))))
      have hst : ((asgK (t.recs.take k) t.ph).map Value.bool).set v (.bool (decide (0 < r.l))) = (asgK (t.recs.take (k + 1)) t.ph).map Value.bool := by rw [etk, asgK_snoc, hv2, List.map_set]
      rw [hst] at HP
      have HGN := Lib.hid (grown_trans HG.out (grown_setCell wr ⟨L, v, none⟩ (.bool (decide (0 < r.l)))))
      obtain ⟨x, hx⟩ : ∃ x, r.l = x := ⟨_, rfl⟩
      rw [hx] at q1 HV HP HGN
      have hwk : IntKind.i64.wrap (v : Int) = (v : Int) := i64_ok (by omega)
      clear er hr hlit hv hv2 etk hst hx ep HBK hlit2
      go_wp2_with fail
      refine (HV.out _).mono ?_
      rintro e w9 ⟨rfl, rfl⟩
      go_wp2_with fail
      go_roundg (m - k)
      case measure => omega
      case rel => exact ⟨k + 1, by omega, by omega, by go_num, HP, HGN⟩
    · obtain rfl : k = m := by omega
      go_wp2
      go_ret
      have e : t.asg = asgK (t.recs.take k) t.ph := by rw [List.take_of_length_le (by have := HM.out; omega)]; rfl
      rw [e]
      exact ⟨_, _, rfl, HO.out, HB5.out.grown HG.out hs5 (fun q hq => (HO5.out.lt q hq).1)⟩
end Go.Proofs.Ytihljekdipengaa
