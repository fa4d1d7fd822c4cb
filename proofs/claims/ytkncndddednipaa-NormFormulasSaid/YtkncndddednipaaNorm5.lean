/- What Formula answers: the clauses in normal form, without those that always hold. -/
import Derived.Test.YtkncndddednipaaNorm4
namespace Go.Proofs.Ytkncndddednipaa
open Go.RowKit

/-- a formula's clauses in normal form, without tautologies -/
def normForm (xss : List (List Int)) : List (List Int) := (xss.filter fun c => !tautOf c).map normOf
theorem normForm_take {xss : List (List Int)} {k : Nat} (h : k < xss.length) : normForm (xss.take (k + 1)) = normForm (xss.take k) ++ if tautOf (xss.getD k []) then [] else [normOf (xss.getD k [])] := by
  unfold normForm
  rw [List.take_succ_eq_append_getElem h, List.filter_append, List.map_append]
  simp only [List.getD, List.getElem?_eq_getElem h, Option.getD_some]
  congr 1
  cases hq : tautOf xss[k] <;> simp [hq]
theorem normForm_len (xss : List (List Int)) : (normForm xss).length ≤ xss.length := by unfold normForm; rw [List.length_map]; exact List.length_filter_le _ _

/-- a formula in normal form that the call has made for itself -/
def OwnForm (yss : List (List Int)) (w : World) (e : Ending) (w' : World) : Prop :=
  ∃ A c vs, e = .returned (.tuple #[.slice A yss.length c, .bool (yss.any fun y => y.isEmpty)]) ∧ w'.ownsRow w.heap.size 24 1 (.slice A yss.length c) yss.length vs ∧ OwnList w' w.heap.size 3 vs yss ∧ Below w.heap.size w w'

set_option maxRecDepth 100000 in
set_option maxHeartbeats 800000 in
theorem formula_norm_any (V : Int) (xss : List (List Int)) (B : Nat) (A : Option Addr) (c : Nat) (w : World) (hx : xss.length ≤ 1000000000) (hl : ∀ j, Lits (xss.getD j [])) (h : Rows w B A xss) (hB : B ≤ w.heap.size) :
    Calls Try.prog 17 #[.agg #[.int .i64 V, .slice A xss.length c]] w (OwnForm (normForm xss) w) := by
  have H := Lib.hid h
  have HL := Lib.hid hl
  clear h hl
  obtain ⟨i0, hi, hz0, hz1, hz2⟩ := info_parts Try.infoInts
  go_enter Try.func17, Try.ntmps17
  go_wp2
  obtain ⟨w1, hw1⟩ : ∃ w1, w1 = w.alloc (Obj.cells #[Value.int IntKind.i64 V, Value.slice A xss.length c] 38) := ⟨_, rfl⟩
  have hR : Rows w1 B A xss := by rw [hw1]; exact H.out.alloc hB _
  have hBel : Below w.heap.size w w1 := by rw [hw1]; exact (Below.refl _ _).alloc (Nat.le_refl _) _
  have hsz : w.heap.size ≤ w1.heap.size := by rw [hw1]; simp
  rw [← hw1]
  clear hw1
  have HR := Lib.hid hR
  have HBel := Lib.hid hBel
  clear hR hBel
  go_loopw [4, 5, 12] (fun v em i wr => ∃ (k : Nat) (yss : List (List Int)) (vs : List Value) (b : Bool), k ≤ xss.length ∧ i = .int .i64 k ∧ em = .bool b ∧ Hid (yss = normForm (xss.take k)) ∧ Hid (b = yss.any fun y => y.isEmpty) ∧ yss.length ≤ k ∧
    wr.ownsRow w1.heap.size 24 1 v yss.length vs ∧ OwnList wr w1.heap.size 3 vs yss ∧ Below w1.heap.size w1 wr) (fun _ _ i _ => xss.length - (intOf i).toNat)
  case atStart => exact ⟨0, [], [], false, by omega, rfl, rfl, Lib.hid rfl, Lib.hid rfl, Nat.le_refl _, World.ownsRow_nil _ _ _ _, OwnList.nil_, Below.refl _ _⟩
  case round =>
    obtain ⟨k, yss, vs, b, hk, rfl, rfl, HY, HBE, hyk, hown, hlist, hb2⟩ := hrel
    have HOW := Lib.hid hown
    have HLI := Lib.hid hlist
    have HB2 := Lib.hid hb2
    have hs1 := hb2.size
    clear hown hlist hb2
    by_cases hlt : k < xss.length
    · obtain ⟨bb, off, Ak, ck, rfl, _, hcell, hint⟩ := (HR.out.below (HB2.out.mono (by omega))).at_ hlt
      have hLk := HL.out k
      have htk := normForm_take hlt
      rw [← HY.out] at htk
      obtain ⟨xs, hxs⟩ : ∃ xs, xs = xss.getD k [] := ⟨_, rfl⟩
      rw [← hxs] at hcell hint hLk htk
      have HI := Lib.hid hint
      have HLK := Lib.hid hLk
      have HTK := Lib.hid htk
      clear hint hLk htk hxs
      go_wp2_with fail
      refine (norm_clause_any xs B Ak ck wr HLK.out HI.out (by omega)).mono ?_
      rintro e wx ⟨A3, c3, rfl, hown3, hb3⟩
      have HOP := Lib.hid (opposed_any (normOf xs) wx.heap.size A3 c3 wx HLK.out.norm (rising_normOf xs) (ints_of_own hown3) (Nat.le_refl _))
      rw [tautOf_norm] at HOP
      obtain ⟨ys, hys⟩ : ∃ ys, ys = normOf xs := ⟨_, rfl⟩
      rw [← hys] at hown3 HOP ⊢
      rw [← hys] at HTK
      have HO3 := Lib.hid hown3
      have HB3 := Lib.hid hb3
      have hs3 := hb3.size
      clear hown3 hb3 hys
      go_wp2_with fail
      refine HOP.out.mono ?_
      rintro e wy ⟨rfl, hb4⟩
      have HB4 := Lib.hid hb4
      have HBxy := Lib.hid (HB3.out.trans (hb4.mono HB3.out.size))
      have hs4 := hb4.size
      clear hb4 HOP
      rcases ht : tautOf xs with _ | _
      · rw [ht, if_neg (by simp)] at HTK
        clear ht
        have hz := (HBxy.out.alloc (Nat.le_trans hs3 hs4) (Obj.cells #[Value.slice A3 ys.length c3] 24))
        have HOZ := Lib.hid (own_below HOW.out hz (fun g hg => (HOW.out.lt g hg).2))
        have HLZ := Lib.hid (HLI.out.below hz (Nat.le_refl _))
        have HN3 := Lib.hid ((own_below HO3.out HB4.out (fun g hg => (HO3.out.lt g hg).2)).alloc (Obj.cells #[Value.slice A3 ys.length c3] 24))
        have HBZ := Lib.hid hz
        clear hz
        go_wp2_with (at_builtin; refine wpList_append1 _ rfl _ _ 36 rfl w1.heap.size 24 i0 (.slice none 0 0) 24 Try.underlying36 hi hz0 hz1 hz2 rfl _ _ _ rfl HOZ.out (.slice A3 ys.length c3) wy.heap.size rfl (by go_cell) rfl (by unfold maxLen; omega) (by omega) (by simp; omega) ?_)
        intro v' w2 hown' hg _
        have hl2 := HLZ.out.kept hg (HLZ.out.ne_outer HOZ.out (by decide))
        have hn2 := HN3.out.kept hg (own_own_ne HN3.out HOZ.out (by decide))
        have hvl : vs.length = yss.length := by have := HOW.out.1; omega
        have hl3 := OwnList.snoc hl2 hvl hn2 (by omega) (fun j g hj hg => (HLI.out.lt hj hg).2)
        have hb5 : Below w1.heap.size w1 w2 := (HB2.out.trans (HBZ.out.mono HB2.out.size)).grown hg (by simp; omega) (fun k hk => (HOW.out.lt k hk).1)
        have HO5 := Lib.hid hown'
        have HL5 := Lib.hid hl3
        have HB5 := Lib.hid hb5
        clear hown' hg hl2 hn2 hl3 hb5
        have han : ((yss ++ [ys]).any fun y => y.isEmpty) = (b || ((ys.length : Int) == 0)) := by
          rw [List.any_append, ← HBE.out]
          cases ys with
          | nil => simp
          | cons y r => simp; intro h; omega
        rcases hq : ((ys.length : Int) == 0) with _ | _
        all_goals rw [hq] at han
        all_goals have HAN := Lib.hid han
        all_goals clear han
        all_goals rcases b with _ | _
        all_goals
          go_wp2
          go_roundw
          case rel => exact ⟨k + 1, yss ++ [ys], _, _, by omega, by go_num, rfl, Lib.hid HTK.out.symm, Lib.hid HAN.out.symm, by simp; omega, by rw [List.length_append]; exact HO5.out, HL5.out, HB5.out⟩
          case measure => simp [intOf]; omega
      · rw [ht, if_pos rfl, List.append_nil] at HTK
        clear ht
        go_wp2
        go_roundw
        case rel => exact ⟨k + 1, yss, vs, b, by omega, by go_num, rfl, Lib.hid HTK.out.symm, HBE, by omega, own_below HOW.out HBxy.out (fun g hg => (HOW.out.lt g hg).2), HLI.out.below HBxy.out (Nat.le_refl _), HB2.out.trans (HBxy.out.mono HB2.out.size)⟩
        case measure => simp [intOf]; omega
    · go_wp2
      go_ret2
      obtain rfl : k = xss.length := by omega
      have hy := HY.out
      rw [List.take_of_length_le (Nat.le_refl _)] at hy
      have ho := own_more (base' := w.heap.size) HOW.out (by omega)
      have hli := HLI.out.more (base' := w.heap.size) (by omega)
      obtain ⟨A', c', hv', _⟩ := own_slice ho
      have hbe := HBE.out
      subst hv'
      subst hbe
      subst hy
      exact ⟨_, _, _, rfl, ho, hli, HBel.out.trans (HB2.out.mono (by omega))⟩
end Go.Proofs.Ytkncndddednipaa
