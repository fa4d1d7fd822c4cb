/- What the search by halves answers in a clause in normal form; a literal and its negation. What Clause, Tautology, Same and Without answer. What Resolve and Formula answer. What Formula answers: the clauses in normal form, without those that always hold. -/
import Derived.Test.YtllgepabjglnaaaNorm
namespace Go.Proofs.Ytllgepabjglnaaa
open Go.RowKit

theorem bs_spec {ys : List Int} {t : Int} {i : Nat} (hr : Rising ys) (hi : i ≤ ys.length) (h1 : ∀ k, k < i → litIndex (ys.getD k 0) < litIndex t) (h2 : ∀ k, i ≤ k → k < ys.length → litIndex t ≤ litIndex (ys.getD k 0)) :
    ys.contains t = decide (i < ys.length ∧ ys.getD i 0 = t) := by
  rw [Bool.eq_iff_iff, decide_eq_true_iff, List.contains_iff_mem]
  have get : ∀ k (hk : k < ys.length), ys.getD k 0 = ys[k] := fun k hk => by simp [List.getD, hk]
  constructor
  · intro hm
    obtain ⟨p, hp, e⟩ := List.getElem_of_mem hm
    have hpi : i ≤ p := by
      rcases Nat.lt_or_ge p i with h | h
      · have := h1 p h; rw [get p hp, e] at this; omega
      · exact h
    have : p = i := by
      rcases Nat.lt_or_ge i p with h | h
      · have a := List.pairwise_iff_getElem.1 hr i p (by omega) hp h
        have b := h2 i (Nat.le_refl _) (by omega)
        rw [get i (by omega)] at b
        rw [e] at a
        omega
      · omega
    subst this
    exact ⟨hp, by rw [get p hp, e]⟩
  · rintro ⟨hlt, e⟩
    rw [get i hlt] at e
    rw [← e]
    exact List.getElem_mem hlt

set_option maxRecDepth 100000 in
theorem bsearch_any (ys : List Int) (t : Int) (B : Nat) (A : Option Addr) (c : Nat) (w : World) (hy : Lits ys) (ht1 : -1000000 ≤ t) (ht2 : t ≤ 1000000) (hr : Rising ys) (h : Ints w B A ys) :
    Calls Try.prog 68 #[.slice A ys.length c, .int .i64 t, .func (.func 64) #[] #[]] w fun e w' => (∃ i, e = .returned (.tuple #[.int .i64 i, .bool (ys.contains t)])) ∧ w' = w := by
  have H := Lib.hid h
  have HY := Lib.hid hy
  have HR := Lib.hid hr
  have hlen := hy.1
  clear h hy hr
  go_enter Try.func68, Try.ntmps68
  go_wp2
  go_loopw [9, 10] (fun a b wr => ∃ i j : Nat, w = wr ∧ a = .int .i64 i ∧ b = .int .i64 j ∧ i ≤ j ∧ j ≤ ys.length ∧ Hid (∀ k, k < i → litIndex (ys.getD k 0) < litIndex t) ∧ Hid (∀ k, j ≤ k → k < ys.length → litIndex t ≤ litIndex (ys.getD k 0))) (fun a b _ => (intOf b - intOf a).toNat)
  case atStart => exact ⟨0, ys.length, rfl, rfl, rfl, Nat.zero_le _, Nat.le_refl _, Lib.hid (fun k hk => by omega), Lib.hid (fun k h1 h2 => by omega)⟩
  case round =>
    obtain ⟨i, j, rfl, rfl, rfl, hij, hj, H1, H2⟩ := hrel
    by_cases hlt : i < j
    · obtain ⟨m, hm⟩ : ∃ m : Nat, m = (i + j) / 2 := ⟨_, rfl⟩
      have hmi : ((i : Int) + (j : Int)) / 2 = (m : Int) := by omega
      have hm1 : i ≤ m := by omega
      have hm2 : m < j := by omega
      clear hm
      obtain ⟨b, off, rfl, _, hcell⟩ := H.out.at_ (show m < ys.length by omega)
      obtain ⟨y1, y2⟩ := HY.out.getD m
      have HM : Hid (∀ k k', k ≤ k' → k' < ys.length → litIndex (ys.getD k 0) ≤ litIndex (ys.getD k' 0)) := Lib.hid fun k k' hk hk' => by
        rcases Nat.lt_or_ge k k' with h | h
        · have := List.pairwise_iff_getElem.1 HR.out k k' (by omega) hk' h
          simp only [List.getD, List.getElem?_eq_getElem (show k < ys.length by omega), List.getElem?_eq_getElem hk', Option.getD_some]
          omega
        · rw [show k = k' by omega]; exact Int.le_refl _
      obtain ⟨y, hy⟩ : ∃ y, y = ys.getD m 0 := ⟨_, rfl⟩
      have HYM := Lib.hid hy
      rw [← hy] at hcell y1 y2
      clear hy
      by_cases hc : litIndex y < litIndex t
      · have hcc : cmpInt (litIndex y) (litIndex t) = -1 := by unfold cmpInt; rw [if_pos hc]
        have HC := Lib.hid hc
        clear hc
        go_wp2_with (go_at_call 64; refine (compare_any _ _ _ (by omega) (by omega) (by omega) (by omega)).mono ?_; rintro e w' ⟨rfl, rfl⟩; rw [hcc])
        go_roundw
        case rel =>
          refine ⟨m + 1, j, (by trivial), by go_num, rfl, by omega, hj, Lib.hid fun k hk => ?_, H2⟩
          have := HM.out k m (by omega) (by omega)
          rw [← HYM.out] at this
          have := HC.out
          omega
        case measure => simp [intOf]; omega
      · have hcc : cmpInt (litIndex y) (litIndex t) = 0 ∨ cmpInt (litIndex y) (litIndex t) = 1 := by unfold cmpInt; rw [if_neg hc]; split <;> simp
        have HC := Lib.hid hc
        clear hc
        rcases hcc with hcc | hcc
        all_goals
          go_wp2_with (go_at_call 64; refine (compare_any _ _ _ (by omega) (by omega) (by omega) (by omega)).mono ?_; rintro e w' ⟨rfl, rfl⟩; rw [hcc])
          go_roundw
          case rel =>
            refine ⟨i, m, (by trivial), rfl, rfl, by omega, by omega, H1, Lib.hid fun k hk hk2 => ?_⟩
            have := HM.out m k hk hk2
            rw [← HYM.out] at this
            have := HC.out
            omega
          case measure => simp [intOf]; omega
    · obtain rfl : i = j := by omega
      have hsp := bs_spec HR.out hj H1.out H2.out
      clear H1 H2
      have HS := Lib.hid hsp
      clear hsp
      by_cases hin : i < ys.length
      · obtain ⟨b, off, rfl, _, hcell⟩ := H.out.at_ hin
        obtain ⟨y1, y2⟩ := HY.out.getD i
        have hs2 : ys.contains t = decide (ys.getD i 0 = t) := by rw [HS.out]; simp [hin]
        obtain ⟨y, hy⟩ : ∃ y, y = ys.getD i 0 := ⟨_, rfl⟩
        rw [← hy] at hcell y1 y2 hs2
        clear hy
        have hcc : (cmpInt (litIndex y) (litIndex t) == 0) = decide (y = t) := by
          rw [Bool.eq_iff_iff]
          simp only [beq_iff_eq, decide_eq_true_iff]
          unfold cmpInt
          constructor
          · intro h
            apply litIndex_inj
            split at h
            · omega
            · split at h
              · omega
              · omega
          · rintro rfl; simp
        rw [← hcc] at hs2
        obtain ⟨r, hrr⟩ : ∃ r, r = cmpInt (litIndex y) (litIndex t) := ⟨_, rfl⟩
        rw [← hrr] at hs2
        have HRR := Lib.hid hrr
        have HS2 := Lib.hid hs2
        clear hrr hs2 hcc
        go_wp2_with (go_at_call 64; refine (compare_any _ _ _ (by omega) (by omega) (by omega) (by omega)).mono ?_; rintro e w' ⟨rfl, rfl⟩; rw [← HRR.out])
        go_ret2
        exact ⟨⟨i, by rw [HS2.out]; rfl⟩, rfl⟩
      · have hs2 : ys.contains t = false := by rw [HS.out]; simp; omega
        have HS2 := Lib.hid hs2
        clear hs2
        go_wp2
        go_ret2
        exact ⟨⟨i, by rw [HS2.out]; rfl⟩, rfl⟩

end Go.Proofs.Ytllgepabjglnaaa

namespace Go.Proofs.Ytllgepabjglnaaa
open Go.RowKit

theorem sort_none : SortNone Try.prog 63 := fun p cap fv w => Try.slices_SortFunc_none (α := Int) p cap fv w
theorem norm_clause_any (xs : List Int) (B : Nat) (A : Option Addr) (c : Nat) (w : World) (hx : Lits xs) (h : Ints w B A xs) (hB : B ≤ w.heap.size) :
    Calls Try.prog 46 #[.slice A xs.length c] w (OwnInts (normOf xs) w) := norm_clause_of sort_none xs B A c w hx h hB

/-- literals within bounds -/
abbrev L6 := { x : Int // -1000000 ≤ x ∧ x ≤ 1000000 }
instance : Inhabited L6 := ⟨⟨0, by omega, by omega⟩⟩
def enc6 (x : L6) : Value := .int .i64 x.1
theorem list6 (xs : List Int) (h : ∀ x ∈ xs, -1000000 ≤ x ∧ x ≤ 1000000) : ∃ ds : List L6, xs = ds.map (·.1) := by
  induction xs with
  | nil => exact ⟨[], rfl⟩
  | cons x r ih =>
    obtain ⟨ds, hd⟩ := ih fun y hy => h y (List.mem_cons_of_mem _ hy)
    exact ⟨⟨x, h x (by simp)⟩ :: ds, congrArg (x :: ·) hd⟩

set_option maxRecDepth 100000 in
theorem opposed_lit_any (ys : List Int) (x : Int) (B g : Nat) (A : Option Addr) (c : Nat) (w : World) (hy : Lits ys) (hx1 : -1000000 ≤ x) (hx2 : x ≤ 1000000) (hr : Rising ys) (h : Ints w B A ys) (hc : w.cell? ⟨g, 0, none⟩ = some (.slice A ys.length c)) :
    Calls Try.prog 67 #[.int .i64 x, .pointer (some ⟨g, 0, none⟩)] w fun e w' => e = .returned (.bool (ys.contains (-x))) ∧ ∃ q, w' = w.drewN q := by
  have hcon := bsearch_any ys (-x) B A c w hy (by omega) (by omega) hr h
  obtain ⟨r, hrr⟩ : ∃ r, r = ys.contains (-x) := ⟨_, rfl⟩
  rw [← hrr] at hcon ⊢
  have HC := Lib.hid hcon
  clear hy hr h hrr hcon
  go_enter Try.func67, Try.ntmps67
  go_wp2_with fail
  refine HC.out.mono ?_
  rintro e w' ⟨⟨i, rfl⟩, rfl⟩
  go_wp2
  go_ret
  exact ⟨rfl, 0, rfl⟩

set_option maxRecDepth 100000 in
theorem opposed_any (ys : List Int) (B : Nat) (A : Option Addr) (c : Nat) (w : World) (hy : Lits ys) (hr : Rising ys) (h : Ints w B A ys) (hB : B ≤ w.heap.size) :
    Calls Try.prog 47 #[.slice A ys.length c] w fun e w' => e = .returned (.bool (tautOf ys)) ∧ Below w.heap.size w w' := by
  obtain ⟨w1, hw1⟩ : ∃ w1, w1 = w.alloc (.cells #[.slice A ys.length c] 48) := ⟨_, rfl⟩
  have hI : Ints w1 B A ys := by rw [hw1]; exact h.alloc hB _
  have hc1 : w1.cell? ⟨w.heap.size, 0, none⟩ = some (.slice A ys.length c) := by rw [hw1]; go_cell
  have hsz : w1.heap.size = w.heap.size + 1 := by rw [hw1]; simp
  have hBel : Below w.heap.size w w1 := by rw [hw1]; exact (Below.refl _ _).alloc (Nat.le_refl _) _
  have eg : ∀ args w, (callFunc 67 args).run Try.prog w = .ok (.enter 67 args) w := enters_of Try.func67 (by kernel_rfl) rfl
  have hp : PredAt Try.prog 67 #[.pointer (some ⟨w.heap.size, 0, none⟩)] enc6 (fun x : L6 => ys.contains (-x.1)) w1 := fun W x hb =>
    opposed_lit_any ys x.1 B w.heap.size A c W hy x.2.1 x.2.2 hr (hI.below (hb.mono (by omega))) ((hb.cell (p := ⟨w.heap.size, 0, none⟩) (by show w.heap.size < _; omega)).trans hc1)
  have hcon : Calls Try.prog 66 #[.slice A ys.length c, .func (.func 67) #[] #[.pointer (some ⟨w.heap.size, 0, none⟩)]] w1 fun e w' => e = .returned (.bool (tautOf ys)) ∧ ∃ q, w' = w1.drewN q := by
    rcases Nat.eq_zero_or_pos ys.length with h0 | h0
    · obtain rfl : ys = [] := List.length_eq_zero_iff.1 h0
      exact (Try.slices_ContainsFunc_empty (α := L6) A c _ w1).mono fun _ _ ⟨he, hw⟩ => ⟨he, 0, hw⟩
    · obtain ⟨ds, hds⟩ := list6 ys hy.2
      obtain ⟨b, off, rfl, _, hcell⟩ := hI h0
      have hl : ys.length = ds.length := by rw [hds]; simp
      have h1 := Try.slices_ContainsFunc enc6 (fun x : L6 => ys.contains (-x.1)) 67 #[.pointer (some ⟨w.heap.size, 0, none⟩)] eg b off ys.length c ds w1 hp (by omega) (by have := hy.1; omega) (fun j hj => by
        rw [hcell j (by omega), getElem!_pos ds j hj]
        unfold enc6
        rw [hds]
        simp [List.getD, hj])
      have e : (ds.take ys.length).any (fun x : L6 => ys.contains (-x.1)) = tautOf ys := by
        rw [List.take_of_length_le (by omega)]
        unfold tautOf
        conv => rhs; arg 1; rw [hds]
        rw [List.any_map]
        rfl
      rw [e] at h1
      exact h1
  have HC := Lib.hid hcon
  have HBel := Lib.hid hBel
  clear hcon hBel hp eg hsz hc1 hI h hy hr
  go_enter Try.func47, Try.ntmps47
  go_wp2_with fail
  rw [← hw1]
  clear hw1
  refine HC.out.mono ?_
  rintro e w' ⟨rfl, q, rfl⟩
  go_wp2
  go_ret
  exact ⟨rfl, below_drewN HBel.out _⟩

end Go.Proofs.Ytllgepabjglnaaa

namespace Go.Proofs.Ytllgepabjglnaaa
open Go.RowKit

theorem flatten_take {xss : List (List Int)} {k : Nat} (h : k < xss.length) : (xss.take (k + 1)).flatten = (xss.take k).flatten ++ xss.getD k [] := by
  rw [List.take_succ_eq_append_getElem h, List.flatten_append]
  simp [List.getD, h]
theorem flatten_len (xss : List (List Int)) : xss.flatten.length = litCount xss := by
  unfold litCount; rw [List.length_flatten]

end Go.Proofs.Ytllgepabjglnaaa

namespace Go.Proofs.Ytllgepabjglnaaa
open Go.RowKit

/-- a formula's clauses in normal form, without tautologies -/
def normForm (xss : List (List Int)) : List (List Int) := (xss.filter fun c => !tautOf c).map normOf
theorem normForm_take {xss : List (List Int)} {k : Nat} (h : k < xss.length) : normForm (xss.take (k + 1)) = normForm (xss.take k) ++ if tautOf (xss.getD k []) then [] else [normOf (xss.getD k [])] := by
  unfold normForm
  rw [List.take_succ_eq_append_getElem h, List.filter_append, List.map_append]
  simp only [List.getD, List.getElem?_eq_getElem h, Option.getD_some]
  congr 1
  cases hq : tautOf xss[k] <;> simp [hq]
theorem normForm_len (xss : List (List Int)) : (normForm xss).length ≤ xss.length := by unfold normForm; rw [List.length_map]; exact List.length_filter_le _ _

/-- a formula in normal form that the call has made for itself -/
def OwnForm (yss : List (List Int)) (w : World) (e : Ending) (w' : World) : Prop :=
  ∃ A c vs, e = .returned (.tuple #[.slice A yss.length c, .bool (yss.any fun y => y.isEmpty)]) ∧ w'.ownsRow w.heap.size 48 1 (.slice A yss.length c) yss.length vs ∧ OwnList w' w.heap.size 3 vs yss ∧ Below w.heap.size w w'

set_option maxRecDepth 100000 in
set_option maxHeartbeats 800000 in
theorem formula_norm_any (V : Int) (xss : List (List Int)) (B : Nat) (A : Option Addr) (c : Nat) (w : World) (hx : xss.length ≤ 1000000000) (hl : ∀ j, Lits (xss.getD j [])) (h : Rows w B A xss) (hB : B ≤ w.heap.size) :
    Calls Try.prog 31 #[.agg #[.int .i64 V, .slice A xss.length c]] w (OwnForm (normForm xss) w) := by
  have H := Lib.hid h
  have HL := Lib.hid hl
  clear h hl
  obtain ⟨i0, hi, hz0, hz1, hz2⟩ := info_parts Try.infoInts
  go_enter Try.func31, Try.ntmps31
  go_wp2
  obtain ⟨w1, hw1⟩ : ∃ w1, w1 = w.alloc (Obj.cells #[Value.int IntKind.i64 V, Value.slice A xss.length c] 32) := ⟨_, rfl⟩
  have hR : Rows w1 B A xss := by rw [hw1]; exact H.out.alloc hB _
  have hBel : Below w.heap.size w w1 := by rw [hw1]; exact (Below.refl _ _).alloc (Nat.le_refl _) _
  have hsz : w.heap.size ≤ w1.heap.size := by rw [hw1]; simp
  rw [← hw1]
  clear hw1
  have HR := Lib.hid hR
  have HBel := Lib.hid hBel
  clear hR hBel
  go_loopw [4, 5, 12] (fun v em i wr => ∃ (k : Nat) (yss : List (List Int)) (vs : List Value) (b : Bool), k ≤ xss.length ∧ i = .int .i64 k ∧ em = .bool b ∧ Hid (yss = normForm (xss.take k)) ∧ Hid (b = yss.any fun y => y.isEmpty) ∧ yss.length ≤ k ∧
    wr.ownsRow w1.heap.size 48 1 v yss.length vs ∧ OwnList wr w1.heap.size 3 vs yss ∧ Below w1.heap.size w1 wr) (fun _ _ i _ => xss.length - (intOf i).toNat)
  case atStart => exact ⟨0, [], [], false, by omega, rfl, rfl, Lib.hid rfl, Lib.hid rfl, Nat.le_refl _, World.ownsRow_nil _ _ _ _, OwnList.nil_, Below.refl _ _⟩
  case round =>
    obtain ⟨k, yss, vs, b, hk, rfl, rfl, HY, HBE, hyk, hown, hlist, hb2⟩ := hrel
    have HOW := Lib.hid hown
    have HLI := Lib.hid hlist
    have HB2 := Lib.hid hb2
    have hs1 := hb2.size
    clear hown hlist hb2
    by_cases hlt : k < xss.length
    · obtain ⟨bb, off, Ak, ck, rfl, _, hcell, hint⟩ := (HR.out.below (HB2.out.mono (by omega))).at_ hlt
      have hLk := HL.out k
      have htk := normForm_take hlt
      rw [← HY.out] at htk
      obtain ⟨xs, hxs⟩ : ∃ xs, xs = xss.getD k [] := ⟨_, rfl⟩
      rw [← hxs] at hcell hint hLk htk
      have HI := Lib.hid hint
      have HLK := Lib.hid hLk
      have HTK := Lib.hid htk
      clear hint hLk htk hxs
      go_wp2_with fail
      refine (norm_clause_any xs B Ak ck wr HLK.out HI.out (by omega)).mono ?_
      rintro e wx ⟨A3, c3, rfl, hown3, hb3⟩
      have HOP := Lib.hid (opposed_any (normOf xs) wx.heap.size A3 c3 wx HLK.out.norm (rising_normOf xs) (ints_of_own hown3) (Nat.le_refl _))
      rw [tautOf_norm] at HOP
      obtain ⟨ys, hys⟩ : ∃ ys, ys = normOf xs := ⟨_, rfl⟩
      rw [← hys] at hown3 HOP ⊢
      rw [← hys] at HTK
      have HO3 := Lib.hid hown3
      have HB3 := Lib.hid hb3
      have hs3 := hb3.size
      clear hown3 hb3 hys
      go_wp2_with fail
      refine HOP.out.mono ?_
      rintro e wy ⟨rfl, hb4⟩
      have HB4 := Lib.hid hb4
      have HBxy := Lib.hid (HB3.out.trans (hb4.mono HB3.out.size))
      have hs4 := hb4.size
      clear hb4 HOP
      rcases ht : tautOf xs with _ | _
      · rw [ht, if_neg (by simp)] at HTK
        clear ht
        have hz := (HBxy.out.alloc (Nat.le_trans hs3 hs4) (Obj.cells #[Value.slice A3 ys.length c3] 48))
        have HOZ := Lib.hid (own_below HOW.out hz (fun g hg => (HOW.out.lt g hg).2))
        have HLZ := Lib.hid (HLI.out.below hz (Nat.le_refl _))
        have HN3 := Lib.hid ((own_below HO3.out HB4.out (fun g hg => (HO3.out.lt g hg).2)).alloc (Obj.cells #[Value.slice A3 ys.length c3] 48))
        have HBZ := Lib.hid hz
        clear hz
        go_wp2_with (at_builtin; refine wpList_append1 _ rfl _ _ 30 rfl w1.heap.size 48 i0 (.slice none 0 0) 24 Try.underlying30 hi hz0 hz1 hz2 rfl _ _ _ rfl HOZ.out (.slice A3 ys.length c3) wy.heap.size rfl (by go_cell) rfl (by unfold maxLen; omega) (by omega) (by simp; omega) ?_)
        intro v' w2 hown' hg _
        have hl2 := HLZ.out.kept hg (HLZ.out.ne_outer HOZ.out (by decide))
        have hn2 := HN3.out.kept hg (own_own_ne HN3.out HOZ.out (by decide))
        have hvl : vs.length = yss.length := by have := HOW.out.1; omega
        have hl3 := OwnList.snoc hl2 hvl hn2 (by omega) (fun j g hj hg => (HLI.out.lt hj hg).2)
        have hb5 : Below w1.heap.size w1 w2 := (HB2.out.trans (HBZ.out.mono HB2.out.size)).grown hg (by simp; omega) (fun k hk => (HOW.out.lt k hk).1)
        have HO5 := Lib.hid hown'
        have HL5 := Lib.hid hl3
        have HB5 := Lib.hid hb5
        clear hown' hg hl2 hn2 hl3 hb5
        have han : ((yss ++ [ys]).any fun y => y.isEmpty) = (b || ((ys.length : Int) == 0)) := by
          rw [List.any_append, ← HBE.out]
          cases ys with
          | nil => simp
          | cons y r => simp; intro h; omega
        rcases hq : ((ys.length : Int) == 0) with _ | _
        all_goals rw [hq] at han
        all_goals have HAN := Lib.hid han
        all_goals clear han
        all_goals rcases b with _ | _
        all_goals
          go_wp2
          go_roundw
          case rel => exact ⟨k + 1, yss ++ [ys], _, _, by omega, by go_num, rfl, Lib.hid HTK.out.symm, Lib.hid HAN.out.symm, by simp; omega, by rw [List.length_append]; exact HO5.out, HL5.out, HB5.out⟩
          case measure => simp [intOf]; omega
      · rw [ht, if_pos rfl, List.append_nil] at HTK
        clear ht
        go_wp2
        go_roundw
        case rel => exact ⟨k + 1, yss, vs, b, by omega, by go_num, rfl, Lib.hid HTK.out.symm, HBE, by omega, own_below HOW.out HBxy.out (fun g hg => (HOW.out.lt g hg).2), HLI.out.below HBxy.out (Nat.le_refl _), HB2.out.trans (HBxy.out.mono HB2.out.size)⟩
        case measure => simp [intOf]; omega
    · go_wp2
      go_ret2
      obtain rfl : k = xss.length := by omega
      have hy := HY.out
      rw [List.take_of_length_le (Nat.le_refl _)] at hy
      have ho := own_more (base' := w.heap.size) HOW.out (by omega)
      have hli := HLI.out.more (base' := w.heap.size) (by omega)
      obtain ⟨A', c', hv', _⟩ := own_slice ho
      have hbe := HBE.out
      subst hv'
      subst hbe
      subst hy
      exact ⟨_, _, _, rfl, ho, hli, HBel.out.trans (HB2.out.mono (by omega))⟩

end Go.Proofs.Ytllgepabjglnaaa
