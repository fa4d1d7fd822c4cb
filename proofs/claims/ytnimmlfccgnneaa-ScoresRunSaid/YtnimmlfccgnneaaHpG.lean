/- A new heap. -/
import Derived.Test.YtnimmlfccgnneaaHpF
import Derived.Laws.MakeOwn
import Derived.Deep.OwnRows
namespace Go.Proofs.Ytnimmlfccgnneaa
open Go.RowKit
set_option linter.unusedVariables false
set_option linter.unusedSimpArgs false

theorem made_nat (n : Nat) : madeCells #[Value.int .i64 0] n = natCells (List.replicate n 0) := by
  apply Array.ext
  · simp [size_madeCells, natCells]
  · intro i h1 h2
    simp [madeCells, Nat.mod_one, natCells]
theorem nat_int_zero (n : Nat) : natCells (List.replicate n 0) = intCells (List.replicate n 0) := by simp [natCells, intCells]
theorem new_hm {W' : World} {n g S P T : Nat} (hn : n ≤ 100000) (h1 : Blk W' g 46 #[.slice (some ⟨S, 0, none⟩) n n, .slice (some ⟨P, 0, none⟩) n n, .slice (some ⟨T, 0, none⟩) n n, .int .i64 1048576])
    (h2 : Blk W' S 3 (madeCells #[.int .i64 0] n)) (h3 : Blk W' P 3 (madeCells #[.int .i64 0] n)) (h4 : Blk W' T 3 (madeCells #[.int .i64 0] n)) (d1 : S ≠ P) (d2 : S ≠ T) (d3 : P ≠ T) :
    HM W' ⟨g, S, P, T⟩ n (List.replicate n 0) (List.replicate n 0) (List.replicate n 0) 1048576 := by
  rw [made_nat] at h2 h3 h4
  refine ⟨by simpa using h1, h2, by rw [← nat_int_zero]; exact h3, ⟨_, h4, by simp, fun i hi => rfl⟩, by simp, by simp, by simp, hn, d1, d2, d3, fun i => ?_, by omega⟩
  by_cases hi : i < n
  · simp [List.getD, hi]
  · rw [getD_big _ _ (by simpa using hi)]; omega
/-- the first k are in their places -/
def PlK (n k : Nat) (pl : List Int) : Prop := pl.length = n ∧ ∀ i, i < k → pl.getD i 0 = (i : Nat)
def TrK (n k : Nat) (tr : List Nat) : Prop := tr.length = n ∧ ∀ i, i < k → tr.getD i 0 = i + 1
theorem PlK.step {n k : Nat} {pl : List Int} (h : PlK n k pl) (hk : k < n) : PlK n (k + 1) (pl.set k (k : Nat)) := by
  refine ⟨by simp [h.1], fun i hi => ?_⟩
  rw [getD_set_int, h.1]
  by_cases e : i = k
  · rw [if_pos ⟨e, hk⟩, e]
  · rw [if_neg (fun h => e h.1)]
    exact h.2 i (by omega)
theorem TrK.step {n k : Nat} {tr : List Nat} (h : TrK n k tr) (hk : k < n) : TrK n (k + 1) (tr.set k (k + 1)) := by
  refine ⟨by simp [h.1], fun i hi => ?_⟩
  rw [getD_set_nat, h.1]
  by_cases e : i = k
  · rw [if_pos ⟨e, hk⟩, e]
  · rw [if_neg (fun h => e h.1)]
    exact h.2 i (by omega)
theorem new_whole {W' : World} {b : HB} {n : Nat} {pl : List Int} {tr : List Nat} (h : HM W' b n (List.replicate n 0) pl tr 1048576) (hp : PlK n n pl) (ht : TrK n n tr) : St16 W' b n (SP.fresh n) := by
  have hl := ht.1
  have hz : ∀ v, scV (List.replicate n 0) v = 0 := fun v => by
    unfold scV
    by_cases hi : v - 1 < n
    · simp [List.getD, hi]
    · rw [getD_big _ _ (by simpa using hi)]
  refine ⟨⟨pl, tr, h, ⟨fun i j hi hj e => ?_, fun i hi => ?_, hp.1, fun i hi => ?_, fun v h1 h2 h3 => ?_⟩, fun j h0 h1 _ => ?_, fun v h1 h2 => ?_⟩, SP.Good.fresh h.few⟩
  · rw [ht.2 i (by omega), ht.2 j (by omega)] at e
    omega
  · rw [ht.2 i (by omega)]
    omega
  · rw [ht.2 i (by omega), Nat.add_sub_cancel]
    exact hp.2 i (by omega)
  · exact absurd (mem_getD.2 ⟨v - 1, by omega, by rw [ht.2 _ (by omega)]; omega⟩) h3
  · show ah (List.replicate n 0) _ _
    unfold ah
    rw [hz, hz, ht.2 _ (by omega), ht.2 _ (by omega)]
    omega
  · show _ ↔ (List.replicate n true).getD (v - 1) false = true
    have e : (List.replicate n true).getD (v - 1) false = true := by simp [List.getD, show v - 1 < n by omega]
    rw [e]
    exact ⟨fun _ => rfl, fun _ => mem_getD.2 ⟨v - 1, by omega, by rw [ht.2 _ (by omega)]; omega⟩⟩

theorem new_below (W : World) (o1 o2 o3 o4 : Obj) : Below W.heap.size W ((((W.alloc o1).alloc o2).alloc o3).alloc o4).drew := (((((Below.refl _ _).alloc (Nat.le_refl _) _).alloc (by simp) _).alloc (by simp; omega) _).alloc (by simp; omega) _).drew
theorem new_foot {W : World} {g S P T : Nat} (h : W.heap.size ≤ g ∧ W.heap.size ≤ S ∧ W.heap.size ≤ P ∧ W.heap.size ≤ T) : ∀ q, (HB.mk g S P T).foot q → W.heap.size ≤ q := by
  rintro q (rfl | rfl | rfl | rfl)
  · exact h.1
  · exact h.2.1
  · exact h.2.2.1
  · exact h.2.2.2
set_option maxHeartbeats 4000000 in
theorem new_st (n : Nat) (hn : n ≤ 100000) (W : World) : Calls Try.prog 21 #[.int .i64 (n : Nat)] W fun e W' => ∃ b : HB, e = .returned (.pointer (some ⟨b.g, 0, none⟩)) ∧ St16 W' b n (SP.fresh n) ∧ Below W.heap.size W W' ∧ ∀ q, b.foot q → W.heap.size ≤ q := by
  have hm1 := run_make_row' (P := Try.prog) 32 3 (.int .i64 0) 8 Try.underlying32 infoI16 rfl .i64 .i64 n (by omega) (by omega)
  have hcl : max 0 (min (n : Int) 100000) = n := by omega
  have hif : (if 0 < n then (n : Int) else 0) = (n : Int) := by split <;> omega
  go_enter Try.func21, Try.ntmps21
  go_upto_region 2 with fail
  (try rw [hif])
  clear hif
  go_cut [4] (fun v wx => ∃ b : HB, v = .pointer (some ⟨b.g, 0, none⟩) ∧ Hid (HM wx b n (List.replicate n 0) (List.replicate n 0) (List.replicate n 0) 1048576) ∧ Hid (Below W.heap.size W wx) ∧ Hid (∀ q, b.foot q → W.heap.size ≤ q))
  case first =>
    go_region_held3 (fun _ => True) (trivial) (fail)
    all_goals (go_wp2_with fail; go_meet)
    all_goals
      first
        | (refine ⟨⟨W.heap.size + 1 + 1 + 1, W.heap.size, W.heap.size + 1, W.heap.size + 1 + 1⟩, rfl, Lib.hid (new_hm hn ?_ ?_ ?_ ?_ ?_ ?_ ?_), Lib.hid (new_below W _ _ _ _), Lib.hid (new_foot (by omega))⟩ <;> first | omega | ((try unfold Blk) <;> simp only [World.alloc, World.drew, Array.getElem?_push, Array.size_push] <;> (repeat (first | rw [if_pos rfl] | rw [if_neg (by omega)])) <;> rfl))
        | (refine ⟨⟨W.heap.size + 1 + 1 + 1, W.heap.size, W.heap.size + 1 + 1, W.heap.size + 1⟩, rfl, Lib.hid (new_hm hn ?_ ?_ ?_ ?_ ?_ ?_ ?_), Lib.hid (new_below W _ _ _ _), Lib.hid (new_foot (by omega))⟩ <;> first | omega | ((try unfold Blk) <;> simp only [World.alloc, World.drew, Array.getElem?_push, Array.size_push] <;> (repeat (first | rw [if_pos rfl] | rw [if_neg (by omega)])) <;> rfl))
        | (refine ⟨⟨W.heap.size + 1 + 1 + 1, W.heap.size + 1, W.heap.size, W.heap.size + 1 + 1⟩, rfl, Lib.hid (new_hm hn ?_ ?_ ?_ ?_ ?_ ?_ ?_), Lib.hid (new_below W _ _ _ _), Lib.hid (new_foot (by omega))⟩ <;> first | omega | ((try unfold Blk) <;> simp only [World.alloc, World.drew, Array.getElem?_push, Array.size_push] <;> (repeat (first | rw [if_pos rfl] | rw [if_neg (by omega)])) <;> rfl))
        | (refine ⟨⟨W.heap.size + 1 + 1 + 1, W.heap.size + 1, W.heap.size + 1 + 1, W.heap.size⟩, rfl, Lib.hid (new_hm hn ?_ ?_ ?_ ?_ ?_ ?_ ?_), Lib.hid (new_below W _ _ _ _), Lib.hid (new_foot (by omega))⟩ <;> first | omega | ((try unfold Blk) <;> simp only [World.alloc, World.drew, Array.getElem?_push, Array.size_push] <;> (repeat (first | rw [if_pos rfl] | rw [if_neg (by omega)])) <;> rfl))
        | (refine ⟨⟨W.heap.size + 1 + 1 + 1, W.heap.size + 1 + 1, W.heap.size, W.heap.size + 1⟩, rfl, Lib.hid (new_hm hn ?_ ?_ ?_ ?_ ?_ ?_ ?_), Lib.hid (new_below W _ _ _ _), Lib.hid (new_foot (by omega))⟩ <;> first | omega | ((try unfold Blk) <;> simp only [World.alloc, World.drew, Array.getElem?_push, Array.size_push] <;> (repeat (first | rw [if_pos rfl] | rw [if_neg (by omega)])) <;> rfl))
        | (refine ⟨⟨W.heap.size + 1 + 1 + 1, W.heap.size + 1 + 1, W.heap.size + 1, W.heap.size⟩, rfl, Lib.hid (new_hm hn ?_ ?_ ?_ ?_ ?_ ?_ ?_), Lib.hid (new_below W _ _ _ _), Lib.hid (new_foot (by omega))⟩ <;> first | omega | ((try unfold Blk) <;> simp only [World.alloc, World.drew, Array.getElem?_push, Array.size_push] <;> (repeat (first | rw [if_pos rfl] | rw [if_neg (by omega)])) <;> rfl))
  case rest =>
    obtain ⟨b, rfl, H, HB, HN⟩ := hcut
    have HP0 : Hid (PlK n 0 (List.replicate n 0)) := Lib.hid ⟨by simp, fun i hi => by omega⟩
    have HT0 : Hid (TrK n 0 (List.replicate n 0)) := Lib.hid ⟨by simp, fun i hi => by omega⟩
    clear hm1
    go_wp2_with fail
    go_loopg [18] (n + 1) (fun gk iv wr => ∃ (k : Nat) (pl : List Int) (tr : List Nat), k ≤ n ∧ gk = n - k + 1 ∧ iv = .int .i64 (k : Nat) ∧ Hid (HM wr b n (List.replicate n 0) pl tr 1048576) ∧ Hid (PlK n k pl) ∧ Hid (TrK n k tr) ∧ Hid (Below W.heap.size W wr))
    case atStart => exact ⟨0, _, _, by omega, by omega, rfl, H, HP0, HT0, HB⟩
    case round =>
      obtain ⟨k, pl, tr, hk, rfl, rfl, H, HP, HT, HB⟩ := hrel
      by_cases hlt : k < n
      · have g1 := H.out.g1
        have g2 := H.out.g2
        have cp := H.out.cP hlt
        have ct := H.out.cT (i := k) (by rw [HT.out.1]; exact hlt)
        rw [HT.out.1] at g2
        have fp := H.out.fP k
        have ft := H.out.fT k
        have H1 := Lib.hid ((H.out.setP k (k : Nat)).setT k (k + 1))
        have H2 := Lib.hid ((H.out.setT k (k + 1)).setP k (k : Nat))
        have B1 := Lib.hid ((HB.out.setCell (p := ⟨b.P, k, none⟩) (HN.out _ (.inr (.inr (.inl rfl)))) (.int .i64 (k : Nat))).setCell (p := ⟨b.T, k, none⟩) (HN.out _ (.inr (.inr (.inr rfl)))) (.int .i64 (k + 1 : Nat)))
        have B2 := Lib.hid ((HB.out.setCell (p := ⟨b.T, k, none⟩) (HN.out _ (.inr (.inr (.inr rfl)))) (.int .i64 (k + 1 : Nat))).setCell (p := ⟨b.P, k, none⟩) (HN.out _ (.inr (.inr (.inl rfl)))) (.int .i64 (k : Nat)))
        have p1 := (H.out.setP k (k : Nat)).cT (i := k) (by rw [HT.out.1]; exact hlt)
        have p2 := (H.out.setP k (k : Nat)).fT k
        have p3 := (H.out.setT k (k + 1)).cP hlt
        have p4 := (H.out.setT k (k + 1)).fP k
        simp only [Int.natCast_add, Int.cast_ofNat_Int] at H1 H2 B1 B2 p3 p4
        have hkI : (k : Int) < (n : Int) := by omega
        have KP := Lib.hid (HP.out.step hlt)
        have KT := Lib.hid (HT.out.step hlt)
        go_wp2_with fail
        go_region
        all_goals
          go_wp2_with fail
          go_roundg (n - k)
        all_goals first | (case measure => omega) | skip
        all_goals first
          | exact ⟨k + 1, _, _, by omega, by omega, by go_num, Lib.hid H1.out.drew, KP, KT, Lib.hid B1.out.drew⟩
          | exact ⟨k + 1, _, _, by omega, by omega, by go_num, Lib.hid H2.out.drew, KP, KT, Lib.hid B2.out.drew⟩
          | omega
      · obtain rfl : n = k := by omega
        go_wp2
        go_ret
        exact ⟨b, rfl, new_whole H.out HP.out HT.out, HB.out, HN.out⟩
end Go.Proofs.Ytnimmlfccgnneaa
