/- A literal takes one byte, two, or three, as its variable is; none takes more. -/
import Derived.Test.YtdehlikmefpgnaaDoorBytes06
import Derived.Test.YtdehlikmefpgnaaDoorLaw01
import Derived.Laws.Bits128
namespace Go.Proofs.YtdehlikmefpgnaaDoor
open Go.RowKit
set_option linter.unusedSimpArgs false
set_option linter.unusedVariables false
set_option linter.unnecessarySimpa false

theorem long_form {d : Bool} {g q : List UInt8} (hg : ∀ x ∈ g, 128 ≤ x.toNat) (hne : g ≠ []) (ps : List Stp) (e : List UInt8) (hr : stpsRight ps = true) : binOf ps ≠ (mark d :: (g ++ 0 :: q)) ++ e := fun hh => by
  cases ps with
  | nil => simp [binOf] at hh
  | cons s ps =>
    rw [binOf_cons] at hh
    unfold stpBin at hh
    simp only [List.cons_append, List.append_assoc, List.nil_append, List.cons.injEq] at hh
    obtain ⟨_, h2⟩ := hh
    rw [stpsRight_cons, Bool.and_eq_true] at hr
    have hs := stpRight_mem hr.1
    rcases hl : s.2 with _ | ⟨l, ls⟩
    · rw [hl] at h2
      cases g with
      | nil => exact hne rfl
      | cons x g =>
        simp only [lbs, List.flatMap_nil, List.nil_append, List.cons_append, List.cons.injEq] at h2
        have := hg x (by simp)
        rw [← h2.1] at this
        revert this; decide
    · rw [hl, lbs_cons, List.append_assoc] at h2
      exact nb_pad g _ _ _ hg hne h2
theorem form_of {b : List UInt8} {r : Option (List Stp)} {k : Int} (hn : ∀ ps e, stpsRight ps = true → binOf ps ≠ b ++ e) (h : BinIs b (r, k)) : r = none ∧ k = 9 := by
  rcases h with ⟨ps, h1, h2⟩ | ⟨_, ps, e, h1, _, h3⟩ | _
  · exact absurd (by rw [h2, List.append_nil]) (hn ps [] h1)
  · exact absurd h3 (hn ps e h1)
  · exact ⟨rfl, rfl⟩
/-- a number's bytes: all but the last are high, and with the last one high too none is low -/
theorem nb_init (N : Nat) : ∃ g x, nb N = g ++ [x] ∧ (∀ y ∈ g, 128 ≤ y.toNat) ∧ x.toNat < 128 := by
  induction N using Nat.strongRecOn with
  | ind n ih =>
    by_cases hn : n < 128
    · exact ⟨[], UInt8.ofNat n, nb_low hn, by simp, by rw [u8_low (by omega)]; exact hn⟩
    · obtain ⟨g, x, h1, h2, h3⟩ := ih (n / 128) (by omega)
      refine ⟨UInt8.ofNat (n % 128 + 128) :: g, x, by rw [nb_high hn, h1]; rfl, fun y hy => ?_, h3⟩
      rcases List.mem_cons.1 hy with rfl | hy
      · rw [u8_low (by omega)]; omega
      · exact h2 y hy
theorem nb_count {N : Nat} : (N < 128 → (nb N).length = 1) ∧ (128 ≤ N → N < 16384 → (nb N).length = 2) ∧ (16384 ≤ N → N < 2097152 → (nb N).length = 3) := by
  refine ⟨fun h => by rw [nb_low h]; rfl, fun h1 h2 => ?_, fun h1 h2 => ?_⟩
  · rw [nb_high (by omega), nb_low (by omega)]; rfl
  · rw [nb_high (by omega), nb_high (by omega), nb_low (by omega)]; rfl
/-- 's[:m]' -/
theorem run_slice_front {P : Program} (t e : TypeId) (i : TypeInfo) (ht : P.underlying t = some (.slice e)) (hi : P.info? e = some i) (hsz : i.size = 1) (g n c m : Nat) (j : Int) (hj : j = m) (h1 : m ≤ c) (w : World) :
    (Instr.slice t (.slice (some ⟨g, 0, none⟩) n c) none (some (.int .i64 j)) none).run P w = .ok (.slice (some ⟨g, 0, none⟩) m c) w := by
  subst hj
  have e2 : ∀ code, (Instr.sliceBound (.int .i64 (m : Int)) c code).run P w = .ok m w := fun code => by
    have h1 : (0 : Int) ≤ m ∧ (m : Int) ≤ c := by omega
    simp [Instr.sliceBound, asIntOf, h1, go_sem]
    try omega
  by_cases hc : c = 0
  · obtain rfl : m = 0 := by omega
    subst hc
    simp [Instr.slice, run_underlying ht, Instr.sliceBounds, e2, sizeOf, typeInfo, hi, hsz, go_sem, Addr.add]
  · simp [Instr.slice, run_underlying ht, Instr.sliceBounds, e2, sizeOf, typeInfo, hi, hsz, hc, go_sem, Addr.add]
/-- one byte of a row of one's own is written -/
theorem bytes_set {w : World} {base c g k : Nat} {bs : List UInt8} {y : UInt8} {u : Int} (h : w.ownsRow base 5 1 (.slice (some ⟨g, 0, none⟩) bs.length c) bs.length (Lib.byteCells bs)) (hk : k < bs.length) (hu : u = y.toNat) :
    Bytes (w.setCell ⟨g, k, none⟩ (.int .u8 u)) w.heap.size (some ⟨g, 0, none⟩) (bs.set k y) := by
  rcases h.2 with ⟨_, h0⟩ | ⟨g', cap, cur, hv, _, hh, h1, h2, h3, h4⟩
  · omega
  · injection hv with e1 _ e2
    injection e1 with e1
    injection e1 with e1 _ _
    subst e1 e2
    have hb : Blk w g 5 cur := hh
    have hb2 := hb.set_ k (.int .u8 u)
    intro _
    refine ⟨g, 0, rfl, hb.lt, fun j hj => ?_⟩
    rw [List.length_set] at hj
    rw [Nat.zero_add, hb2.cell, Array.getElem?_setIfInBounds]
    by_cases he : k = j
    · subst he
      rw [if_pos rfl, if_pos (by omega)]
      simp [List.getD, hj, hu]
    · rw [if_neg he]
      have hc : cur[j]? = (Lib.byteCells bs)[j]? := by
        rw [← h4, List.getElem?_take, if_pos (by omega), Array.getElem?_toList]
      rw [hc]
      simp [List.getD, Lib.byteCells, hj, List.getElem_set, he]

theorem own_frozen {w : World} {base e n c g k : Nat} {xs : List Value} (h : w.ownsRow base e 1 (.slice (some ⟨g, 0, none⟩) n c) n xs) (hn : 0 < n) : w.frozen? ⟨g, k, none⟩ = false := by
  rcases h.2 with ⟨_, h0⟩ | ⟨g', cap, cur, hv, _, hh, _⟩
  · omega
  · injection hv with e1 _ _
    injection e1 with e1
    injection e1 with e1 _ _
    subst e1
    exact Blk.frozen (show Blk w g e cur from hh) k
theorem bytes_cell {w : World} {B g k : Nat} {bs : List UInt8} (h : Bytes w B (some ⟨g, 0, none⟩) bs) (hk : k < bs.length) : w.cell? ⟨g, k, none⟩ = some (.int .u8 ((bs.getD k 0).toNat : Int)) := by
  obtain ⟨b, off, e, _, hc⟩ := h.at_ hk
  injection e with e
  injection e with e1 e2 _
  subst e1 e2
  rwa [Nat.zero_add] at hc

set_option maxRecDepth 100000 in
set_option maxHeartbeats 8000000 in
theorem numbers6_any (n : Int) (d : Bool) (m : Int) (w : World) (hE : EnvN m w) (hn : (Lit.int .i64 n).wf = true) :
    Calls Tryd.prog 9 #[.int .i64 n, .bool d] w fun e w' => e = .returned (.bool true) ∧ Below w.heap.size w w' := by
  obtain ⟨i0, hi, hz0, hz1, hz2⟩ := info_parts Tryd.infoByte
  have FT := Lib.hid (fit06_any m w hE)
  have LI := Lib.hid (fun w' => lit_any n hn w')
  clear hE hn
  go_enter Tryd.func9, Tryd.ntmps9
  go_wp2_with fail
  refine FT.out.mono ?_
  rintro e w1 ⟨rfl, hb1⟩
  have HB1 := Lib.hid hb1
  have hs1 := hb1.size
  clear FT hb1
  go_wp2_with fail
  refine (LI.out w1).mono ?_
  rintro e w1' ⟨l, hl0, hl1, hl2, rfl, rfl⟩
  have hlit : isLit l = true := isLit_iff.2 ⟨hl0, hl1, hl2⟩
  have hnp := litNum_pos hlit
  obtain ⟨v, hv⟩ : ∃ v, v = litVar l := ⟨_, rfl⟩
  obtain ⟨N, hN⟩ : ∃ N : Nat, N = (litNum l).toNat := ⟨_, rfl⟩
  have hNN : (N : Int) = 2 * v + (if l < 0 then 1 else 0) := by rw [hN, hv]; unfold litNum at hnp ⊢; omega
  have hN2 : 2 ≤ N ∧ N ≤ 200001 := by omega
  have hmax : max l (-l) = v := by rw [hv]; unfold litVar; split <;> omega
  rcases (show v < 64 ∨ (64 ≤ v ∧ v < 8192) ∨ 8192 ≤ v by omega) with hv1 | ⟨hv1, hv2⟩ | hv1
  · -- 1
    obtain ⟨ng, x, hnb, hgh, hxl⟩ := nb_init N
    have hcnt : (nb N).length = 1 := nb_count.1 (by split at hNN <;> omega)
    have hgl : ng.length = 0 := by
      rw [hnb, List.length_append] at hcnt
      have h9 : [x].length = 1 := rfl
      omega
    obtain ⟨w2, hw2⟩ : ∃ w2, w2 = (w1.alloc (.cells #[.int .i64 l] 3)).alloc (.cells #[.bool d, .slice (some ⟨w1.heap.size, 0, none⟩) 1 1] 42) := ⟨_, rfl⟩
    have hb2 : Below w1.heap.size w1 w2 := by rw [hw2]; exact ((Below.refl _ _).alloc (Nat.le_refl _) _).alloc (by simp) _
    have hs2 : w2.heap.size = w1.heap.size + 2 := by rw [hw2]; simp
    have hin : Ints w2 (w1.heap.size + 2) (some ⟨w1.heap.size, 0, none⟩) [l] := by
      have hbk : Blk w2 w1.heap.size 3 #[.int .i64 l] := by rw [hw2]; exact (Blk.new w1 _ _).alloc _
      refine ints_of_blk hbk (by omega) (fun j hj => ?_)
      obtain rfl : j = 0 := by simp at hj; omega
      rfl
    have hst : Steps w2 (w1.heap.size + 2) (some ⟨w1.heap.size + 1, 0, none⟩) [(d, [l])] := by
      have hbk : Blk w2 (w1.heap.size + 1) 42 #[.bool d, .slice (some ⟨w1.heap.size, 0, none⟩) 1 1] := by
        have := Blk.new (w1.alloc (.cells #[.int .i64 l] 3)) 42 #[.bool d, .slice (some ⟨w1.heap.size, 0, none⟩) 1 1]
        rw [hw2]; simpa using this
      exact steps_of_blk hbk (by omega) hin
    have hpr : stpsRight [(d, [l])] = true := by simp [stpsRight, stpRight, hlit]
    have hbin : binOf [(d, [l])] = mark d :: (nb N ++ [0]) := by simp [binOf, stpBin, lbs, lb, hN]
    obtain ⟨bb, hbb⟩ : ∃ bb, bb = binOf [(d, [l])] := ⟨_, rfl⟩
    have hbl : bb.length = 3 := by rw [hbb, hbin, List.length_cons, List.length_append, hcnt]; rfl
    have BI := Lib.hid (binary_any [(d, [l])] (w1.heap.size + 2) 1 (some ⟨w1.heap.size + 1, 0, none⟩) w2 hst (by omega) hpr (by simp) (by rw [← hbb, hbl]; decide))
    rw [← hbb] at BI
    obtain ⟨fr, hfr⟩ : ∃ fr, fr = bb.take 2 := ⟨_, rfl⟩
    have hfl : fr.length = 2 := by rw [hfr, List.length_take, hbl]; rfl
    have hfe : fr = mark d :: (ng ++ [x]) := by
      rw [hfr, hbb, hbin, ← hnb, List.take_succ_cons, List.take_append_of_le_length (by omega), List.take_of_length_le (by omega)]
    have hfd : ∀ j, j < 2 → fr.getD j 0 = bb.getD j 0 := fun j hj => by rw [hfr]; simp [List.getD, List.getElem?_take, hj]
    have hm0 : bb.getD 0 0 = mark d := by rw [hbb, hbin]; rfl
    have HST := Lib.hid hst
    have HB2 := Lib.hid (HB1.out.trans (hb2.mono hs1))
    have HS2 := Lib.hid hs2
    have HV := Lib.hid hv
    have HGH := Lib.hid hgh
    have HPR := Lib.hid hpr
    have HBB := Lib.hid hbb
    have HFE := Lib.hid hfe
    have HFD := Lib.hid hfd
    have HM0 := Lib.hid hm0
    have HFL := Lib.hid hfl
    have HGL := Lib.hid hgl
    have hx0 := x.toNat_lt
    clear hb2 hs2 hin hst hv hnb hgh hpr hbin hlit hnp hcnt hN hNN hN2 hbb hfe hfd hm0 hfr hfl hgl
    rw [hw2] at BI
    go_wp2_with fail
    refine BI.out.mono ?_
    rw [← hw2]
    rintro e w3 ⟨A3, c3, rfl, hown3, hb3⟩
    have hc3 := own_cap hown3
    have hby3 := bytes_of_own hown3
    obtain ⟨g3, rfl, hg3⟩ := own_addr hown3 (by rw [hbl]; decide)
    have PB := Lib.hid (parseBinary_any _ w3.heap.size c3 _ w3 hby3 (Nat.le_refl _) hc3 (by rw [hbl]; decide))
    have HBL := Lib.hid hbl
    rw [hbl] at hc3 PB ⊢
    have HBY3 := Lib.hid hby3
    have HB3 := Lib.hid hb3
    clear hown3 hby3 hb3 hw2 BI hg3 hbl
    go_wp2_with fail
    refine PB.out.mono ?_
    rintro e w4 ⟨hb4, hcase⟩
    have hq : ∃ (A : Option Addr) (c : Nat), e = .returned (.tuple #[.slice A [(d, [l])].length c, .int .i64 0]) ∧ Steps w4 w4.heap.size A [(d, [l])] := by
      rcases hcase with ⟨ps, A, c, rfl, h1, h2⟩ | ⟨k, rfl, h1, h2⟩
      · rw [HBB.out] at h1
        obtain ⟨h3, _⟩ := bin_self HPR.out h1
        injection h3 with h3
        subst h3
        exact ⟨A, c, rfl, h2.steps⟩
      · rw [HBB.out] at h1
        exact absurd (bin_self HPR.out h1).2 h2
    obtain ⟨A4, c4, rfl, hst4⟩ := hq
    have hst2 : Steps w4 w4.heap.size (some ⟨w1.heap.size + 1, 0, none⟩) [(d, [l])] := by
      have h3 := HST.out.below (HB3.out.mono (show w1.heap.size + 2 ≤ w2.heap.size by have := HS2.out; omega))
      have h4 := h3.below (hb4.mono (by have := HB3.out.size; have := HS2.out; omega))
      exact h4.more (by have := HB3.out.size; have := hb4.size; have := HS2.out; omega)
    have S1 := Lib.hid (same6_any [(d, [l])] [(d, [l])] w4.heap.size 1 c4 (some ⟨w1.heap.size + 1, 0, none⟩) A4 w4 hst2 hst4 (by simp) (by simp) (fun j => by rcases j with _ | j <;> simp [List.getD]) (fun j => by rcases j with _ | j <;> simp [List.getD]))
    rw [decide_eq_true (rfl : [(d, [l])] = [(d, [l])])] at S1
    have HB4 := Lib.hid hb4
    clear hst2 hst4 hcase PB hb4
    go_wp2_with fail
    refine S1.out.mono ?_
    rintro e w5 ⟨rfl, n1, hw5⟩
    have hb5 : Below w3.heap.size w3 w5 := by rw [hw5]; exact below_drewN HB4.out n1
    have hby5 := Cells.below HBY3.out hb5
    have hcell := bytes_cell hby5 (k := 0) (by rw [HBL.out]; decide)
    rw [HM0.out] at hcell
    obtain ⟨M, hM⟩ : ∃ M : Int, M = ((mark d).toNat : Int) := ⟨_, rfl⟩
    have hMd : (M == 100) = d := by rw [hM]; cases d <;> rfl
    rw [← hM] at hcell
    have SF := run_slice_front (P := Tryd.prog) 28 5 i0 Tryd.underlying28 hi hz1 g3 3 c3 fr.length 2 (by rw [HFL.out]; rfl) (by rw [HFL.out]; omega)
    have hfry : Bytes w5 w5.heap.size (some ⟨g3, 0, none⟩) fr := by
      unfold Bytes
      rw [HFL.out]
      intro _
      have hg5 : g3 < w5.heap.size := by
        have := World.block_lt_of_cell? w5 _ hcell
        simpa using this
      refine ⟨g3, 0, rfl, hg5, fun j hj => ?_⟩
      show w5.cell? _ = some (.int .u8 ((fr.getD j 0).toNat : Int))
      rw [HFD.out j hj, Nat.zero_add]
      exact bytes_cell hby5 (by rw [HBL.out]; omega)
    have HFRY := Lib.hid hfry
    have HB5 := Lib.hid (HB2.out.trans ((HB3.out.trans (hb5.mono HB3.out.size)).mono HB2.out.size))
    have hs5 := HB5.out.size
    have HFM := Lib.hid (show fr.length ≤ 4 by rw [HFL.out]; decide)
    clear hb5 hby5 hw5 hM hfry S1
    go_wp2_with (at_builtin; refine wpList_append_cells _ rfl _ _ 28 rfl w5.heap.size 5 i0 (.int .u8 0) 1 Tryd.underlying28 hi hz0 hz1 hz2 rfl (.slice none 0 0) 0 [] rfl (World.ownsRow_nil _ _ _ _) w5.heap.size (some ⟨g3, 0, none⟩) fr.length c3 _ rfl HFRY.out (fun j _ => rfl) ?q1 ?q2 (Nat.le_refl _) ?_)
    case q1 => have := HFM.out; unfold maxLen; omega
    case q2 => have := HFM.out; omega
    intro v' w6 hown6 hg6 hob6
    rw [cells_bytes] at hown6
    have HOW6 := Lib.hid hown6
    have HB6 := Lib.hid (HB5.out.grown hg6 hs5 (fun g hg => by cases hg))
    have hs6 := hg6.size
    clear hown6 hg6 hob6 SF hcell hMd
    have hz6 : ∀ j, j < 2 → (w6.alloc (.cells #[.int .u8 0, .int .u8 0] 5)).cell? ⟨w6.heap.size, 0 + j, none⟩ = some (.int .u8 0) := fun j hj => by
      rw [Nat.zero_add, (Blk.new w6 5 #[.int .u8 0, .int .u8 0]).cell]
      match j, hj with
      | 0, _ => rfl
      | 1, _ => rfl
    have HZ6 := Lib.hid (show Cells (w6.alloc (.cells #[.int .u8 0, .int .u8 0] 5)) (w6.heap.size + 1) (some ⟨w6.heap.size, 0, none⟩) 2 (fun _ => .int .u8 0) from fun _ => ⟨w6.heap.size, 0, rfl, by omega, hz6⟩)
    clear hz6
    go_wp2_with (at_builtin; refine wpList_append_cells _ rfl _ _ 28 rfl w5.heap.size 5 i0 (.int .u8 0) 1 Tryd.underlying28 hi hz0 hz1 hz2 rfl _ _ _ rfl (HOW6.out.alloc _) (w6.heap.size + 1) (some ⟨w6.heap.size, 0, none⟩) 2 2 (fun _ => .int .u8 0) rfl HZ6.out (fun j _ => rfl) ?q1 ?q2 ?q3 ?_)
    case q1 => have := HFM.out; unfold maxLen; omega
    case q2 => have := HFM.out; omega
    case q3 => simp; omega
    intro v'' w7 hown7 hg7 hob7
    obtain ⟨lg, hlg⟩ : ∃ lg, lg = fr ++ [0, 0] := ⟨_, rfl⟩
    have hll : lg.length = fr.length + 2 := by rw [hlg]; simp
    have hown8 : w7.ownsRow w5.heap.size 5 1 v'' lg.length (Lib.byteCells lg) := by
      rw [hll, hlg, byteCells_append]
      exact hown7
    obtain ⟨A8, c8, hv8, hc8, _⟩ := own_slice hown8
    rw [← hll] at hown7
    subst hv8
    obtain ⟨g8, rfl, hg8, hg8'⟩ := own_addr hown8 (by omega)
    have hlen : lg.length = 4 := by rw [hll, HFL.out]
    have hI : ((1 : Int)) < (lg.length : Int) := by omega
    have hby8 := bytes_of_own hown8
    have hcx := bytes_cell hby8 (k := 1) (by omega)
    have hgx : lg.getD 1 0 = x := by
      rw [hlg, HFE.out]
      have h9 := HGL.out
      match ng, h9 with
      | [], _ => rfl
    rw [hgx] at hcx
    have hor := u8_or128_right (x.toNat : Int) (by omega) (by omega)
    have hfz := own_frozen (k := 1) hown8 (by omega)
    have hset := bytes_set (y := UInt8.ofNat (x.toNat + 128)) (u := (x.toNat : Int) + 128) hown8 (k := 1) (by omega) (by rw [u8_low (by omega)]; push_cast; rfl)
    have hfe2 : lg.set 1 (UInt8.ofNat (x.toNat + 128)) = mark d :: ((ng ++ [UInt8.ofNat (x.toNat + 128)]) ++ 0 :: [0]) := by
      rw [hlg, HFE.out]
      have h9 := HGL.out
      match ng, h9 with
      | [], _ => rfl
    have HNO := Lib.hid (long_form (d := d) (g := ng ++ [UInt8.ofNat (x.toNat + 128)]) (q := [0]) (fun y hy => by
      rcases List.mem_append.1 hy with h | h
      · exact HGH.out y h
      · rw [List.mem_singleton.1 h, u8_low (by omega)]; omega) (by simp))
    have hsl : (lg.set 1 (UInt8.ofNat (x.toNat + 128))).length = lg.length := List.length_set
    have P2 := parseBinary_any (lg.set 1 (UInt8.ofNat (x.toNat + 128))) (w7.setCell ⟨g8, 1, none⟩ (.int .u8 ((x.toNat : Int) + 128))).heap.size c8 (some ⟨g8, 0, none⟩) (w7.setCell ⟨g8, 1, none⟩ (.int .u8 ((x.toNat : Int) + 128))) (by simpa using hset) (Nat.le_refl _) (by rw [hsl]; exact hc8) (by rw [hsl]; omega)
    rw [hsl, hfe2] at P2
    have P3 := Lib.hid P2
    have HB8 := Lib.hid (((HB6.out.alloc (by omega) _).grown hg7 (by simp; omega) (fun g hg => by have := (HOW6.out.lt g hg).1; omega)).setCell (p := ⟨g8, 1, none⟩) (by simp; omega) (.int .u8 ((x.toNat : Int) + 128)))
    generalize (x.toNat : Int) = X at hcx hor P3 HB8
    clear hown7 hown8 hg7 hob7 hby8 hset hfe2 hsl P2 hlg hll hc8 hg8 hg8' hgx hlen
    go_wp2_with (go_at_call 16; refine P3.out.mono ?_)
    rintro e w9 ⟨hb9, hcase⟩
    have HB9 := Lib.hid (HB8.out.trans (hb9.mono HB8.out.size))
    have hq : ∃ (A : Option Addr) (n c : Nat), e = .returned (.tuple #[.slice A n c, .int .i64 9]) := by
      rcases hcase with ⟨ps, A, c, rfl, h1, h2⟩ | ⟨k, rfl, h1, h2⟩
      · have := (form_of HNO.out h1).1
        cases this
      · rw [(form_of HNO.out h1).2]
        exact ⟨none, 0, 0, rfl⟩
    obtain ⟨A9, n9, c9, rfl⟩ := hq
    clear hcase hb9
    go_wp2
    go_ret
    exact ⟨rfl, HB9.out⟩
  · -- 2
    obtain ⟨ng, x, hnb, hgh, hxl⟩ := nb_init N
    have hcnt : (nb N).length = 2 := nb_count.2.1 (by split at hNN <;> omega) (by split at hNN <;> omega)
    have hgl : ng.length = 1 := by
      rw [hnb, List.length_append] at hcnt
      have h9 : [x].length = 1 := rfl
      omega
    obtain ⟨w2, hw2⟩ : ∃ w2, w2 = (w1.alloc (.cells #[.int .i64 l] 3)).alloc (.cells #[.bool d, .slice (some ⟨w1.heap.size, 0, none⟩) 1 1] 42) := ⟨_, rfl⟩
    have hb2 : Below w1.heap.size w1 w2 := by rw [hw2]; exact ((Below.refl _ _).alloc (Nat.le_refl _) _).alloc (by simp) _
    have hs2 : w2.heap.size = w1.heap.size + 2 := by rw [hw2]; simp
    have hin : Ints w2 (w1.heap.size + 2) (some ⟨w1.heap.size, 0, none⟩) [l] := by
      have hbk : Blk w2 w1.heap.size 3 #[.int .i64 l] := by rw [hw2]; exact (Blk.new w1 _ _).alloc _
      refine ints_of_blk hbk (by omega) (fun j hj => ?_)
      obtain rfl : j = 0 := by simp at hj; omega
      rfl
    have hst : Steps w2 (w1.heap.size + 2) (some ⟨w1.heap.size + 1, 0, none⟩) [(d, [l])] := by
      have hbk : Blk w2 (w1.heap.size + 1) 42 #[.bool d, .slice (some ⟨w1.heap.size, 0, none⟩) 1 1] := by
        have := Blk.new (w1.alloc (.cells #[.int .i64 l] 3)) 42 #[.bool d, .slice (some ⟨w1.heap.size, 0, none⟩) 1 1]
        rw [hw2]; simpa using this
      exact steps_of_blk hbk (by omega) hin
    have hpr : stpsRight [(d, [l])] = true := by simp [stpsRight, stpRight, hlit]
    have hbin : binOf [(d, [l])] = mark d :: (nb N ++ [0]) := by simp [binOf, stpBin, lbs, lb, hN]
    obtain ⟨bb, hbb⟩ : ∃ bb, bb = binOf [(d, [l])] := ⟨_, rfl⟩
    have hbl : bb.length = 4 := by rw [hbb, hbin, List.length_cons, List.length_append, hcnt]; rfl
    have BI := Lib.hid (binary_any [(d, [l])] (w1.heap.size + 2) 1 (some ⟨w1.heap.size + 1, 0, none⟩) w2 hst (by omega) hpr (by simp) (by rw [← hbb, hbl]; decide))
    rw [← hbb] at BI
    obtain ⟨fr, hfr⟩ : ∃ fr, fr = bb.take 3 := ⟨_, rfl⟩
    have hfl : fr.length = 3 := by rw [hfr, List.length_take, hbl]; rfl
    have hfe : fr = mark d :: (ng ++ [x]) := by
      rw [hfr, hbb, hbin, ← hnb, List.take_succ_cons, List.take_append_of_le_length (by omega), List.take_of_length_le (by omega)]
    have hfd : ∀ j, j < 3 → fr.getD j 0 = bb.getD j 0 := fun j hj => by rw [hfr]; simp [List.getD, List.getElem?_take, hj]
    have hm0 : bb.getD 0 0 = mark d := by rw [hbb, hbin]; rfl
    have HST := Lib.hid hst
    have HB2 := Lib.hid (HB1.out.trans (hb2.mono hs1))
    have HS2 := Lib.hid hs2
    have HV := Lib.hid hv
    have HGH := Lib.hid hgh
    have HPR := Lib.hid hpr
    have HBB := Lib.hid hbb
    have HFE := Lib.hid hfe
    have HFD := Lib.hid hfd
    have HM0 := Lib.hid hm0
    have HFL := Lib.hid hfl
    have HGL := Lib.hid hgl
    have hx0 := x.toNat_lt
    clear hb2 hs2 hin hst hv hnb hgh hpr hbin hlit hnp hcnt hN hNN hN2 hbb hfe hfd hm0 hfr hfl hgl
    rw [hw2] at BI
    go_wp2_with fail
    refine BI.out.mono ?_
    rw [← hw2]
    rintro e w3 ⟨A3, c3, rfl, hown3, hb3⟩
    have hc3 := own_cap hown3
    have hby3 := bytes_of_own hown3
    obtain ⟨g3, rfl, hg3⟩ := own_addr hown3 (by rw [hbl]; decide)
    have PB := Lib.hid (parseBinary_any _ w3.heap.size c3 _ w3 hby3 (Nat.le_refl _) hc3 (by rw [hbl]; decide))
    have HBL := Lib.hid hbl
    rw [hbl] at hc3 PB ⊢
    have HBY3 := Lib.hid hby3
    have HB3 := Lib.hid hb3
    clear hown3 hby3 hb3 hw2 BI hg3 hbl
    go_wp2_with fail
    refine PB.out.mono ?_
    rintro e w4 ⟨hb4, hcase⟩
    have hq : ∃ (A : Option Addr) (c : Nat), e = .returned (.tuple #[.slice A [(d, [l])].length c, .int .i64 0]) ∧ Steps w4 w4.heap.size A [(d, [l])] := by
      rcases hcase with ⟨ps, A, c, rfl, h1, h2⟩ | ⟨k, rfl, h1, h2⟩
      · rw [HBB.out] at h1
        obtain ⟨h3, _⟩ := bin_self HPR.out h1
        injection h3 with h3
        subst h3
        exact ⟨A, c, rfl, h2.steps⟩
      · rw [HBB.out] at h1
        exact absurd (bin_self HPR.out h1).2 h2
    obtain ⟨A4, c4, rfl, hst4⟩ := hq
    have hst2 : Steps w4 w4.heap.size (some ⟨w1.heap.size + 1, 0, none⟩) [(d, [l])] := by
      have h3 := HST.out.below (HB3.out.mono (show w1.heap.size + 2 ≤ w2.heap.size by have := HS2.out; omega))
      have h4 := h3.below (hb4.mono (by have := HB3.out.size; have := HS2.out; omega))
      exact h4.more (by have := HB3.out.size; have := hb4.size; have := HS2.out; omega)
    have S1 := Lib.hid (same6_any [(d, [l])] [(d, [l])] w4.heap.size 1 c4 (some ⟨w1.heap.size + 1, 0, none⟩) A4 w4 hst2 hst4 (by simp) (by simp) (fun j => by rcases j with _ | j <;> simp [List.getD]) (fun j => by rcases j with _ | j <;> simp [List.getD]))
    rw [decide_eq_true (rfl : [(d, [l])] = [(d, [l])])] at S1
    have HB4 := Lib.hid hb4
    clear hst2 hst4 hcase PB hb4
    go_wp2_with fail
    refine S1.out.mono ?_
    rintro e w5 ⟨rfl, n1, hw5⟩
    have hb5 : Below w3.heap.size w3 w5 := by rw [hw5]; exact below_drewN HB4.out n1
    have hby5 := Cells.below HBY3.out hb5
    have hcell := bytes_cell hby5 (k := 0) (by rw [HBL.out]; decide)
    rw [HM0.out] at hcell
    obtain ⟨M, hM⟩ : ∃ M : Int, M = ((mark d).toNat : Int) := ⟨_, rfl⟩
    have hMd : (M == 100) = d := by rw [hM]; cases d <;> rfl
    rw [← hM] at hcell
    have SF := run_slice_front (P := Tryd.prog) 28 5 i0 Tryd.underlying28 hi hz1 g3 4 c3 fr.length 3 (by rw [HFL.out]; rfl) (by rw [HFL.out]; omega)
    have hfry : Bytes w5 w5.heap.size (some ⟨g3, 0, none⟩) fr := by
      unfold Bytes
      rw [HFL.out]
      intro _
      have hg5 : g3 < w5.heap.size := by
        have := World.block_lt_of_cell? w5 _ hcell
        simpa using this
      refine ⟨g3, 0, rfl, hg5, fun j hj => ?_⟩
      show w5.cell? _ = some (.int .u8 ((fr.getD j 0).toNat : Int))
      rw [HFD.out j hj, Nat.zero_add]
      exact bytes_cell hby5 (by rw [HBL.out]; omega)
    have HFRY := Lib.hid hfry
    have HB5 := Lib.hid (HB2.out.trans ((HB3.out.trans (hb5.mono HB3.out.size)).mono HB2.out.size))
    have hs5 := HB5.out.size
    have HFM := Lib.hid (show fr.length ≤ 4 by rw [HFL.out]; decide)
    clear hb5 hby5 hw5 hM hfry S1
    go_wp2_with (at_builtin; refine wpList_append_cells _ rfl _ _ 28 rfl w5.heap.size 5 i0 (.int .u8 0) 1 Tryd.underlying28 hi hz0 hz1 hz2 rfl (.slice none 0 0) 0 [] rfl (World.ownsRow_nil _ _ _ _) w5.heap.size (some ⟨g3, 0, none⟩) fr.length c3 _ rfl HFRY.out (fun j _ => rfl) ?q1 ?q2 (Nat.le_refl _) ?_)
    case q1 => have := HFM.out; unfold maxLen; omega
    case q2 => have := HFM.out; omega
    intro v' w6 hown6 hg6 hob6
    rw [cells_bytes] at hown6
    have HOW6 := Lib.hid hown6
    have HB6 := Lib.hid (HB5.out.grown hg6 hs5 (fun g hg => by cases hg))
    have hs6 := hg6.size
    clear hown6 hg6 hob6 SF hcell hMd
    have hz6 : ∀ j, j < 2 → (w6.alloc (.cells #[.int .u8 0, .int .u8 0] 5)).cell? ⟨w6.heap.size, 0 + j, none⟩ = some (.int .u8 0) := fun j hj => by
      rw [Nat.zero_add, (Blk.new w6 5 #[.int .u8 0, .int .u8 0]).cell]
      match j, hj with
      | 0, _ => rfl
      | 1, _ => rfl
    have HZ6 := Lib.hid (show Cells (w6.alloc (.cells #[.int .u8 0, .int .u8 0] 5)) (w6.heap.size + 1) (some ⟨w6.heap.size, 0, none⟩) 2 (fun _ => .int .u8 0) from fun _ => ⟨w6.heap.size, 0, rfl, by omega, hz6⟩)
    clear hz6
    go_wp2_with (at_builtin; refine wpList_append_cells _ rfl _ _ 28 rfl w5.heap.size 5 i0 (.int .u8 0) 1 Tryd.underlying28 hi hz0 hz1 hz2 rfl _ _ _ rfl (HOW6.out.alloc _) (w6.heap.size + 1) (some ⟨w6.heap.size, 0, none⟩) 2 2 (fun _ => .int .u8 0) rfl HZ6.out (fun j _ => rfl) ?q1 ?q2 ?q3 ?_)
    case q1 => have := HFM.out; unfold maxLen; omega
    case q2 => have := HFM.out; omega
    case q3 => simp; omega
    intro v'' w7 hown7 hg7 hob7
    obtain ⟨lg, hlg⟩ : ∃ lg, lg = fr ++ [0, 0] := ⟨_, rfl⟩
    have hll : lg.length = fr.length + 2 := by rw [hlg]; simp
    have hown8 : w7.ownsRow w5.heap.size 5 1 v'' lg.length (Lib.byteCells lg) := by
      rw [hll, hlg, byteCells_append]
      exact hown7
    obtain ⟨A8, c8, hv8, hc8, _⟩ := own_slice hown8
    rw [← hll] at hown7
    subst hv8
    obtain ⟨g8, rfl, hg8, hg8'⟩ := own_addr hown8 (by omega)
    have hlen : lg.length = 5 := by rw [hll, HFL.out]
    have hI : ((2 : Int)) < (lg.length : Int) := by omega
    have hby8 := bytes_of_own hown8
    have hcx := bytes_cell hby8 (k := 2) (by omega)
    have hgx : lg.getD 2 0 = x := by
      rw [hlg, HFE.out]
      have h9 := HGL.out
      match ng, h9 with
      | [_], _ => rfl
    rw [hgx] at hcx
    have hor := u8_or128_right (x.toNat : Int) (by omega) (by omega)
    have hfz := own_frozen (k := 2) hown8 (by omega)
    have hset := bytes_set (y := UInt8.ofNat (x.toNat + 128)) (u := (x.toNat : Int) + 128) hown8 (k := 2) (by omega) (by rw [u8_low (by omega)]; push_cast; rfl)
    have hfe2 : lg.set 2 (UInt8.ofNat (x.toNat + 128)) = mark d :: ((ng ++ [UInt8.ofNat (x.toNat + 128)]) ++ 0 :: [0]) := by
      rw [hlg, HFE.out]
      have h9 := HGL.out
      match ng, h9 with
      | [_], _ => rfl
    have HNO := Lib.hid (long_form (d := d) (g := ng ++ [UInt8.ofNat (x.toNat + 128)]) (q := [0]) (fun y hy => by
      rcases List.mem_append.1 hy with h | h
      · exact HGH.out y h
      · rw [List.mem_singleton.1 h, u8_low (by omega)]; omega) (by simp))
    have hsl : (lg.set 2 (UInt8.ofNat (x.toNat + 128))).length = lg.length := List.length_set
    have P2 := parseBinary_any (lg.set 2 (UInt8.ofNat (x.toNat + 128))) (w7.setCell ⟨g8, 2, none⟩ (.int .u8 ((x.toNat : Int) + 128))).heap.size c8 (some ⟨g8, 0, none⟩) (w7.setCell ⟨g8, 2, none⟩ (.int .u8 ((x.toNat : Int) + 128))) (by simpa using hset) (Nat.le_refl _) (by rw [hsl]; exact hc8) (by rw [hsl]; omega)
    rw [hsl, hfe2] at P2
    have P3 := Lib.hid P2
    have HB8 := Lib.hid (((HB6.out.alloc (by omega) _).grown hg7 (by simp; omega) (fun g hg => by have := (HOW6.out.lt g hg).1; omega)).setCell (p := ⟨g8, 2, none⟩) (by simp; omega) (.int .u8 ((x.toNat : Int) + 128)))
    generalize (x.toNat : Int) = X at hcx hor P3 HB8
    clear hown7 hown8 hg7 hob7 hby8 hset hfe2 hsl P2 hlg hll hc8 hg8 hg8' hgx hlen
    go_wp2_with (go_at_call 16; refine P3.out.mono ?_)
    rintro e w9 ⟨hb9, hcase⟩
    have HB9 := Lib.hid (HB8.out.trans (hb9.mono HB8.out.size))
    have hq : ∃ (A : Option Addr) (n c : Nat), e = .returned (.tuple #[.slice A n c, .int .i64 9]) := by
      rcases hcase with ⟨ps, A, c, rfl, h1, h2⟩ | ⟨k, rfl, h1, h2⟩
      · have := (form_of HNO.out h1).1
        cases this
      · rw [(form_of HNO.out h1).2]
        exact ⟨none, 0, 0, rfl⟩
    obtain ⟨A9, n9, c9, rfl⟩ := hq
    clear hcase hb9
    go_wp2
    go_ret
    exact ⟨rfl, HB9.out⟩
  · -- 3
    obtain ⟨ng, x, hnb, hgh, hxl⟩ := nb_init N
    have hcnt : (nb N).length = 3 := nb_count.2.2 (by split at hNN <;> omega) (by omega)
    have hgl : ng.length = 2 := by
      rw [hnb, List.length_append] at hcnt
      have h9 : [x].length = 1 := rfl
      omega
    obtain ⟨w2, hw2⟩ : ∃ w2, w2 = (w1.alloc (.cells #[.int .i64 l] 3)).alloc (.cells #[.bool d, .slice (some ⟨w1.heap.size, 0, none⟩) 1 1] 42) := ⟨_, rfl⟩
    have hb2 : Below w1.heap.size w1 w2 := by rw [hw2]; exact ((Below.refl _ _).alloc (Nat.le_refl _) _).alloc (by simp) _
    have hs2 : w2.heap.size = w1.heap.size + 2 := by rw [hw2]; simp
    have hin : Ints w2 (w1.heap.size + 2) (some ⟨w1.heap.size, 0, none⟩) [l] := by
      have hbk : Blk w2 w1.heap.size 3 #[.int .i64 l] := by rw [hw2]; exact (Blk.new w1 _ _).alloc _
      refine ints_of_blk hbk (by omega) (fun j hj => ?_)
      obtain rfl : j = 0 := by simp at hj; omega
      rfl
    have hst : Steps w2 (w1.heap.size + 2) (some ⟨w1.heap.size + 1, 0, none⟩) [(d, [l])] := by
      have hbk : Blk w2 (w1.heap.size + 1) 42 #[.bool d, .slice (some ⟨w1.heap.size, 0, none⟩) 1 1] := by
        have := Blk.new (w1.alloc (.cells #[.int .i64 l] 3)) 42 #[.bool d, .slice (some ⟨w1.heap.size, 0, none⟩) 1 1]
        rw [hw2]; simpa using this
      exact steps_of_blk hbk (by omega) hin
    have hpr : stpsRight [(d, [l])] = true := by simp [stpsRight, stpRight, hlit]
    have hbin : binOf [(d, [l])] = mark d :: (nb N ++ [0]) := by simp [binOf, stpBin, lbs, lb, hN]
    obtain ⟨bb, hbb⟩ : ∃ bb, bb = binOf [(d, [l])] := ⟨_, rfl⟩
    have hbl : bb.length = 5 := by rw [hbb, hbin, List.length_cons, List.length_append, hcnt]; rfl
    have BI := Lib.hid (binary_any [(d, [l])] (w1.heap.size + 2) 1 (some ⟨w1.heap.size + 1, 0, none⟩) w2 hst (by omega) hpr (by simp) (by rw [← hbb, hbl]; decide))
    rw [← hbb] at BI
    obtain ⟨fr, hfr⟩ : ∃ fr, fr = bb.take 4 := ⟨_, rfl⟩
    have hfl : fr.length = 4 := by rw [hfr, List.length_take, hbl]; rfl
    have hfe : fr = mark d :: (ng ++ [x]) := by
      rw [hfr, hbb, hbin, ← hnb, List.take_succ_cons, List.take_append_of_le_length (by omega), List.take_of_length_le (by omega)]
    have hfd : ∀ j, j < 4 → fr.getD j 0 = bb.getD j 0 := fun j hj => by rw [hfr]; simp [List.getD, List.getElem?_take, hj]
    have hm0 : bb.getD 0 0 = mark d := by rw [hbb, hbin]; rfl
    have HST := Lib.hid hst
    have HB2 := Lib.hid (HB1.out.trans (hb2.mono hs1))
    have HS2 := Lib.hid hs2
    have HV := Lib.hid hv
    have HGH := Lib.hid hgh
    have HPR := Lib.hid hpr
    have HBB := Lib.hid hbb
    have HFE := Lib.hid hfe
    have HFD := Lib.hid hfd
    have HM0 := Lib.hid hm0
    have HFL := Lib.hid hfl
    have HGL := Lib.hid hgl
    have hx0 := x.toNat_lt
    clear hb2 hs2 hin hst hv hnb hgh hpr hbin hlit hnp hcnt hN hNN hN2 hbb hfe hfd hm0 hfr hfl hgl
    rw [hw2] at BI
    go_wp2_with fail
    refine BI.out.mono ?_
    rw [← hw2]
    rintro e w3 ⟨A3, c3, rfl, hown3, hb3⟩
    have hc3 := own_cap hown3
    have hby3 := bytes_of_own hown3
    obtain ⟨g3, rfl, hg3⟩ := own_addr hown3 (by rw [hbl]; decide)
    have PB := Lib.hid (parseBinary_any _ w3.heap.size c3 _ w3 hby3 (Nat.le_refl _) hc3 (by rw [hbl]; decide))
    have HBL := Lib.hid hbl
    rw [hbl] at hc3 PB ⊢
    have HBY3 := Lib.hid hby3
    have HB3 := Lib.hid hb3
    clear hown3 hby3 hb3 hw2 BI hg3 hbl
    go_wp2_with fail
    refine PB.out.mono ?_
    rintro e w4 ⟨hb4, hcase⟩
    have hq : ∃ (A : Option Addr) (c : Nat), e = .returned (.tuple #[.slice A [(d, [l])].length c, .int .i64 0]) ∧ Steps w4 w4.heap.size A [(d, [l])] := by
      rcases hcase with ⟨ps, A, c, rfl, h1, h2⟩ | ⟨k, rfl, h1, h2⟩
      · rw [HBB.out] at h1
        obtain ⟨h3, _⟩ := bin_self HPR.out h1
        injection h3 with h3
        subst h3
        exact ⟨A, c, rfl, h2.steps⟩
      · rw [HBB.out] at h1
        exact absurd (bin_self HPR.out h1).2 h2
    obtain ⟨A4, c4, rfl, hst4⟩ := hq
    have hst2 : Steps w4 w4.heap.size (some ⟨w1.heap.size + 1, 0, none⟩) [(d, [l])] := by
      have h3 := HST.out.below (HB3.out.mono (show w1.heap.size + 2 ≤ w2.heap.size by have := HS2.out; omega))
      have h4 := h3.below (hb4.mono (by have := HB3.out.size; have := HS2.out; omega))
      exact h4.more (by have := HB3.out.size; have := hb4.size; have := HS2.out; omega)
    have S1 := Lib.hid (same6_any [(d, [l])] [(d, [l])] w4.heap.size 1 c4 (some ⟨w1.heap.size + 1, 0, none⟩) A4 w4 hst2 hst4 (by simp) (by simp) (fun j => by rcases j with _ | j <;> simp [List.getD]) (fun j => by rcases j with _ | j <;> simp [List.getD]))
    rw [decide_eq_true (rfl : [(d, [l])] = [(d, [l])])] at S1
    have HB4 := Lib.hid hb4
    clear hst2 hst4 hcase PB hb4
    go_wp2_with fail
    refine S1.out.mono ?_
    rintro e w5 ⟨rfl, n1, hw5⟩
    have hb5 : Below w3.heap.size w3 w5 := by rw [hw5]; exact below_drewN HB4.out n1
    have hby5 := Cells.below HBY3.out hb5
    have hcell := bytes_cell hby5 (k := 0) (by rw [HBL.out]; decide)
    rw [HM0.out] at hcell
    obtain ⟨M, hM⟩ : ∃ M : Int, M = ((mark d).toNat : Int) := ⟨_, rfl⟩
    have hMd : (M == 100) = d := by rw [hM]; cases d <;> rfl
    rw [← hM] at hcell
    have SF := run_slice_front (P := Tryd.prog) 28 5 i0 Tryd.underlying28 hi hz1 g3 5 c3 fr.length 4 (by rw [HFL.out]; rfl) (by rw [HFL.out]; omega)
    have hfry : Bytes w5 w5.heap.size (some ⟨g3, 0, none⟩) fr := by
      unfold Bytes
      rw [HFL.out]
      intro _
      have hg5 : g3 < w5.heap.size := by
        have := World.block_lt_of_cell? w5 _ hcell
        simpa using this
      refine ⟨g3, 0, rfl, hg5, fun j hj => ?_⟩
      show w5.cell? _ = some (.int .u8 ((fr.getD j 0).toNat : Int))
      rw [HFD.out j hj, Nat.zero_add]
      exact bytes_cell hby5 (by rw [HBL.out]; omega)
    have HFRY := Lib.hid hfry
    have HB5 := Lib.hid (HB2.out.trans ((HB3.out.trans (hb5.mono HB3.out.size)).mono HB2.out.size))
    have hs5 := HB5.out.size
    have HFM := Lib.hid (show fr.length ≤ 4 by rw [HFL.out]; decide)
    clear hb5 hby5 hw5 hM hfry S1
    go_wp2_with (at_builtin; refine wpList_append_cells _ rfl _ _ 28 rfl w5.heap.size 5 i0 (.int .u8 0) 1 Tryd.underlying28 hi hz0 hz1 hz2 rfl (.slice none 0 0) 0 [] rfl (World.ownsRow_nil _ _ _ _) w5.heap.size (some ⟨g3, 0, none⟩) fr.length c3 _ rfl HFRY.out (fun j _ => rfl) ?q1 ?q2 (Nat.le_refl _) ?_)
    case q1 => have := HFM.out; unfold maxLen; omega
    case q2 => have := HFM.out; omega
    intro v' w6 hown6 hg6 hob6
    rw [cells_bytes] at hown6
    have HOW6 := Lib.hid hown6
    have HB6 := Lib.hid (HB5.out.grown hg6 hs5 (fun g hg => by cases hg))
    have hs6 := hg6.size
    clear hown6 hg6 hob6 SF hcell hMd
    have hz6 : ∀ j, j < 2 → (w6.alloc (.cells #[.int .u8 0, .int .u8 0] 5)).cell? ⟨w6.heap.size, 0 + j, none⟩ = some (.int .u8 0) := fun j hj => by
      rw [Nat.zero_add, (Blk.new w6 5 #[.int .u8 0, .int .u8 0]).cell]
      match j, hj with
      | 0, _ => rfl
      | 1, _ => rfl
    have HZ6 := Lib.hid (show Cells (w6.alloc (.cells #[.int .u8 0, .int .u8 0] 5)) (w6.heap.size + 1) (some ⟨w6.heap.size, 0, none⟩) 2 (fun _ => .int .u8 0) from fun _ => ⟨w6.heap.size, 0, rfl, by omega, hz6⟩)
    clear hz6
    go_wp2_with (at_builtin; refine wpList_append_cells _ rfl _ _ 28 rfl w5.heap.size 5 i0 (.int .u8 0) 1 Tryd.underlying28 hi hz0 hz1 hz2 rfl _ _ _ rfl (HOW6.out.alloc _) (w6.heap.size + 1) (some ⟨w6.heap.size, 0, none⟩) 2 2 (fun _ => .int .u8 0) rfl HZ6.out (fun j _ => rfl) ?q1 ?q2 ?q3 ?_)
    case q1 => have := HFM.out; unfold maxLen; omega
    case q2 => have := HFM.out; omega
    case q3 => simp; omega
    intro v'' w7 hown7 hg7 hob7
    obtain ⟨lg, hlg⟩ : ∃ lg, lg = fr ++ [0, 0] := ⟨_, rfl⟩
    have hll : lg.length = fr.length + 2 := by rw [hlg]; simp
    have hown8 : w7.ownsRow w5.heap.size 5 1 v'' lg.length (Lib.byteCells lg) := by
      rw [hll, hlg, byteCells_append]
      exact hown7
    obtain ⟨A8, c8, hv8, hc8, _⟩ := own_slice hown8
    rw [← hll] at hown7
    subst hv8
    obtain ⟨g8, rfl, hg8, hg8'⟩ := own_addr hown8 (by omega)
    have hlen : lg.length = 6 := by rw [hll, HFL.out]
    have hI : ((3 : Int)) < (lg.length : Int) := by omega
    have hby8 := bytes_of_own hown8
    have hcx := bytes_cell hby8 (k := 3) (by omega)
    have hgx : lg.getD 3 0 = x := by
      rw [hlg, HFE.out]
      have h9 := HGL.out
      match ng, h9 with
      | [_, _], _ => rfl
    rw [hgx] at hcx
    have hor := u8_or128_right (x.toNat : Int) (by omega) (by omega)
    have hfz := own_frozen (k := 3) hown8 (by omega)
    have hset := bytes_set (y := UInt8.ofNat (x.toNat + 128)) (u := (x.toNat : Int) + 128) hown8 (k := 3) (by omega) (by rw [u8_low (by omega)]; push_cast; rfl)
    have hfe2 : lg.set 3 (UInt8.ofNat (x.toNat + 128)) = mark d :: ((ng ++ [UInt8.ofNat (x.toNat + 128)]) ++ 0 :: [0]) := by
      rw [hlg, HFE.out]
      have h9 := HGL.out
      match ng, h9 with
      | [_, _], _ => rfl
    have HNO := Lib.hid (long_form (d := d) (g := ng ++ [UInt8.ofNat (x.toNat + 128)]) (q := [0]) (fun y hy => by
      rcases List.mem_append.1 hy with h | h
      · exact HGH.out y h
      · rw [List.mem_singleton.1 h, u8_low (by omega)]; omega) (by simp))
    have hsl : (lg.set 3 (UInt8.ofNat (x.toNat + 128))).length = lg.length := List.length_set
    have P2 := parseBinary_any (lg.set 3 (UInt8.ofNat (x.toNat + 128))) (w7.setCell ⟨g8, 3, none⟩ (.int .u8 ((x.toNat : Int) + 128))).heap.size c8 (some ⟨g8, 0, none⟩) (w7.setCell ⟨g8, 3, none⟩ (.int .u8 ((x.toNat : Int) + 128))) (by simpa using hset) (Nat.le_refl _) (by rw [hsl]; exact hc8) (by rw [hsl]; omega)
    rw [hsl, hfe2] at P2
    have P3 := Lib.hid P2
    have HB8 := Lib.hid (((HB6.out.alloc (by omega) _).grown hg7 (by simp; omega) (fun g hg => by have := (HOW6.out.lt g hg).1; omega)).setCell (p := ⟨g8, 3, none⟩) (by simp; omega) (.int .u8 ((x.toNat : Int) + 128)))
    generalize (x.toNat : Int) = X at hcx hor P3 HB8
    clear hown7 hown8 hg7 hob7 hby8 hset hfe2 hsl P2 hlg hll hc8 hg8 hg8' hgx hlen
    go_wp2_with (go_at_call 16; refine P3.out.mono ?_)
    rintro e w9 ⟨hb9, hcase⟩
    have HB9 := Lib.hid (HB8.out.trans (hb9.mono HB8.out.size))
    have hq : ∃ (A : Option Addr) (n c : Nat), e = .returned (.tuple #[.slice A n c, .int .i64 9]) := by
      rcases hcase with ⟨ps, A, c, rfl, h1, h2⟩ | ⟨k, rfl, h1, h2⟩
      · have := (form_of HNO.out h1).1
        cases this
      · rw [(form_of HNO.out h1).2]
        exact ⟨none, 0, 0, rfl⟩
    obtain ⟨A9, n9, c9, rfl⟩ := hq
    clear hcase hb9
    go_wp2
    go_ret
    exact ⟨rfl, HB9.out⟩
end Go.Proofs.YtdehlikmefpgnaaDoor
