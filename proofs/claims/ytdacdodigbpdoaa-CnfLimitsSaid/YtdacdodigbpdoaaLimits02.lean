/- The statement that as many clauses and literals as may be are let by, and not one more: walked. -/
import Derived.Test.YtdacdodigbpdoaaFit02
namespace Go.Proofs.Ytdacdodigbpdoaa
open Go.RowKit

theorem litCount_replicate (n : Nat) (c : List Int) : litCount (List.replicate n c) = n * c.length := by
  unfold litCount; rw [List.map_replicate, List.sum_replicate_nat]
theorem formRight_empties (n : Nat) : formRight 1 (List.replicate n []) = decide (n ≤ 200000) := by
  unfold formRight
  rw [litCount_replicate]
  have : (List.replicate n ([] : List Int)).all (clauseRight 1) = true := by rw [List.all_eq_true]; intro c hc; rw [List.eq_of_mem_replicate hc]; rfl
  rw [this]
  simp
theorem clauseRight_ones (n : Nat) : clauseRight 1 (List.replicate n 1) = true := by
  unfold clauseRight; rw [List.all_eq_true]; intro l hl; rw [List.eq_of_mem_replicate hl]; decide
theorem formRight_full {N : Nat} (hN : N = 100000) : formRight 1 (List.replicate 10 (List.replicate N 1)) = true := by
  unfold formRight
  rw [litCount_replicate, List.length_replicate, List.length_replicate]
  have : (List.replicate 10 (List.replicate N (1 : Int))).all (clauseRight 1) = true := by rw [List.all_eq_true]; intro c hc; rw [List.eq_of_mem_replicate hc]; exact clauseRight_ones N
  rw [this, hN]
  decide
theorem formRight_over {N : Nat} (hN : N = 100000) : formRight 1 (List.replicate 10 (List.replicate N 1) ++ [[-1]]) = false := by
  have : litCount (List.replicate 10 (List.replicate N 1) ++ [[-1]]) = 10 * N + 1 := by
    have e : litCount (List.replicate 10 (List.replicate N (1 : Int)) ++ [[-1]]) = litCount (List.replicate 10 (List.replicate N (1 : Int))) + 1 := by unfold litCount; rw [List.map_append, List.sum_append]; rfl
    rw [e, litCount_replicate, List.length_replicate]
  unfold formRight
  rw [decide_eq_false (show ¬ litCount (List.replicate 10 (List.replicate N (1 : Int)) ++ [[-1]]) ≤ 1000000 by rw [this, hN]; omega)]
  simp

theorem repl_lt {α : Type} {n i : Nat} (c d : α) (h : i < n) : (List.replicate n c).getD i d = c := by simp [List.getD, h]
theorem repl_ge {α : Type} {n i : Nat} (c d : α) (h : ¬ i < n) : (List.replicate n c).getD i d = d := by simp [List.getD, h]
theorem repl_len (n N j : Nat) (hN : N ≤ 1099511627776) : ((List.replicate n (List.replicate N (1 : Int))).getD j []).length ≤ 1099511627776 := by
  by_cases h : j < n
  · rw [repl_lt _ _ h]; simpa using hN
  · rw [repl_ge _ _ h]; simp
theorem repl_elem (n N j k : Nat) : -9223372036854775808 ≤ ((List.replicate n (List.replicate N (1 : Int))).getD j []).getD k 0 ∧ ((List.replicate n (List.replicate N (1 : Int))).getD j []).getD k 0 ≤ 9223372036854775807 := by
  by_cases h : j < n
  · rw [repl_lt _ _ h]
    by_cases h' : k < N
    · rw [repl_lt _ _ h']; omega
    · rw [repl_ge _ _ h']; omega
  · rw [repl_ge _ _ h]; simp
theorem over_bd (N j k : Nat) (hN : N ≤ 1099511627776) : ((List.replicate 10 (List.replicate N (1 : Int)) ++ [[-1]]).getD j []).length ≤ 1099511627776 ∧
    -9223372036854775808 ≤ ((List.replicate 10 (List.replicate N (1 : Int)) ++ [[-1]]).getD j []).getD k 0 ∧ ((List.replicate 10 (List.replicate N (1 : Int)) ++ [[-1]]).getD j []).getD k 0 ≤ 9223372036854775807 := by
  rcases Nat.lt_or_ge j 10 with h | h
  · have e : (List.replicate 10 (List.replicate N (1 : Int)) ++ [[-1]]).getD j [] = (List.replicate 10 (List.replicate N (1 : Int))).getD j [] := by
      show ((List.replicate 10 (List.replicate N (1 : Int)) ++ [[-1]])[j]?).getD [] = _
      rw [List.getElem?_append_left (by simpa using h)]; rfl
    rw [e]
    exact ⟨repl_len 10 N j hN, repl_elem 10 N j k⟩
  · have e : (List.replicate 10 (List.replicate N (1 : Int)) ++ [[-1]]).getD j [] = ([[-1]] : List (List Int)).getD (j - 10) [] := by
      show ((List.replicate 10 (List.replicate N (1 : Int)) ++ [[-1]])[j]?).getD [] = _
      rw [List.getElem?_append_right (by simpa using h), List.length_replicate]; rfl
    rw [e]
    rcases hj : j - 10 with _ | q
    · rcases k with _ | k <;> simp
    · simp
/-- a row of ints: the first j are ones, the others noughts -/
def OnesTo (w : World) (g : Nat) (t : TypeId) (N j : Nat) : Prop := ∃ cs : Array Value, Blk w g t cs ∧ cs.size = N ∧ ∀ i, i < N → cs[i]? = some (.int .i64 (if i < j then 1 else 0))
theorem OnesTo.cell {w : World} {g : Nat} {t : TypeId} {N j i : Nat} (h : OnesTo w g t N j) (hi : i < N) : ∃ x, w.cell? ⟨g, i, none⟩ = some (.int .i64 x) := by
  obtain ⟨cs, hb, _, hc⟩ := h
  exact ⟨_, (hb.cell i).trans (hc i hi)⟩
theorem OnesTo.frozen {w : World} {g : Nat} {t : TypeId} {N j : Nat} (h : OnesTo w g t N j) (i : Nat) : w.frozen? ⟨g, i, none⟩ = false := by
  obtain ⟨cs, hb, _, hc⟩ := h
  exact hb.frozen i
theorem OnesTo.next {w : World} {g : Nat} {t : TypeId} {N j : Nat} (h : OnesTo w g t N j) (hj : j < N) : OnesTo (w.setCell ⟨g, j, none⟩ (.int .i64 1)) g t N (j + 1) := by
  obtain ⟨cs, hb, hs, hc⟩ := h
  refine ⟨_, hb.set_ j _, by simp [hs], fun i hi => ?_⟩
  by_cases hij : i = j
  · subst hij
    rw [Array.getElem?_setIfInBounds_self_of_lt (by omega)]
    simp
  · rw [Array.getElem?_setIfInBounds_ne (by omega), hc i hi]
    have e : (if i < j then (1 : Int) else 0) = if i < j + 1 then 1 else 0 := by split <;> split <;> omega
    rw [e]
theorem OnesTo.ints {w : World} {g : Nat} {t : TypeId} {N : Nat} (h : OnesTo w g t N N) : Ints w w.heap.size (some ⟨g, 0, none⟩) (List.replicate N 1) := by
  obtain ⟨cs, hb, hs, hc⟩ := h
  refine fun _ => ⟨g, 0, rfl, hb.lt, fun i hi => ?_⟩
  simp at hi
  rw [Nat.zero_add, hb.cell, hc i hi, if_pos hi]
  simp [List.getD, hi]
theorem OnesTo.start {w : World} {g : Nat} {t : TypeId} {N : Nat} (h : Blk w g t (madeCells #[.int .i64 0] N)) : OnesTo w g t N 0 := by
  have e := toList_madeCells_one (.int .i64 0) N
  have hs : (madeCells #[Value.int .i64 0] N).size = N := by rw [← Array.length_toList, e]; simp
  refine ⟨_, h, hs, fun i hi => ?_⟩
  rw [← Array.getElem?_toList, e]
  simp [hi]
theorem rows_empties {w : World} {g n : Nat} {t : TypeId} (h : Blk w g t (madeCells #[.slice none 0 0] n)) : Rows w w.heap.size (some ⟨g, 0, none⟩) (List.replicate n []) := by
  have e := toList_madeCells_one (.slice none 0 0) n
  refine fun hn => ⟨g, 0, rfl, h.lt, fun i hi => ⟨none, 0, ?_, ?_⟩⟩
  · simp at hi
    rw [Nat.zero_add, h.cell, ← Array.getElem?_toList, e]
    simp [hi, List.getD]
  · simp at hi
    simp [List.getD, hi]
    exact Cells.nil_

theorem Try.infoInts2 : (Try.prog.info? 33).map (fun i => (i.zero, i.size, i.bytes)) = some (some (.slice none 0 0), 1, 24) := by kernel_rfl

set_option maxHeartbeats 1600000 in
theorem limits_any (m : Int) (w : World) (h0 : 0 ≤ m) (h1 : m ≤ 255) :
    Calls Try.prog 6 #[.int .u8 m] w fun e w' => e = .returned (.bool true) ∧ Below w.heap.size w w' := by
  obtain ⟨N, hN⟩ : ∃ N : Nat, N = 100000 := ⟨_, rfl⟩
  have hNb : N ≤ 1000000 := by omega
  obtain ⟨k, hk⟩ : ∃ k : Int, k = m % 4 - 2 := ⟨_, rfl⟩
  have hk1 : -2 ≤ k := by omega
  have hk2 : k ≤ 1 := by omega
  obtain ⟨n0, hn0⟩ : ∃ n0 : Nat, (n0 : Int) = 200000 + k := ⟨(200000 + k).toNat, by omega⟩
  have hn0b : n0 ≤ 200001 := by omega
  have hmkf := run_make_row' (P := Try.prog) 28 33 (.slice none 0 0) 24 Try.underlying28 Try.infoInts2 rfl .i64 .i64 n0 (by omega) (by omega)
  rw [hn0] at hmkf
  have hmkc := run_make_row' (P := Try.prog) 33 3 (.int .i64 0) 8 Try.underlying33 Try.infoInt rfl .i64 .i64 N (by omega) (by omega)
  have hNi : (N : Int) = 100000 := by omega
  rw [hNi] at hmkc
  have HN := Lib.hid hN
  have HK := Lib.hid hk
  have HN0 := Lib.hid hn0
  have HNI := Lib.hid hNi
  have HMF := Lib.hid hmkf
  have HMC := Lib.hid hmkc
  clear hN hk hn0 hNi hmkf hmkc
  go_enter Try.func6, Try.ntmps6
  go_wp2_with fail
  refine (fit02_any w).mono ?_
  rintro e w1 ⟨rfl, hb1⟩
  have HB1 := Lib.hid hb1
  clear hb1
  have hke := HK.out.symm
  have hmkf := HMF.out
  have hmkc := HMC.out
  go_wp2
  obtain ⟨w2, hw2⟩ : ∃ w2, w2 = ((w1.alloc (Obj.cells (madeCells #[Value.slice none 0 0] n0) 33)).alloc (Obj.cells #[Value.int IntKind.i64 1, Value.slice (some ⟨w1.heap.size, 0, none⟩) n0 n0] 30)).alloc (Obj.cells (madeCells #[Value.int IntKind.i64 0] N) 3) := ⟨_, rfl⟩
  have HBf := Lib.hid (show Blk w2 w1.heap.size 33 (madeCells #[Value.slice none 0 0] n0) by rw [hw2]; exact ((Blk.new w1 _ _).alloc _).alloc _)
  have HBv := Lib.hid (show Blk w2 (w1.heap.size + 1) 30 #[Value.int IntKind.i64 1, Value.slice (some ⟨w1.heap.size, 0, none⟩) n0 n0] by
    rw [hw2]; refine Blk.alloc ?_ _; have := Blk.new (w1.alloc (Obj.cells (madeCells #[Value.slice none 0 0] n0) 33)) 30 #[Value.int IntKind.i64 1, Value.slice (some ⟨w1.heap.size, 0, none⟩) n0 n0]; simp only [World.size_alloc] at this; exact this)
  have HOc := Lib.hid (show OnesTo w2 (w1.heap.size + 1 + 1) 3 N 0 by
    rw [hw2]; refine OnesTo.start ?_; have := Blk.new ((w1.alloc (Obj.cells (madeCells #[Value.slice none 0 0] n0) 33)).alloc (Obj.cells #[Value.int IntKind.i64 1, Value.slice (some ⟨w1.heap.size, 0, none⟩) n0 n0] 30)) 3 (madeCells #[Value.int IntKind.i64 0] N); simp only [World.size_alloc] at this; exact this)
  have HB2 := Lib.hid (show Below w1.heap.size w1 w2 by rw [hw2]; exact (((Below.refl _ _).alloc (Nat.le_refl _) _).alloc (by simp) _).alloc (by simp; omega) _)
  have hs2 : w2.heap.size = w1.heap.size + 3 := by rw [hw2]; simp
  rw [← hw2]
  clear hw2 hmkf hmkc hke
  go_loopg [21] (N + 1) (fun gk i wr => ∃ j : Nat, j ≤ N ∧ gk = N - j + 1 ∧ i = .int .i64 j ∧ OnesTo wr (w1.heap.size + 1 + 1) 3 N j ∧ w2.grownBy wr (some (w1.heap.size + 1 + 1)))
  case atStart => exact ⟨0, by omega, by omega, rfl, HOc.out, World.grownBy.refl _ _⟩
  case round =>
    obtain ⟨j, hj, rfl, rfl, ho, hg⟩ := hrel
    have HO := Lib.hid ho
    have HG := Lib.hid hg
    clear ho hg HOc
    by_cases hjl : j < N
    · obtain ⟨x, hc⟩ := HO.out.cell hjl
      have hf := HO.out.frozen j
      go_wp2
      go_roundg (N - j)
      case measure => omega
      case rel => exact ⟨j + 1, by omega, by omega, by go_num, HO.out.next hjl, grown_trans HG.out (grown_setCell _ ⟨w1.heap.size + 1 + 1, j, none⟩ _)⟩
    · have hjN : j = N := by omega
      have HO' := Lib.hid (show OnesTo wr (w1.heap.size + 1 + 1) 3 N N by have := HO.out; rwa [hjN] at this)
      have HI3 := Lib.hid HO'.out.ints
      have HBf3 := Lib.hid (HBf.out.grown HG.out (fun e => by injection e; omega))
      have HBv3 := Lib.hid (HBv.out.grown HG.out (fun e => by injection e; omega))
      have HB3 := Lib.hid (HB2.out.trans (below_of_grown (B := w1.heap.size) HG.out (by omega) (by omega)))
      have hs3 := HG.out.size
      obtain ⟨w3, rfl⟩ : ∃ w3 : World, w3 = wr := ⟨_, rfl⟩
      clear HO HO' HBf HBv HB2 HG hjN
      go_wp2
      obtain ⟨w4, hw4⟩ : ∃ w4, w4 = w3.alloc (Obj.cells #[Value.int IntKind.i64 1, Value.slice none 0 0] 30) := ⟨_, rfl⟩
      have HG4 := Lib.hid (show Blk w4 w3.heap.size 30 #[Value.int IntKind.i64 1, Value.slice none 0 0] by rw [hw4]; exact Blk.new w3 _ _)
      have HB4 := Lib.hid (show Below w3.heap.size w3 w4 by rw [hw4]; exact (Below.refl _ _).alloc (Nat.le_refl _) _)
      have hs4 : w4.heap.size = w3.heap.size + 1 := by rw [hw4]; simp
      rw [← hw4]
      clear hw4
      obtain ⟨cv, hcv⟩ : ∃ cv, cv = Value.slice (some ⟨w1.heap.size + 1 + 1, 0, none⟩) N N := ⟨_, rfl⟩
      have HCV := Lib.hid hcv
      clear hcv
      obtain ⟨i0, hi, hz0, hz1, hz2⟩ := info_parts Try.infoInts2
      go_loopg [29] 11 (fun gk i wr => ∃ (j : Nat) (Ag : Option Addr) (cg : Nat), j ≤ 10 ∧ gk = 10 - j + 1 ∧ i = .int .i64 j ∧ Blk wr w3.heap.size 30 #[Value.int IntKind.i64 1, Value.slice Ag j cg] ∧
        wr.ownsRow (w3.heap.size + 1) 33 1 (.slice Ag j cg) j (List.replicate j cv) ∧ Below w3.heap.size w3 wr)
      case atStart => exact ⟨0, none, 0, by omega, by omega, rfl, HG4.out, World.ownsRow_nil _ _ _ _, HB4.out⟩
      case round =>
        obtain ⟨j, Ag, cg, hj, rfl, rfl, hg, ho, hb⟩ := hrel
        have HGr := Lib.hid hg
        have HOr := Lib.hid ho
        have HBr := Lib.hid hb
        have hsr := hb.size
        have hgl := hg.lt
        have g0 := hg.cell 0
        have g1 := hg.cell 1
        have gf := hg.frozen
        simp at g0 g1
        clear hg ho hb HG4 HB4
        by_cases hjl : j < 10
        · clear gf
          go_wp2_with (at_builtin; refine wpList_append1 _ rfl _ _ 28 rfl (w3.heap.size + 1) 33 i0 (.slice none 0 0) 24 Try.underlying28 hi hz0 hz1 hz2 rfl _ _ _ rfl (HOr.out.alloc _) (Value.slice (some ⟨w1.heap.size + 1 + 1, 0, none⟩) N N) wr.heap.size rfl (by go_cell) rfl (by unfold maxLen; omega) (by omega) (by simp; omega) ?_)
          intro v' w5 hown5 hg5 _
          obtain ⟨A5, c5, hv5, _⟩ := own_slice hown5
          subst hv5
          have hbk5 := (HGr.out.alloc (.cells #[Value.slice (some ⟨w1.heap.size + 1 + 1, 0, none⟩) N N] 33)).grown hg5 (own_blk_ne (w := wr.alloc (.cells #[Value.slice (some ⟨w1.heap.size + 1 + 1, 0, none⟩) N N] 33)) (HOr.out.alloc _) (HGr.out.alloc _) (by decide))
          have HB5 := Lib.hid ((HBr.out.alloc hsr (.cells #[Value.slice (some ⟨w1.heap.size + 1 + 1, 0, none⟩) N N] 33)).grown hg5 (by simp; omega) (fun g hg => by have := (HOr.out.lt g hg).1; omega))
          have q0 := hbk5.cell 0
          have q1 := hbk5.cell 1
          have qf := hbk5.frozen
          simp at q0 q1
          have HBK5 := Lib.hid hbk5
          have HO5 := Lib.hid hown5
          clear hbk5 hown5 hg5 g0 g1
          go_wp2
          go_roundg (10 - j)
          case measure => omega
          case rel =>
            refine ⟨j + 1, A5, c5, by omega, by omega, by go_num, ?_, ?_, HB5.out.setCell (by simp) _⟩
            · have := HBK5.out.set_ 1 (.slice A5 (j + 1) c5); simpa using this
            · have e : List.replicate (j + 1) cv = List.replicate j cv ++ [Value.slice (some ⟨w1.heap.size + 1 + 1, 0, none⟩) N N] := by rw [List.replicate_succ', HCV.out]
              rw [e]
              exact own_setCell HO5.out _ (own_blk_ne HO5.out HBK5.out (by decide))
        · obtain rfl : j = 10 := by omega
          have hIr := Cells.below HI3.out HBr.out
          have HIr := Lib.hid hIr
          have HBfr := Lib.hid (HBf3.out.below HBr.out HBf3.out.lt)
          have HBvr := Lib.hid (HBv3.out.below HBr.out HBv3.out.lt)
          have HBw := Lib.hid (HB1.out.trans ((HB3.out.trans (HBr.out.mono (by omega))).mono HB1.out.size))
          have v0 := HBvr.out.cell 0
          have v1 := HBvr.out.cell 1
          simp at v0 v1
          clear hIr hj hjl
          by_cases hkp : 0 < k
          · clear v0 v1
            have h1r := HIr.out
            go_wp2_with (at_builtin; refine wpList_append1 _ rfl _ _ 28 rfl (w3.heap.size + 1) 33 i0 (.slice none 0 0) 24 Try.underlying28 hi hz0 hz1 hz2 rfl _ _ _ rfl ((HOr.out.alloc _).alloc _) (Value.slice (some ⟨wr.heap.size, 0, none⟩) 1 1) (wr.heap.size + 1) rfl (by go_cell) rfl (by unfold maxLen; omega) (by omega) (by simp; omega) ?_)
            intro v' w5 hown5 hg5 _
            obtain ⟨A5, c5, hv5, _⟩ := own_slice hown5
            subst hv5
            have ho5 : w5.ownsRow (w3.heap.size + 1) 33 1 (.slice A5 11 c5) 11 (List.replicate 10 cv ++ [Value.slice (some ⟨wr.heap.size, 0, none⟩) 1 1]) := hown5
            have hbm := ((Blk.new wr 3 #[Value.int IntKind.i64 (-1)]).alloc (Obj.cells #[Value.slice (some ⟨wr.heap.size, 0, none⟩) 1 1] 33)).grown hg5 (own_blk_ne (w := (wr.alloc (Obj.cells #[Value.int IntKind.i64 (-1)] 3)).alloc (Obj.cells #[Value.slice (some ⟨wr.heap.size, 0, none⟩) 1 1] 33)) ((HOr.out.alloc _).alloc _) ((Blk.new wr 3 #[Value.int IntKind.i64 (-1)]).alloc _) (by decide))
            have hbk5 := ((HGr.out.alloc (Obj.cells #[Value.int IntKind.i64 (-1)] 3)).alloc (Obj.cells #[Value.slice (some ⟨wr.heap.size, 0, none⟩) 1 1] 33)).grown hg5 (own_blk_ne (w := (wr.alloc (Obj.cells #[Value.int IntKind.i64 (-1)] 3)).alloc (Obj.cells #[Value.slice (some ⟨wr.heap.size, 0, none⟩) 1 1] 33)) ((HOr.out.alloc _).alloc _) ((HGr.out.alloc _).alloc _) (by decide))
            have HB5 := Lib.hid (((HBr.out.alloc hsr (Obj.cells #[Value.int IntKind.i64 (-1)] 3)).alloc (by simp; omega) (Obj.cells #[Value.slice (some ⟨wr.heap.size, 0, none⟩) 1 1] 33)).grown hg5 (by simp; omega) (fun g hg => by have := (HOr.out.lt g hg).1; omega))
            have q0 := hbk5.cell 0
            have q1 := hbk5.cell 1
            have qf := hbk5.frozen
            simp at q0 q1
            have HBK5 := Lib.hid hbk5
            have HBM5 := Lib.hid hbm
            have HO5 := Lib.hid ho5
            have hs5 := HB5.out.size
            have hml := hbm.lt
            clear hbk5 hbm ho5 hown5 hg5 g0 g1 gf h1r
            have HGr6 := Lib.hid (show Blk (w5.setCell ⟨w3.heap.size, 1, none⟩ (.slice A5 11 c5)) w3.heap.size 30 #[Value.int IntKind.i64 1, .slice A5 11 c5] by have := HBK5.out.set_ 1 (.slice A5 11 c5); simpa using this)
            have HO6 := Lib.hid (own_setCell HO5.out (p := ⟨w3.heap.size, 1, none⟩) (.slice A5 11 c5) (own_blk_ne HO5.out HBK5.out (by decide)))
            have HBM6 := Lib.hid (HBM5.out.far (p := ⟨w3.heap.size, 1, none⟩) (show wr.heap.size ≠ w3.heap.size by omega) (.slice A5 11 c5))
            have HB6 := Lib.hid (HB5.out.setCell (p := ⟨w3.heap.size, 1, none⟩) (Nat.le_refl _) (.slice A5 11 c5))
            obtain ⟨w6, hw6⟩ : ∃ w6, w6 = w5.setCell ⟨w3.heap.size, 1, none⟩ (.slice A5 11 c5) := ⟨_, rfl⟩
            have hs6 : w6.heap.size = w5.heap.size := by rw [hw6]; simp [World.setCell]
            rw [← hw6] at HGr6 HO6 HBM6 HB6
            have HBf6 := Lib.hid (HBf3.out.below HB6.out HBf3.out.lt)
            have HBv6 := Lib.hid (HBv3.out.below HB6.out HBv3.out.lt)
            have HI6 := Lib.hid (Cells.below HI3.out HB6.out)
            have HBw6 := Lib.hid (HB1.out.trans ((HB3.out.trans (HB6.out.mono (by omega))).mono HB1.out.size))
            have HRF := Lib.hid (rows_empties HBf6.out)
            have hrg : Rows w6 w6.heap.size A5 (List.replicate 10 (List.replicate N 1) ++ [[-1]]) := by
              have hc := cells_of_own HO6.out undef
              intro _
              obtain ⟨b, off, e, hb, hcell⟩ := hc (by omega)
              refine ⟨b, off, e, hb, fun i hi => ?_⟩
              simp at hi
              rcases Nat.lt_or_ge i 10 with hi' | hi'
              · have e1 : (List.replicate 10 (List.replicate N (1 : Int)) ++ [[-1]]).getD i [] = List.replicate N 1 := by rw [List.getD, List.getElem?_append_left (by simpa using hi')]; exact repl_lt _ _ hi'
                rw [e1, List.length_replicate]
                refine ⟨_, N, ?_, Cells.more HI6.out (by omega)⟩
                rw [hcell i (by omega), ← HCV.out]
                refine congrArg some ?_
                show (List.replicate 10 cv ++ [Value.slice (some ⟨wr.heap.size, 0, none⟩) 1 1]).getD i undef = cv
                rw [List.getD, List.getElem?_append_left (by simpa using hi')]; exact repl_lt _ _ hi'
              · obtain rfl : i = 10 := by omega
                exact ⟨some ⟨wr.heap.size, 0, none⟩, 1, by rw [hcell 10 (by omega)]; rfl, ints_blk (xs := [-1]) HBM6.out (by omega)⟩
            have HRG := Lib.hid hrg
            clear hrg
            have hff : formRight 1 (List.replicate n0 []) = false := by rw [formRight_empties]; simp; have := HN0.out; omega
            have hcf := formright_any 1 (List.replicate n0 []) w6.heap.size (some ⟨w1.heap.size, 0, none⟩) n0 w6 (by omega) (by omega) (by simp; omega) (fun j => by rw [List.getD_eq_getElem?_getD]; by_cases h : j < n0 <;> simp [h]) (fun j k => by rw [List.getD_eq_getElem?_getD]; by_cases h : j < n0 <;> simp [h]) HRF.out (Nat.le_refl _)
            rw [hff, List.length_replicate] at hcf
            have HCF := Lib.hid hcf
            clear hcf hff
            have v0 := HBv6.out.cell 0
            have v1 := HBv6.out.cell 1
            simp at v0 v1
            rw [hw6] at v0 v1
            go_wp2_with fail
            rw [← hw6]
            refine HCF.out.mono ?_
            clear v0 v1 q0 q1 qf hw6
            rintro e w7 ⟨rfl, hb7⟩
            have HGr7 := Lib.hid (HGr6.out.below hb7 HGr6.out.lt)
            have HRG7 := Lib.hid (HRG.out.below hb7)
            have HB7 := Lib.hid (HBw6.out.trans (hb7.mono HBw6.out.size))
            have hs7 := hb7.size
            clear hb7
            have g0 := HGr7.out.cell 0
            have g1 := HGr7.out.cell 1
            simp at g0 g1
            have hcg := formright_any 1 (List.replicate 10 (List.replicate N 1) ++ [[-1]]) w6.heap.size A5 c5 w7 (by omega) (by omega) (by simp)
              (fun j => (over_bd N j 0 (by omega)).1) (fun j k => (over_bd N j k (by omega)).2) HRG7.out (by omega)
            rw [formRight_over HN.out, List.length_append, List.length_replicate] at hcg
            have HCG := Lib.hid hcg
            clear hcg
            go_wp2_with fail
            refine HCG.out.mono ?_
            clear g0 g1
            rintro e w8 ⟨rfl, hb8⟩
            have HB8 := Lib.hid (HB7.out.trans (hb8.mono HB7.out.size))
            clear hb8
            go_wp2
            go_ret
            exact ⟨ret_bool (by simp; omega), HB8.out⟩
          · clear gf
            have HRF := Lib.hid (rows_empties HBfr.out)
            have hrg : Rows wr wr.heap.size Ag (List.replicate 10 (List.replicate N 1)) := by
              have hc := cells_of_own HOr.out undef
              intro _
              obtain ⟨b, off, e, hb, hcell⟩ := hc (by omega)
              refine ⟨b, off, e, hb, fun i hi => ?_⟩
              simp at hi
              have e1 : (List.replicate 10 (List.replicate N (1 : Int))).getD i [] = List.replicate N 1 := repl_lt _ _ hi
              rw [e1, List.length_replicate]
              refine ⟨_, N, ?_, Cells.more HIr.out (by omega)⟩
              rw [hcell i hi, ← HCV.out]
              exact congrArg some (repl_lt _ _ hi)
            have HRG := Lib.hid hrg
            clear hrg
            have hff : formRight 1 (List.replicate n0 []) = true := by rw [formRight_empties]; simp; have := HN0.out; omega
            have hcf := formright_any 1 (List.replicate n0 []) wr.heap.size (some ⟨w1.heap.size, 0, none⟩) n0 wr (by omega) (by omega) (by simp; omega) (fun j => by rw [List.getD_eq_getElem?_getD]; by_cases h : j < n0 <;> simp [h]) (fun j k => by rw [List.getD_eq_getElem?_getD]; by_cases h : j < n0 <;> simp [h]) HRF.out (Nat.le_refl _)
            rw [hff, List.length_replicate] at hcf
            have HCF := Lib.hid hcf
            clear hcf hff
            go_wp2_with fail
            refine HCF.out.mono ?_
            clear v0 v1 g0 g1
            rintro e w6 ⟨rfl, hb6⟩
            have HGr6 := Lib.hid (HGr.out.below hb6 HGr.out.lt)
            have HRG6 := Lib.hid (HRG.out.below hb6)
            have HB6 := Lib.hid (HBw.out.trans (hb6.mono HBw.out.size))
            have hs6 := hb6.size
            clear hb6
            have g0 := HGr6.out.cell 0
            have g1 := HGr6.out.cell 1
            simp at g0 g1
            have hcg := formright_any 1 (List.replicate 10 (List.replicate N 1)) wr.heap.size Ag cg w6 (by omega) (by omega) (by simp) (fun j => repl_len 10 N j (by omega)) (fun j k => repl_elem 10 N j k) HRG6.out (by omega)
            rw [formRight_full HN.out, List.length_replicate] at hcg
            have HCG := Lib.hid hcg
            clear hcg
            go_wp2_with fail
            refine HCG.out.mono ?_
            clear g0 g1
            rintro e w7 ⟨rfl, hb7⟩
            have HB7 := Lib.hid (HB6.out.trans (hb7.mono HB6.out.size))
            clear hb7
            go_wp2
            go_ret
            exact ⟨rfl, HB7.out⟩
end Go.Proofs.Ytdacdodigbpdoaa
