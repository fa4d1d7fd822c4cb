/- What package table answers: a table, and the weight of a number of breaks. -/
import Derived.Test.YtjjpgiahifkinaaTab1
import Derived.Laws.CopyRow
namespace Go.Proofs.Ytjjpgiahifkinaa
open Go.RowKit
set_option linter.unusedVariables false
set_option linter.unusedSimpArgs false

theorem fold_cells : ∀ (vs : List Value) (i : Nat) (cur : Array Value), i + vs.length ≤ cur.size →
    (vs.zipIdx i).foldl (fun cs (p : Value × Nat) => cs.setIfInBounds (0 + p.2) p.1) cur = (cur.toList.take i ++ vs ++ cur.toList.drop (i + vs.length)).toArray
  | [], i, cur, _ => by simp
  | v :: rest, i, cur, h => by
    have ih := fold_cells rest (i + 1) (cur.setIfInBounds i v) (by simp at h ⊢; omega)
    have e := list_seg_step cur.toList i v rest (by simp at h ⊢; omega)
    simp only [List.zipIdx_cons, List.foldl_cons, Nat.zero_add] at ih ⊢
    rw [ih]
    simpa [Array.toList_setIfInBounds, Nat.add_assoc] using e
theorem fold_all (cs cur : Array Value) (h : cur.size = cs.size) : cs.zipIdx.foldl (fun a (p : Value × Nat) => a.setIfInBounds (0 + p.2) p.1) cur = cs := by
  have := fold_cells cs.toList 0 cur (by simp; omega)
  rw [← Array.foldl_toList, Array.toList_zipIdx, this]
  rw [List.drop_eq_nil_of_le (by simp; omega)]
  simp
theorem info42 : ((Try.prog.info? 42).bind (·.zero)).map (·.cells.size) = some 64 := by kernel_rfl
theorem built_table (cs : Array Value) (h : cs.size = 64) : Try.prog.built 42 [(0, .agg cs)] = some cs := by
  have h42 := info42
  have h39 := size64
  unfold Program.built
  rw [Try.underlying42]
  rcases hi : Try.prog.info? 42 with _ | it
  · rw [hi] at h42; simp at h42
  · rw [hi] at h42
    rcases hz : it.zero with _ | z
    · simp [hz] at h42
    · simp [hz] at h42
      rcases hj : Try.prog.info? 39 with _ | ie
      · rw [hj] at h39; simp at h39
      · rw [hj] at h39
        simp at h39
        simp only [List.mapM_cons, List.mapM_nil, hj, Option.map_some, hz]
        obtain ⟨zc, hzc⟩ : ∃ zc, z.cells = zc := ⟨_, rfl⟩
        rw [hzc] at h42
        show Instr.fill (fun x => [(0, ie.size)].toArray[x]?) z.cells [(0, Value.agg cs)] = some cs
        rw [hzc]
        simp [Instr.fill, h39, Value.cells, h, h42]
        have := fold_all cs zc (by omega)
        simpa [h] using this

/-- a table in memory -/
def Tab (w : World) (g : Nat) (e : Bool) (b : Nat) : Prop := Blk w g 42 (rowC (wtT e b) 64)
theorem Tab.cell {w : World} {g : Nat} {e : Bool} {b : Nat} (h : Tab w g e b) {k : Nat} (hk : k < 64) : w.cell? ⟨g, k, none⟩ = some (.int .i64 (wtT e b k : Int)) := by
  rw [Blk.cell h, rowC_get _ hk, if_pos hk]
theorem Tab.alloc {w : World} {g : Nat} {e : Bool} {b : Nat} (h : Tab w g e b) (o : Obj) : Tab (w.alloc o) g e b := Blk.alloc h o
theorem Tab.below {w w' : World} {g B : Nat} {e : Bool} {b : Nat} (h : Tab w g e b) (hb : Below B w w') (hg : g < B) : Tab w' g e b := Blk.below h hb hg
theorem Tab.lt {w : World} {g : Nat} {e : Bool} {b : Nat} (h : Tab w g e b) : g < w.heap.size := Blk.lt h

theorem weight_any {w : World} {g : Nat} {e : Bool} {b : Nat} (h : Tab w g e b) (k : Int) : Calls Try.prog 11 #[.pointer (some ⟨g, 0, none⟩), .int .i64 k] w fun x w' => x = .returned (.int .i64 (wt e b k : Int)) ∧ w = w' := by
  rcases Int.lt_or_le k 0 with hk | hk
  · have hc := h.cell (k := 0) (by decide)
    have e0 : wt e b k = wtT e b 0 := by unfold wt clampK; congr 1; omega
    rw [e0]
    obtain ⟨x, hx⟩ : ∃ x, wtT e b 0 = x := ⟨_, rfl⟩
    rw [hx] at hc ⊢
    clear hx h e0
    go_enter Try.func11, Try.ntmps11
    go_wp2
    go_ret
    exact ⟨rfl, rfl⟩
  · rcases Int.lt_or_le 63 k with hk2 | hk2
    · have hc := h.cell (k := 63) (by decide)
      have e0 : wt e b k = wtT e b 63 := by unfold wt clampK; congr 1; omega
      rw [e0]
      obtain ⟨x, hx⟩ : ∃ x, wtT e b 63 = x := ⟨_, rfl⟩
      rw [hx] at hc ⊢
      clear hx h e0
      go_enter Try.func11, Try.ntmps11
      go_wp2
      go_ret
      exact ⟨rfl, rfl⟩
    · obtain ⟨j, rfl⟩ : ∃ j : Nat, k = j := ⟨k.toNat, by omega⟩
      have hc := h.cell (k := j) (by omega)
      have e0 : wt e b (j : Int) = wtT e b j := by unfold wt clampK; congr 1; omega
      rw [e0]
      obtain ⟨x, hx⟩ : ∃ x, wtT e b j = x := ⟨_, rfl⟩
      rw [hx] at hc ⊢
      clear hx h e0
      go_enter Try.func11, Try.ntmps11
      go_wp2
      go_ret
      exact ⟨rfl, rfl⟩

def kindI (e : Bool) : Int := if e then 1 else 0
theorem wpList_build_one {P : Program} {ops : Array Oper} {rest : List Oper} {o : Oper} {a : Act} {w : World} {Q : Exit → Act → World → Prop} (hg : o.guard = none) (t : TypeId) (x : Operand) (ho : o.op = .build t #[(0, x)]) (v : Value) (hx : a.eval x = v) (cs : Array Value)
    (hf : P.built t [(0, v)] = some cs) (h : wpList P ops Q rest (a.put o.dst (.agg cs)) w) : wpList P ops Q (o :: rest) a w :=
  wpList_build_as hg t #[(0, x)] ho cs (by simpa [hx] using hf) h

set_option maxRecDepth 20000 in
set_option maxHeartbeats 1000000 in
theorem new_any {e : Bool} {b : Nat} (h : OkB e b) (w : World) : Calls Try.prog 10 #[.int .i64 (kindI e), .int .i64 b] w fun x w' => ∃ g, x = .returned (.pointer (some ⟨g, 0, none⟩)) ∧ w.heap.size ≤ g ∧ Tab w' g e b ∧ Below w.heap.size w w' := by
  unfold OkB at h
  cases e
  · simp at h
    have HP := Lib.hid (fun w => poly_any b h.1 h.2 w)
    have HR := Lib.hid (fun w => (by have hr : rightB 0 b = true := by simp [rightB]; omega
                                     exact hr ▸ right_any 0 b w : Calls Try.prog 13 #[.int .i64 0, .int .i64 b] w fun e w' => e = .returned (.bool true) ∧ w = w'))
    have HT := Lib.hid (built_table (rowC (wtP b) 64) (rowC_size _ _))
    have HE : rowC (wtT false b) 64 = rowC (wtP b) 64 := rfl
    have HT2 := Lib.hid (fun (w : World) (g : Nat) (h : Blk w g 42 (rowC (wtP b) 64)) => (show Tab w g false b from h))
    obtain ⟨cs, hcs⟩ : ∃ cs, rowC (wtP b) 64 = cs := ⟨_, rfl⟩
    rw [hcs] at HP HT HT2
    clear h HE hcs
    show Calls Try.prog 10 #[.int .i64 0, .int .i64 b] w _
    go_enter Try.func10, Try.ntmps10
    go_wp2_with fail
    refine (HR.out _).mono ?_
    rintro x w1 ⟨rfl, rfl⟩
    go_wp2_with fail
    refine (HP.out _).mono ?_
    rintro x w1 ⟨rfl, hb⟩
    have HB := Lib.hid hb
    clear hb
    go_wp2_with (refine wpList_build_one rfl 42 (.tmp 17) rfl (.agg cs) rfl cs HT.out ?_)
    go_ret
    exact ⟨_, rfl, HB.out.size, HT2.out _ _ (Blk.new _ _ _), HB.out.alloc HB.out.size _⟩
  · simp at h
    have HP := Lib.hid (fun w => exp_any b h.1 h.2 w)
    have HR := Lib.hid (fun w => (by have hr : rightB 1 b = true := by simp [rightB]; omega
                                     exact hr ▸ right_any 1 b w : Calls Try.prog 13 #[.int .i64 1, .int .i64 b] w fun e w' => e = .returned (.bool true) ∧ w = w'))
    have HT := Lib.hid (built_table (rowC (wtE b) 64) (rowC_size _ _))
    have HT2 := Lib.hid (fun (w : World) (g : Nat) (h : Blk w g 42 (rowC (wtE b) 64)) => (show Tab w g true b from h))
    obtain ⟨cs, hcs⟩ : ∃ cs, rowC (wtE b) 64 = cs := ⟨_, rfl⟩
    rw [hcs] at HP HT HT2
    clear h hcs
    show Calls Try.prog 10 #[.int .i64 1, .int .i64 b] w _
    go_enter Try.func10, Try.ntmps10
    go_wp2_with fail
    refine (HR.out _).mono ?_
    rintro x w1 ⟨rfl, rfl⟩
    go_wp2_with fail
    refine (HP.out _).mono ?_
    rintro x w1 ⟨rfl, hb⟩
    have HB := Lib.hid hb
    clear hb
    go_wp2_with (refine wpList_build_one rfl 42 (.tmp 21) rfl (.agg cs) rfl cs HT.out ?_)
    go_ret
    exact ⟨_, rfl, HB.out.size, HT2.out _ _ (Blk.new _ _ _), HB.out.alloc HB.out.size _⟩
end Go.Proofs.Ytjjpgiahifkinaa
