/- The law's begin and do: a heap and the law's own, side by side. -/
import Derived.Test.YtnimmlfccgnneaaMd16
namespace Go.Proofs.Ytnimmlfccgnneaa
open Go.RowKit
set_option linter.unusedVariables false
set_option linter.unusedSimpArgs false

/-- a heap, and the law's own, of one state -/
structure Pr16 (w : World) (b : HB) (m : MB) (n : Nat) (s : SP) : Prop where
  st : St16 w b n s
  md : Md w m n s
  dj : ∀ q, b.foot q → ¬ m.foot q
def foot2 (b : HB) (m : MB) (q : Nat) : Prop := b.foot q ∨ m.foot q
theorem Pr16.ft {w w' : World} {b : HB} {m : MB} {n : Nat} {s : SP} {F : Nat → Prop} (h : Pr16 w b m n s) (hf : Ft F w w') (hn : ∀ q, foot2 b m q → ¬ F q) : Pr16 w' b m n s :=
  ⟨h.st.ft hf fun q hq => hn q (.inl hq), h.md.ft hf fun q hq => hn q (.inr hq), h.dj⟩
theorem Pr16.low {w w' : World} {b : HB} {m : MB} {n : Nat} {s : SP} (h : Pr16 w b m n s) (hf : Below w.heap.size w w') : Pr16 w' b m n s := ⟨h.st.low hf, h.md.low hf, h.dj⟩
theorem Pr16.lt {w : World} {b : HB} {m : MB} {n : Nat} {s : SP} (h : Pr16 w b m n s) {q : Nat} (hq : foot2 b m q) : q < w.heap.size := hq.elim (fun e => h.st.foot_lt e) fun e => h.md.foot_lt e
def SP.deed (s : SP) (K V : Int) (a : Nat) : SP := if K % 7 < 4 then s.bump V else if K % 7 = 4 then s.decays a else if K % 7 = 5 then s.take else s.put V
theorem SP.Good.deed {s : SP} {n : Nat} (h : s.Good n) (K V : Int) (a : Nat) : (s.deed K V a).Good n := by
  unfold SP.deed
  split
  · exact h.bump V
  · split
    · exact h.decays a
    · split
      · exact h.take
      · exact h.put V
theorem i64_and_255 (n : Int) : bits .and .i64 n 255 = n % 256 := i64_mask 8 (by decide) n
theorem infoB16 : (Try.prog.info? 4).map (fun i => (i.zero, i.size, i.bytes)) = some (some (.bool false), 1, 1) := by kernel_rfl
theorem made_bool16 (n : Nat) : madeCells #[Value.bool false] n = boolCells (List.replicate n false) := by
  apply Array.ext
  · simp [size_madeCells, boolCells]
  · intro i h1 h2
    simp [madeCells, Nat.mod_one, boolCells]
theorem new_md {W' : World} {n g S I : Nat} (hn : n ≤ 100000) (h1 : Blk W' g 35 #[.slice (some ⟨S, 0, none⟩) (n + 1) (n + 1), .slice (some ⟨I, 0, none⟩) (n + 1) (n + 1), .int .i64 1048576])
    (h2 : Blk W' S 3 (madeCells #[.int .i64 0] (n + 1))) (h3 : Blk W' I 4 (madeCells #[.bool false] (n + 1))) : Md W' ⟨g, S, I⟩ n ⟨List.replicate n 0, List.replicate n false, 1048576⟩ := by
  rw [made_nat, List.replicate_succ] at h2
  rw [made_bool16, List.replicate_succ] at h3
  refine ⟨h1, h2, h3, by simp, by simp, hn, fun i => ?_, by show 1048576 ≤ _; omega⟩
  show (List.replicate n 0).getD i 0 ≤ _
  by_cases hi : i < n
  · simp [List.getD, hi]
  · rw [getD_big _ _ (by simpa using hi)]; omega
theorem new_below3 (W : World) (o1 o2 o3 : Obj) : Below W.heap.size W (((W.alloc o1).alloc o2).alloc o3).drew := ((((Below.refl _ _).alloc (Nat.le_refl _) _).alloc (by simp) _).alloc (by simp; omega) _).drew
theorem new_foot3 {W : World} {g S I : Nat} (h : W.heap.size ≤ g ∧ W.heap.size ≤ S ∧ W.heap.size ≤ I) : ∀ q, (MB.mk g S I).foot q → W.heap.size ≤ q := by
  rintro q (rfl | rfl | rfl)
  · exact h.1
  · exact h.2.1
  · exact h.2.2

set_option maxHeartbeats 4000000 in
theorem begin_any16 (n : Nat) (hn : n ≤ 1000) (W : World) : Calls Try.prog 9 #[.int .i64 (n : Nat)] W fun e W' => ∃ (b : HB) (m : MB), e = .returned (.tuple #[.pointer (some ⟨b.g, 0, none⟩), .pointer (some ⟨m.g, 0, none⟩)]) ∧ Pr16 W' b m n (SP.fresh n) ∧ Below W.heap.size W W' ∧ ∀ q, foot2 b m q → W.heap.size ≤ q := by
  have hm1 : ∀ w : World, (Instr.makeSlice 32 (.int .i64 ((n : Int) + 1)) (.int .i64 ((n : Int) + 1))).run Try.prog w = .ok (.slice (some ⟨w.heap.size, 0, none⟩) (n + 1) (n + 1)) (w.alloc (.cells (madeCells #[.int .i64 0] (n + 1)) 3)) := fun w => by
    have := run_make_row' (P := Try.prog) 32 3 (.int .i64 0) 8 Try.underlying32 infoI16 rfl .i64 .i64 (n + 1) (by omega) (by omega) w
    simpa using this
  have hm2 : ∀ w : World, (Instr.makeSlice 33 (.int .i64 ((n : Int) + 1)) (.int .i64 ((n : Int) + 1))).run Try.prog w = .ok (.slice (some ⟨w.heap.size, 0, none⟩) (n + 1) (n + 1)) (w.alloc (.cells (madeCells #[.bool false] (n + 1)) 4)) := fun w => by
    have := run_make_row' (P := Try.prog) 33 4 (.bool false) 1 Try.underlying33 infoB16 rfl .i64 .i64 (n + 1) (by omega) (by omega) w
    simpa using this
  have hw1 : IntKind.i64.wrap ((n : Int) + 1) = (n : Int) + 1 := i64_mid (by omega)
  go_enter Try.func9, Try.ntmps9
  go_upto_region 1 with fail
  go_cut [4] (fun v wx => ∃ m : MB, v = .pointer (some ⟨m.g, 0, none⟩) ∧ Hid (Md wx m n ⟨List.replicate n 0, List.replicate n false, 1048576⟩) ∧ Hid (Below W.heap.size W wx) ∧ Hid (∀ q, m.foot q → W.heap.size ≤ q))
  case first =>
    go_region_held3 (fun _ => True) (trivial) (fail)
    all_goals (go_wp2_with fail; go_meet)
    all_goals
      first
        | (refine ⟨⟨W.heap.size + 1 + 1, W.heap.size, W.heap.size + 1⟩, rfl, Lib.hid (new_md (by omega) ?_ ?_ ?_), Lib.hid (new_below3 W _ _ _), Lib.hid (new_foot3 (by omega))⟩ <;> ((try unfold Blk) <;> simp only [World.alloc, World.drew, Array.getElem?_push, Array.size_push] <;> (repeat (first | rw [if_pos rfl] | rw [if_neg (by omega)])) <;> rfl))
        | (refine ⟨⟨W.heap.size + 1 + 1, W.heap.size + 1, W.heap.size⟩, rfl, Lib.hid (new_md (by omega) ?_ ?_ ?_), Lib.hid (new_below3 W _ _ _), Lib.hid (new_foot3 (by omega))⟩ <;> ((try unfold Blk) <;> simp only [World.alloc, World.drew, Array.getElem?_push, Array.size_push] <;> (repeat (first | rw [if_pos rfl] | rw [if_neg (by omega)])) <;> rfl))
  case rest =>
    obtain ⟨m, rfl, H, HB, HN⟩ := hcut
    clear hm1 hm2
    go_wp2_with fail
    go_loopg [5] (n + 1) (fun gk iv wr => ∃ (k : Nat) (zs : List Bool), k ≤ n ∧ gk = n - k + 1 ∧ iv = .int .i64 ((k : Int) + 1) ∧ Hid (Md wr m n ⟨List.replicate n 0, zs, 1048576⟩) ∧ Hid (∀ i, i < k → zs.getD i false = true) ∧ Hid (Below W.heap.size W wr))
    case atStart => exact ⟨0, _, by omega, by omega, by go_num, H, Lib.hid (fun i hi => by omega), HB⟩
    case round =>
      obtain ⟨k, zs, hk, rfl, rfl, H, HZ, HB⟩ := hrel
      by_cases hlt : k < n
      · have g1 := H.out.g1
        have ci := H.out.cI hlt
        have fi := BlkB.frozen H.out.hI (k + 1)
        have hkI : (k : Int) < (n : Int) := by omega
        have hkJ : (k : Int) + 1 < (n : Int) + 1 := by omega
        have H1 := Lib.hid (H.out.setI k true)
        have B1 := Lib.hid (HB.out.setCell (p := ⟨m.I, k + 1, none⟩) (HN.out _ (.inr (.inr rfl))) (.bool true))
        have HZ1 : Hid (∀ i, i < k + 1 → (zs.set k true).getD i false = true) := Lib.hid fun i hi => by
          have hl : zs.length = n := H.out.li
          rw [getD_set_bool, hl]
          by_cases e : i = k
          · rw [if_pos ⟨e, hlt⟩]
          · rw [if_neg (fun h => e h.1)]
            exact HZ.out i (by omega)
        go_wp2_with fail
        go_roundg (n - k)
        case measure => omega
        case rel => exact ⟨k + 1, _, by omega, by omega, by go_num, H1, HZ1, B1⟩
      · obtain rfl : n = k := by omega
        have hzs : zs = List.replicate n true := by
          have hl : zs.length = n := H.out.li
          apply List.ext_getElem
          · simp [hl]
          · intro i h1 h2
            have := HZ.out i (by omega)
            simpa [List.getD, h1] using this
        subst hzs
        clear hlt
        go_wp2_with fail
        refine (new_st n (by omega) wr).mono ?_
        rintro e w2 ⟨b, rfl, k1, k2, k3⟩
        have K1 := Lib.hid k1
        have K2 := Lib.hid (HB.out.trans (k2.mono HB.out.size))
        have K3 := Lib.hid k3
        have KM := Lib.hid (H.out.low k2)
        have KL := Lib.hid (fun q (hq : m.foot q) => H.out.foot_lt hq)
        have KS := Lib.hid HB.out.size
        clear k1 k2 k3
        go_wp2
        go_ret2
        exact ⟨b, m, rfl, ⟨K1.out, KM.out, fun q h1 h2 => by have := K3.out q h1; have := KL.out q h2; omega⟩, K2.out, fun q hq => hq.elim (fun h => Nat.le_trans KS.out (K3.out q h)) fun h => HN.out q h⟩
end Go.Proofs.Ytnimmlfccgnneaa
