/- Where all clauses begin. -/
import Derived.Test.YtnjcegjcaaplgaaArena5
import Derived.Deep.LoopGhost
namespace Go.Proofs.Ytnjcegjcaaplgaa
open Go.RowKit
set_option linter.unusedVariables false

def startsFrom : Nat → List Cl → List Int
  | _, [] => []
  | p, c :: r => (p : Int) :: startsFrom (p + c.size) r
theorem startsFrom_append (a b : List Cl) : ∀ p, startsFrom p (a ++ b) = startsFrom p a ++ startsFrom (p + total a) b := by
  induction a with
  | nil => intro p; rfl
  | cons c r ih =>
    intro p
    rw [List.cons_append, startsFrom, ih, startsFrom, total_cons, List.cons_append, Nat.add_assoc]
theorem startsFrom_length (a : List Cl) : ∀ p, (startsFrom p a).length = a.length := by
  induction a with
  | nil => intro p; rfl
  | cons c r ih => intro p; simp [startsFrom, ih]
theorem starts_at (pre : List Cl) (c : Cl) (post : List Cl) : (startsFrom 0 (pre ++ c :: post)).getD pre.length 0 = total pre := by
  rw [startsFrom_append, Nat.zero_add]
  simp [List.getD, startsFrom_length, startsFrom]

set_option maxRecDepth 100000 in
set_option maxHeartbeats 1000000 in
theorem starts_any {w : World} {base g b : Nat} {gw : Option Nat} {lim : Int} {cs : List Cl} (h : Ar w base g b gw lim cs) (ht : total cs ≤ 1099511627776) :
    Calls Try.prog 26 #[.pointer (some ⟨g, 0, none⟩)] w fun e w' => ∃ A c, e = .returned (.slice A cs.length c) ∧
      w'.ownsRow w.heap.size 3 1 (.slice A cs.length c) cs.length ((startsFrom 0 cs).map (Value.int .i64)) ∧ Below w.heap.size w w' := by
  obtain ⟨i0, hi, hz0, hz1, hz2⟩ := info_parts infoInt
  have H := Lib.hid h
  have hlen := length_le_total cs
  have hcnt := countOf_le cs
  have HC := Lib.hid (count_any h)
  obtain ⟨q, hq⟩ : ∃ q, q = countOf cs := ⟨_, rfl⟩
  rw [← hq] at HC hcnt
  have HT := Lib.hid ht
  have hcl : cs.length ≤ 1099511627776 := by omega
  have hq2 : q ≤ 1099511627776 := by omega
  clear h hq hlen hcnt ht
  go_enter Try.func26, Try.ntmps26
  go_wp2_with fail
  refine HC.out.mono ?_
  rintro e w1 ⟨rfl, rfl⟩
  go_wp2_with (at_make; refine wpList_make_own _ rfl _ _ 31 rfl w.heap.size 3 i0 (.int .i64 0) 1 Try.underlying31 hi hz0 hz1 .i64 .i64 _ q rfl rfl rfl (by rw [hz2]; omega) (by unfold maxLen; omega) (Nat.le_refl _) ?_; intro w1 hown1 hg1)
  have hb1 : Below w.heap.size w w1 := ⟨hg1.os, hg1.tape, hg1.output, hg1.size, fun k hk => hg1.block k hk (by simp)⟩
  have HO1 := Lib.hid hown1
  have HB1 := Lib.hid hb1
  clear hown1 hg1 hb1
  go_loopg [3, 4] (cs.length + 1) (fun gk v i wr => ∃ (pre post : List Cl) (A : Option Addr) (c : Nat), cs = pre ++ post ∧ gk = post.length + 1 ∧ v = .slice A pre.length c ∧ i = .int .i64 (total pre : Nat) ∧
    wr.ownsRow w.heap.size 3 1 (.slice A pre.length c) pre.length ((startsFrom 0 pre).map (Value.int .i64)) ∧ Below w.heap.size w wr)
  case atStart => exact ⟨[], cs, _, _, rfl, rfl, rfl, rfl, HO1.out, HB1.out⟩
  case round =>
    obtain ⟨pre, post, A, c, hcs, rfl, rfl, rfl, hown, hb⟩ := hrel
    have har := H.out.below hb
    obtain ⟨A2, c2, hblk, _, _⟩ := har.ex
    have c0 := hblk.cell 0
    simp at c0
    obtain ⟨T, hT⟩ : ∃ T, T = total cs := ⟨_, rfl⟩
    obtain ⟨p, hp⟩ : ∃ p, p = total pre := ⟨_, rfl⟩
    obtain ⟨m, hm⟩ : ∃ m, m = pre.length := ⟨_, rfl⟩
    have ht := HT.out
    rw [← hT] at c0 ht
    rw [← hp]
    rw [← hm] at hown ⊢
    have HO := Lib.hid hown
    have HB := Lib.hid hb
    have HA := Lib.hid har
    have HM := Lib.hid hm
    clear hown hb har hblk HO1 HB1
    cases post with
    | nil =>
      have hpt : p = T := by rw [hp, hT, hcs, List.append_nil]
      have HCS := Lib.hid hcs
      clear hp hT hm hcs
      subst hpt
      go_wp2
      go_ret
      have e : pre = cs := by rw [HCS.out, List.append_nil]
      have ho := HO.out
      rw [HM.out, e] at ho
      exact ⟨A, c, by rw [HM.out, e]; rfl, ho, HB.out⟩
    | cons cl r =>
      have hle := size_le_total pre r cl
      rw [← hcs, ← hT, ← hp] at hle
      have hsz := cl.size_pos
      have hml : m + 1 ≤ cs.length := by rw [hcs, hm]; simp
      have HCS := Lib.hid hcs
      have HP := Lib.hid hp
      clear hp hT hm hcs
      go_wp2_with (at_builtin; refine wpList_append1 _ rfl _ _ 31 rfl w.heap.size 3 i0 (.int .i64 0) 8 Try.underlying31 hi hz0 hz1 hz2 rfl _ m _ rfl (HO.out.alloc _) (.int .i64 p) wr.heap.size rfl ((Blk.new wr _ #[Value.int .i64 p]).cell 0) rfl (by unfold maxLen; omega) (by omega) (by have := HB.out.size; simp; omega) ?_)
      intro v' w3 hown3 hg3 hat3
      obtain ⟨A3, c3, hv3, -⟩ := own_slice hown3
      subst hv3
      have hb3 : Below w.heap.size w w3 := (HB.out.alloc HB.out.size _).grown hg3 (by have := HB.out.size; simp; omega) (fun j hj => (HO.out.lt j hj).1)
      have ha3 := H.out.below hb3
      have hca := HCS.out
      have ha3' : Ar w3 base g b gw lim (pre ++ cl :: r) := by rw [← hca]; exact ha3
      have HNX := Lib.hid (next_any pre r cl ha3' (by rw [← hca]; exact HT.out))
      rw [← HP.out] at HNX
      have HO3 := Lib.hid hown3
      have HB3 := Lib.hid hb3
      clear hown3 hg3 hat3 hb3 ha3 ha3' hca
      go_wp2_with fail
      refine HNX.out.mono ?_
      rintro e w4 ⟨rfl, rfl⟩
      go_wp2
      go_roundg (r.length + 1)
      case measure => simp
      case rel =>
        refine ⟨pre ++ [cl], r, A3, c3, by rw [HCS.out]; simp, rfl, by rw [List.length_append, ← HM.out]; rfl, by rw [total_snoc, ← HP.out]; go_num, ?_, HB3.out⟩
        have ho := HO3.out
        have e1 : (pre ++ [cl]).length = m + 1 := by rw [List.length_append, ← HM.out]; rfl
        rw [e1, startsFrom_append, List.map_append]
        simpa [startsFrom, HP.out] using ho
end Go.Proofs.Ytnjcegjcaaplgaa
