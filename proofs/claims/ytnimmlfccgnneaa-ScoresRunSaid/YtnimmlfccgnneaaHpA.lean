/- A heap in memory; what is asked of it, what is set in it. -/
import Derived.Test.YtnimmlfccgnneaaProg
import Derived.WalkSpells
import Derived.Handy
import Derived.Test.YtnimmlfccgnneaaHpMath
import Derived.Test.YtnimmlfccgnneaaBoolBlk
import Derived.Test.YtnimmlfccgnneaaFt
import Derived.Deep.QuietTactic
import Derived.BigQuiet
import Derived.Deep.LoopGhost
import Derived.Deep.DeepCutAuto
import Derived.Deep.CutBlock
import Derived.Deep.CutRange
import Derived.Deep.RegionLaw
namespace Go.Proofs.Ytnimmlfccgnneaa
open Go.RowKit
set_option linter.unusedVariables false
set_option linter.unusedSimpArgs false

def natCells (xs : List Nat) : Array Value := (xs.map fun (x : Nat) => Value.int .i64 (x : Int)).toArray
def intCells (xs : List Int) : Array Value := (xs.map fun x => Value.int .i64 x).toArray
theorem natCells_get {xs : List Nat} {i : Nat} (h : i < xs.length) : (natCells xs)[i]? = some (.int .i64 (xs.getD i 0 : Nat)) := by simp [natCells, List.getD, h]
theorem intCells_get {xs : List Int} {i : Nat} (h : i < xs.length) : (intCells xs)[i]? = some (.int .i64 (xs.getD i 0)) := by simp [intCells, List.getD, h]
theorem natCells_set (xs : List Nat) (i x : Nat) : (natCells xs).setIfInBounds i (.int .i64 (x : Nat)) = natCells (xs.set i x) := by
  unfold natCells
  apply Array.ext'
  simp [List.map_set]
theorem intCells_set (xs : List Int) (i : Nat) (x : Int) : (intCells xs).setIfInBounds i (.int .i64 x) = intCells (xs.set i x) := by
  unfold intCells
  apply Array.ext'
  simp [List.map_set]

/-- a heap's blocks: its struct, scores, places, tree -/
structure HB where
  g : Nat
  S : Nat
  P : Nat
  T : Nat
def HB.foot (b : HB) (q : Nat) : Prop := q = b.g ∨ q = b.S ∨ q = b.P ∨ q = b.T
structure HM (w : World) (b : HB) (n : Nat) (sc : List Nat) (pl : List Int) (tr : List Nat) (r : Nat) : Prop where
  hg : Blk w b.g 46 #[.slice (some ⟨b.S, 0, none⟩) n n, .slice (some ⟨b.P, 0, none⟩) n n, .slice (some ⟨b.T, 0, none⟩) tr.length n, .int .i64 (r : Nat)]
  hS : Blk w b.S 3 (natCells sc)
  hP : Blk w b.P 3 (intCells pl)
  hT : ∃ xs, Blk w b.T 3 (natCells xs) ∧ xs.length = n ∧ ∀ i, i < tr.length → xs.getD i 0 = tr.getD i 0
  ls : sc.length = n
  lp : pl.length = n
  lt : tr.length ≤ n
  few : n ≤ 100000
  d1 : b.S ≠ b.P
  d2 : b.S ≠ b.T
  d3 : b.P ≠ b.T
  cap : ∀ i, sc.getD i 0 ≤ 4503599627370496
  rc : r ≤ 4503599627370496

theorem i64_mid {x : Int} (h : -1152921504606846976 ≤ x ∧ x ≤ 1152921504606846976) : IntKind.i64.wrap x = x := by
  unfold IntKind.wrap
  simp [IntKind.signed, IntKind.bits]
  omega

section
variable {w w' : World} {b : HB} {n r : Nat} {sc tr : List Nat} {pl : List Int}
theorem HM.drewN (h : HM w b n sc pl tr r) (m : Nat) : HM (w.drewN m) b n sc pl tr r := ⟨h.hg, h.hS, h.hP, h.hT, h.ls, h.lp, h.lt, h.few, h.d1, h.d2, h.d3, h.cap, h.rc⟩
theorem HM.drew (h : HM w b n sc pl tr r) : HM w.drew b n sc pl tr r := ⟨h.hg, h.hS, h.hP, h.hT, h.ls, h.lp, h.lt, h.few, h.d1, h.d2, h.d3, h.cap, h.rc⟩
theorem HM.keep (h : HM w b n sc pl tr r) (hk : ∀ q t X, b.foot q → Blk w q t X → Blk w' q t X) : HM w' b n sc pl tr r := by
  obtain ⟨xs, h1, h2⟩ := h.hT
  exact ⟨hk _ _ _ (.inl rfl) h.hg, hk _ _ _ (.inr (.inl rfl)) h.hS, hk _ _ _ (.inr (.inr (.inl rfl))) h.hP, ⟨xs, hk _ _ _ (.inr (.inr (.inr rfl))) h1, h2⟩, h.ls, h.lp, h.lt, h.few, h.d1, h.d2, h.d3, h.cap, h.rc⟩
theorem HM.ft {F : Nat → Prop} (h : HM w b n sc pl tr r) (hf : Ft F w w') (hn : ∀ q, b.foot q → ¬ F q) : HM w' b n sc pl tr r := h.keep fun q _ _ hq hb => hf.blk hb (hn q hq)
theorem HM.gS (h : HM w b n sc pl tr r) : b.g ≠ b.S := h.hg.ne_ h.hS (by decide)
theorem HM.gP (h : HM w b n sc pl tr r) : b.g ≠ b.P := h.hg.ne_ h.hP (by decide)
theorem HM.gT (h : HM w b n sc pl tr r) : b.g ≠ b.T := by
  obtain ⟨xs, h1, _⟩ := h.hT
  exact h.hg.ne_ h1 (by decide)
theorem HM.foot_lt (h : HM w b n sc pl tr r) {q : Nat} (hq : b.foot q) : q < w.heap.size := by
  obtain ⟨xs, h1, _⟩ := h.hT
  rcases hq with rfl | rfl | rfl | rfl
  · exact h.hg.lt
  · exact h.hS.lt
  · exact h.hP.lt
  · exact h1.lt
theorem HM.setT (h : HM w b n sc pl tr r) (i v : Nat) : HM (w.setCell ⟨b.T, i, none⟩ (.int .i64 (v : Nat))) b n sc pl (tr.set i v) r := by
  obtain ⟨xs, h1, h2, h3⟩ := h.hT
  refine ⟨by rw [List.length_set]; exact h.hg.far h.gT _, h.hS.far h.d2 _, h.hP.far h.d3 _, ⟨xs.set i v, by rw [← natCells_set]; exact h1.set_ i _, by simp [h2], fun k hk => ?_⟩, h.ls, h.lp, by simpa using h.lt, h.few, h.d1, h.d2, h.d3, h.cap, h.rc⟩
  rw [List.length_set] at hk
  rw [getD_set_nat, getD_set_nat, h3 k hk]
  have := h.lt
  by_cases e : k = i
  · rw [if_pos ⟨e, by omega⟩, if_pos ⟨e, by omega⟩]
  · rw [if_neg (by omega), if_neg (by omega)]
theorem HM.setP (h : HM w b n sc pl tr r) (i : Nat) (x : Int) : HM (w.setCell ⟨b.P, i, none⟩ (.int .i64 x)) b n sc (pl.set i x) tr r := by
  obtain ⟨xs, h1, h2⟩ := h.hT
  exact ⟨h.hg.far h.gP _, h.hS.far h.d1 _, by rw [← intCells_set]; exact h.hP.set_ i _, ⟨xs, h1.far (Ne.symm h.d3) _, h2⟩, h.ls, by simp [h.lp], h.lt, h.few, h.d1, h.d2, h.d3, h.cap, h.rc⟩
theorem HM.setS (h : HM w b n sc pl tr r) (i x : Nat) (hx : x ≤ 4503599627370496) : HM (w.setCell ⟨b.S, i, none⟩ (.int .i64 (x : Nat))) b n (sc.set i x) pl tr r := by
  obtain ⟨xs, h1, h2⟩ := h.hT
  refine ⟨h.hg.far h.gS _, by rw [← natCells_set]; exact h.hS.set_ i _, h.hP.far (Ne.symm h.d1) _, ⟨xs, h1.far (Ne.symm h.d2) _, h2⟩, by simp [h.ls], h.lp, h.lt, h.few, h.d1, h.d2, h.d3, fun k => ?_, h.rc⟩
  rw [getD_set_nat]
  split
  · exact hx
  · exact h.cap k
theorem HM.setR (h : HM w b n sc pl tr r) (x : Nat) (hx : x ≤ 4503599627370496) : HM (w.setCell ⟨b.g, 3, none⟩ (.int .i64 (x : Nat))) b n sc pl tr x := by
  obtain ⟨xs, h1, h2⟩ := h.hT
  exact ⟨h.hg.set_ 3 _, h.hS.far (Ne.symm h.gS) _, h.hP.far (Ne.symm h.gP) _, ⟨xs, h1.far (Ne.symm h.gT) _, h2⟩, h.ls, h.lp, h.lt, h.few, h.d1, h.d2, h.d3, h.cap, hx⟩
theorem HM.popT (h : HM w b n sc pl tr r) {k : Nat} (hk : k ≤ tr.length) : HM (w.setCell ⟨b.g, 2, none⟩ (.slice (some ⟨b.T, 0, none⟩) k n)) b n sc pl (tr.take k) r := by
  obtain ⟨xs, h1, h2, h3⟩ := h.hT
  have hl : (tr.take k).length = k := by simp; omega
  have := h.lt
  refine ⟨by rw [hl]; exact h.hg.set_ 2 _, h.hS.far (Ne.symm h.gS) _, h.hP.far (Ne.symm h.gP) _, ⟨xs, h1.far (Ne.symm h.gT) _, h2, fun i hi => ?_⟩, h.ls, h.lp, by omega, h.few, h.d1, h.d2, h.d3, h.cap, h.rc⟩
  rw [hl] at hi
  rw [getD_take_nat _ hi]
  exact h3 i (by omega)
theorem HM.pushT (h : HM w b n sc pl tr r) (v : Nat) (hl : tr.length < n) : HM ((w.setCell ⟨b.T, tr.length, none⟩ (.int .i64 (v : Nat))).setCell ⟨b.g, 2, none⟩ (.slice (some ⟨b.T, 0, none⟩) (tr.length + 1) n)) b n sc pl (tr ++ [v]) r := by
  obtain ⟨xs, h1, h2, h3⟩ := h.hT
  refine ⟨?_, (h.hS.far h.d2 _).far (Ne.symm h.gS) _, (h.hP.far h.d3 _).far (Ne.symm h.gP) _, ⟨xs.set tr.length v, ?_, by simp [h2], fun k hk => ?_⟩, h.ls, h.lp, by simp; omega, h.few, h.d1, h.d2, h.d3, h.cap, h.rc⟩
  · rw [List.length_append, List.length_singleton]
    exact (h.hg.far h.gT _).set_ 2 _
  · rw [← natCells_set]
    exact (h1.set_ _ _).far (Ne.symm h.gT) _
  · rw [List.length_append, List.length_singleton] at hk
    rw [getD_set_nat, getD_snoc]
    by_cases e : k = tr.length
    · rw [if_pos ⟨e, by omega⟩, if_pos e]
    · rw [if_neg (by omega), if_neg e]
      exact h3 k (by omega)

theorem HM.cS (h : HM w b n sc pl tr r) {i : Nat} (hi : i < n) : w.cell? ⟨b.S, i, none⟩ = some (.int .i64 (sc.getD i 0 : Nat)) := (h.hS.cell i).trans (natCells_get (by rw [h.ls]; exact hi))
theorem HM.cP (h : HM w b n sc pl tr r) {i : Nat} (hi : i < n) : w.cell? ⟨b.P, i, none⟩ = some (.int .i64 (pl.getD i 0)) := (h.hP.cell i).trans (intCells_get (by rw [h.lp]; exact hi))
theorem HM.cT (h : HM w b n sc pl tr r) {i : Nat} (hi : i < tr.length) : w.cell? ⟨b.T, i, none⟩ = some (.int .i64 (tr.getD i 0 : Nat)) := by
  obtain ⟨xs, h1, h2, h3⟩ := h.hT
  have := h.lt
  rw [← h3 i hi]
  exact (h1.cell i).trans (natCells_get (by omega))
theorem HM.fS (h : HM w b n sc pl tr r) (i : Nat) : w.frozen? ⟨b.S, i, none⟩ = false := h.hS.frozen i
theorem HM.fP (h : HM w b n sc pl tr r) (i : Nat) : w.frozen? ⟨b.P, i, none⟩ = false := h.hP.frozen i
theorem HM.fT (h : HM w b n sc pl tr r) (i : Nat) : w.frozen? ⟨b.T, i, none⟩ = false := by
  obtain ⟨xs, h1, _⟩ := h.hT
  exact h1.frozen i
theorem HM.g0 (h : HM w b n sc pl tr r) : w.cell? ⟨b.g, 0, none⟩ = some (.slice (some ⟨b.S, 0, none⟩) n n) := by rw [h.hg.cell]; rfl
theorem HM.g1 (h : HM w b n sc pl tr r) : w.cell? ⟨b.g, 1, none⟩ = some (.slice (some ⟨b.P, 0, none⟩) n n) := by rw [h.hg.cell]; rfl
theorem HM.g2 (h : HM w b n sc pl tr r) : w.cell? ⟨b.g, 2, none⟩ = some (.slice (some ⟨b.T, 0, none⟩) tr.length n) := by rw [h.hg.cell]; rfl
theorem HM.g3 (h : HM w b n sc pl tr r) : w.cell? ⟨b.g, 3, none⟩ = some (.int .i64 (r : Nat)) := by rw [h.hg.cell]; rfl

theorem isvar_hp (h : HM w b n sc pl tr r) (v : Int) (h0 : -9223372036854775808 ≤ v ∧ v ≤ 9223372036854775807) : Calls Try.prog 23 #[.pointer (some ⟨b.g, 0, none⟩), .int .i64 v] w fun e w' => e = .returned (.bool (decide (0 < v ∧ v ≤ n))) ∧ w = w' := by
  have c0 := h.g0
  clear h
  by_cases h1 : 0 < v
  · by_cases h2 : v ≤ (n : Int)
    · rw [show decide (0 < v ∧ v ≤ (n : Int)) = true by simp [h1, h2]]
      go_enter Try.func23, Try.ntmps23
      go_wp2
      go_ret
      exact ⟨rfl, rfl⟩
    · rw [show decide (0 < v ∧ v ≤ (n : Int)) = false by simp [h2]]
      go_enter Try.func23, Try.ntmps23
      go_wp2
      go_ret
      exact ⟨rfl, rfl⟩
  · rw [show decide (0 < v ∧ v ≤ (n : Int)) = false by simp [h1]]
    go_enter Try.func23, Try.ntmps23
    go_wp2
    go_ret
    exact ⟨rfl, rfl⟩

theorem rise_hp (h : HM w b n sc pl tr r) : Calls Try.prog 11 #[.pointer (some ⟨b.g, 0, none⟩)] w fun e w' => e = .returned (.int .i64 (r : Nat)) ∧ w = w' := by
  have c0 := h.g3
  clear h
  go_enter Try.func11, Try.ntmps11
  go_wp2
  go_ret
  exact ⟨rfl, rfl⟩
theorem len_hp (h : HM w b n sc pl tr r) : Calls Try.prog 16 #[.pointer (some ⟨b.g, 0, none⟩)] w fun e w' => e = .returned (.int .i64 (tr.length : Nat)) ∧ w = w' := by
  have c0 := h.g2
  clear h
  go_enter Try.func16, Try.ntmps16
  go_wp2
  go_ret
  exact ⟨rfl, rfl⟩
theorem first_hp (h : HM w b n sc pl tr r) : Calls Try.prog 12 #[.pointer (some ⟨b.g, 0, none⟩)] w fun e w' => e = .returned (.tuple #[.int .i64 (if tr.length = 0 then 0 else (tr.getD 0 0 : Nat)), .bool (decide (tr.length ≠ 0))]) ∧ w = w' := by
  have c0 := h.g2
  by_cases h0 : tr.length = 0
  · rw [if_pos h0, show decide (tr.length ≠ 0) = false by simp [h0]]
    rw [h0] at c0
    clear h h0
    go_enter Try.func12, Try.ntmps12
    go_wp2
    go_ret2
    exact ⟨rfl, rfl⟩
  · rw [if_neg h0, show decide (tr.length ≠ 0) = true by simp [h0]]
    have c1 := h.cT (i := 0) (by omega)
    obtain ⟨l, hl⟩ : ∃ l, l = tr.length := ⟨_, rfl⟩
    obtain ⟨x, hx⟩ : ∃ x : Nat, x = tr.getD 0 0 := ⟨_, rfl⟩
    rw [← hl] at c0 h0
    rw [← hx] at c1 ⊢
    have hd : ((l : Int) == 0) = false := by simp; omega
    have h1 : (0 : Int) < (l : Int) := by omega
    clear h hl hx h0
    go_enter Try.func12, Try.ntmps12
    go_wp2
    go_ret2
    exact ⟨rfl, rfl⟩
theorem score_hp (h : HM w b n sc pl tr r) (v : Int) (h0 : -9223372036854775808 ≤ v ∧ v ≤ 9223372036854775807) : Calls Try.prog 14 #[.pointer (some ⟨b.g, 0, none⟩), .int .i64 v] w fun e w' => e = .returned (.int .i64 (if decide (0 < v ∧ v ≤ n) = true then sc.getD (v.toNat - 1) 0 else 0 : Nat)) ∧ w = w' := by
  have HI := Lib.hid (isvar_hp h v h0)
  obtain ⟨d, hd⟩ : ∃ d, d = decide (0 < v ∧ v ≤ (n : Int)) := ⟨_, rfl⟩
  rw [← hd] at HI ⊢
  rcases d with _ | _
  · rw [if_neg (by decide)]
    clear h hd
    go_enter Try.func14, Try.ntmps14
    go_wp2_with fail
    refine HI.out.mono ?_
    rintro e w1 ⟨rfl, rfl⟩
    go_wp2
    go_ret
    exact ⟨rfl, rfl⟩
  · rw [if_pos rfl]
    obtain ⟨k, rfl⟩ : ∃ k : Nat, v = (k : Int) + 1 := ⟨v.toNat - 1, by simp at hd; omega⟩
    have hk : k < n := by simp at hd; omega
    rw [show ((k : Int) + 1).toNat - 1 = k by omega]
    have c0 := h.g0
    have c1 := h.cS hk
    have hkk : (k : Int) < (n : Int) := by omega
    have hwk : IntKind.i64.wrap (k : Int) = (k : Int) := i64_mid (by have := h.few; omega)
    obtain ⟨x, hx⟩ : ∃ x : Nat, x = sc.getD k 0 := ⟨_, rfl⟩
    rw [← hx] at c1 ⊢
    clear h hd hx
    go_enter Try.func14, Try.ntmps14
    go_wp2_with fail
    refine HI.out.mono ?_
    rintro e w1 ⟨rfl, rfl⟩
    go_wp2
    all_goals go_ret
    all_goals exact ⟨rfl, rfl⟩
theorem in_hp (h : HM w b n sc pl tr r) (v : Int) (h0 : -9223372036854775808 ≤ v ∧ v ≤ 9223372036854775807) : Calls Try.prog 15 #[.pointer (some ⟨b.g, 0, none⟩), .int .i64 v] w fun e w' => e = .returned (.bool (decide (0 < v ∧ v ≤ n) && decide (pl.getD (v.toNat - 1) 0 ≠ -1))) ∧ w = w' := by
  have HI := Lib.hid (isvar_hp h v h0)
  obtain ⟨d, hd⟩ : ∃ d, d = decide (0 < v ∧ v ≤ (n : Int)) := ⟨_, rfl⟩
  rw [← hd] at HI ⊢
  rcases d with _ | _
  · rw [Bool.false_and]
    clear h hd
    go_enter Try.func15, Try.ntmps15
    go_wp2_with fail
    refine HI.out.mono ?_
    rintro e w1 ⟨rfl, rfl⟩
    go_wp2
    go_ret
    exact ⟨rfl, rfl⟩
  · rw [Bool.true_and]
    obtain ⟨k, rfl⟩ : ∃ k : Nat, v = (k : Int) + 1 := ⟨v.toNat - 1, by simp at hd; omega⟩
    have hk : k < n := by simp at hd; omega
    rw [show ((k : Int) + 1).toNat - 1 = k by omega]
    have c0 := h.g1
    have c1 := h.cP hk
    have hkk : (k : Int) < (n : Int) := by omega
    have hwk : IntKind.i64.wrap (k : Int) = (k : Int) := i64_mid (by have := h.few; omega)
    obtain ⟨x, hx⟩ : ∃ x, x = pl.getD k 0 := ⟨_, rfl⟩
    rw [← hx] at c1 ⊢
    have he : (decide (x ≠ -1)) = (x != -1) := by
      by_cases e : x = -1
      · simp [e]
      · simp [e]
    rw [he]
    clear h hd hx he
    go_enter Try.func15, Try.ntmps15
    go_wp2_with fail
    refine HI.out.mono ?_
    rintro e w1 ⟨rfl, rfl⟩
    go_wp2
    all_goals go_ret
    all_goals exact ⟨rfl, rfl⟩
end
end Go.Proofs.Ytnimmlfccgnneaa
