/- Formulas of clauses without literals: what a state knows of them. -/
import Derived.Test.YtbejjddkndcldaaSt14
import Derived.Test.YtbejjddkndcldaaTrnMath14
namespace Go.Proofs.Ytbejjddkndcldaa
open Go.RowKit
set_option linter.unusedVariables false
set_option linter.unusedSimpArgs false

def empties (k : Nat) : List (List Int) := List.replicate k []
theorem emp_len (k : Nat) : (empties k).length = k := by simp [empties]
theorem emp_norm (k : Nat) : normForm (empties k) = empties k := by
  unfold normForm empties
  rw [List.filter_eq_self.2 (fun c hc => by rw [(List.mem_replicate.1 hc).2]; rfl), List.map_replicate]
  rfl
theorem emp_getD (k i : Nat) : (empties k).getD i [] = [] := by
  unfold empties
  by_cases h : i < k
  · simp [List.getD, h]
  · simp [List.getD, h]
theorem emp_light (n : Nat) {k : Nat} (hk : k ≤ 40) : LightForm n (empties k) := by
  refine ⟨by rw [emp_len]; exact hk, fun c hc => ?_, fun c hc l hl => ?_⟩
  · rw [(List.mem_replicate.1 hc).2]; simp
  · rw [(List.mem_replicate.1 hc).2] at hl; cases hl
section
variable {s : LS} {n k : Nat}
theorem emp_hss (hg : s.Good n) (hc : s.cls = empties k) (i : Nat) : s.hss.getD i [] = [] := by
  refine List.eq_nil_iff_forall_not_mem.2 fun x hx => ?_
  have := hg.sub i x hx
  rw [hc, emp_getD] at this
  cases this
theorem emp_row (hg : s.Good n) (hc : s.cls = empties k) : s.row.length = k := by
  rw [row_cnt hg, hc, emp_len]
  unfold cntP
  rw [List.filter_eq_self.2 (fun i _ => by rw [emp_hss hg hc]; rfl)]
  simp
theorem emp_brk (hg : s.Good n) (hc : s.cls = empties k) (v : Nat) : brk s.hss v = 0 := by
  rw [brk_cnt hg]
  unfold cntP
  rw [List.filter_eq_nil_iff.2 (fun i _ => by rw [emp_hss hg hc]; simp [soleOf])]
  rfl
theorem emp_make (hg : s.Good n) (hc : s.cls = empties k) (z : List Bool) (v : Nat) : makeOf s z v = 0 := by
  unfold makeOf
  have : hav s.cls (-holder z v) = [] := List.eq_nil_iff_forall_not_mem.2 fun i hi => by
    have := mem_hav.1 hi
    rw [hc, emp_getD] at this
    cases this
  rw [this]
  rfl
end
section
variable {w w' : World} {B g : Nat} {ρ : Nat → Nat} {z : List Bool} {yss : List (List Int)} {s : LS} {b : BS}
theorem St14.base {B' : Nat} (h : St14 w B ρ g z yss s b) (hB : B' ≤ B) : St14 w B' ρ g z yss s b :=
  ⟨h.ex, h.good, h.at_, h.cls, h.bg, h.few, fun q hq => Nat.le_trans hB (h.lo q hq), Nat.le_trans hB h.hB⟩
end
theorem emp_rows {W : World} {q k B : Nat} (hq : Blk W q 32 (madeCells #[.slice none 0 0] k)) (hB : q < B) : Rows W B (some ⟨q, 0, none⟩) (empties k) := fun hn => by
  refine ⟨q, 0, rfl, hB, fun j hj => ⟨none, 0, ?_, ?_⟩⟩
  · rw [emp_getD]
    rw [emp_len] at hj
    rw [Nat.zero_add]
    simpa [madeCells, hj, Nat.mod_one] using Blk.cell hq j
  · rw [emp_getD]
    exact fun h => absurd h (by simp)

theorem emp_new (n k : Nat) (W : World) (q r : Nat) (hn : n ≤ 1000) (hk : k ≤ 40) (hq : Blk W q 32 (madeCells #[.slice none 0 0] k)) (hr : Blk W r 4 (madeCells #[.bool false] n)) :
    Calls Try.prog 21 #[.agg #[.int .i64 n, .slice (some ⟨q, 0, none⟩) k k], .slice (some ⟨r, 0, none⟩) n n] W fun e w' => ∃ ρ g s b, e = .returned (.tuple #[.pointer (some ⟨g, 0, none⟩), .int .i64 0]) ∧
      St14 w' W.heap.size ρ g (List.replicate n false) (empties k) s b ∧ b.flips ≤ 0 ∧ b.fewest = k ∧ b.of (List.replicate n false) = List.replicate n false ∧ Below W.heap.size W w' := by
  have hb := BlkB.bools (w := W) (g := r) (z := List.replicate n false) (by rw [madeBools14] at hr; exact hr)
  have h := st_new n (empties k) (List.replicate n false) W.heap.size (some ⟨q, 0, none⟩) (some ⟨r, 0, none⟩) k n W hn (emp_light n hk) (emp_rows hq hq.lt) hb (Nat.le_refl _) (by simp)
  rw [emp_len, emp_norm, List.length_replicate] at h
  refine h.mono ?_
  rintro e w' ⟨ρ, g, s, rfl, hst, hbl⟩
  exact ⟨ρ, g, s, _, rfl, hst, Nat.le_refl _, emp_row hst.good hst.cls, rfl, hbl⟩

theorem emp_flip {w : World} {B g k : Nat} {ρ : Nat → Nat} {z : List Bool} {s : LS} {b : BS} (h : St14 w B ρ g z (empties k) s b) (hfl : b.flips ≤ 1000000) (hf : b.fewest = k) (v : Int) (hv : -9223372036854775808 ≤ v ∧ v ≤ 9223372036854775807) :
    Calls Try.prog 23 #[.pointer (some ⟨g, 0, none⟩), .int .i64 v] w fun e w' => e = .returned (.bool (isVar z.length v)) ∧ ∃ ρ' z' s' b', St14 w' B ρ' g z' (empties k) s' b' ∧ Below B w w' ∧ z'.length = z.length ∧ b'.flips ≤ b.flips + 1 ∧ b'.fewest = k ∧ b'.of z' = b.of z := by
  refine (st_flip h hfl v hv).mono ?_
  rintro e w' ⟨rfl, ρ', s', b', hst, hs, hy, hn⟩
  refine ⟨rfl, ρ', turnI z v, s', b', hst, h.frame hs, turnI_len z v, ?_⟩
  have hr := emp_row hst.good hst.cls
  rcases hc : isVar z.length v with _ | _
  · obtain ⟨rfl, rfl⟩ := hn hc
    have ht : turnI z v = z := if_neg (of_decide_eq_false hc)
    rw [ht]
    exact ⟨by omega, hf, rfl⟩
  · obtain ⟨h1, h2, h3⟩ := hy hc
    rw [hr, hf, if_neg (by omega)] at h2
    rw [hr, hf, if_neg (by omega)] at h3
    exact ⟨by omega, h2, h3⟩
theorem emp_unsat {w : World} {B g k : Nat} {ρ : Nat → Nat} {z : List Bool} {s : LS} {b : BS} (h : St14 w B ρ g z (empties k) s b) :
    Calls Try.prog 26 #[.pointer (some ⟨g, 0, none⟩)] w fun e w' => e = .returned (.int .i64 (k : Nat)) ∧ w = w' := by
  have := st_unsat h
  rw [emp_row h.good h.cls] at this
  exact this
theorem emp_clauses {w : World} {B g k : Nat} {ρ : Nat → Nat} {z : List Bool} {s : LS} {b : BS} (h : St14 w B ρ g z (empties k) s b) :
    Calls Try.prog 34 #[.pointer (some ⟨g, 0, none⟩)] w fun e w' => e = .returned (.int .i64 (k : Nat)) ∧ w = w' := by
  have := st_clauses h
  rw [emp_len] at this
  exact this
theorem emp_break {w : World} {B g k : Nat} {ρ : Nat → Nat} {z : List Bool} {s : LS} {b : BS} (h : St14 w B ρ g z (empties k) s b) (v : Int) (hv : -9223372036854775808 ≤ v ∧ v ≤ 9223372036854775807) :
    Calls Try.prog 28 #[.pointer (some ⟨g, 0, none⟩), .int .i64 v] w fun e w' => e = .returned (.int .i64 0) ∧ w = w' := by
  have := st_break h v hv
  have e0 : breakI s z.length v = 0 := by
    unfold breakI
    split
    · exact emp_brk h.good h.cls _
    · rfl
  rw [e0] at this
  exact this
theorem emp_makes {w : World} {B g k : Nat} {ρ : Nat → Nat} {z : List Bool} {s : LS} {b : BS} (h : St14 w B ρ g z (empties k) s b) (v : Int) (hv : -9223372036854775808 ≤ v ∧ v ≤ 9223372036854775807) :
    Calls Try.prog 29 #[.pointer (some ⟨g, 0, none⟩), .int .i64 v] w fun e w' => e = .returned (.int .i64 0) ∧ ∃ m, w' = w.drewN m := by
  have := st_make h v hv
  have e0 : makeI s z v = 0 := by
    unfold makeI
    split
    · exact emp_make h.good h.cls _ _
    · rfl
  rw [e0] at this
  exact this
end Go.Proofs.Ytbejjddkndcldaa
