/- The statements' own small functions: least, whether a literal is there. -/
import Derived.Test.YtnjcegjcaaplgaaModel05
namespace Go.Proofs.Ytnjcegjcaaplgaa
open Go.RowKit
set_option linter.unusedVariables false
set_option linter.unusedSimpArgs false

theorem least05_any (n : Int) (w : World) : Calls Try.prog 23 #[.int .i64 n] w fun e w' => e = .returned (.int .i64 (least n)) ∧ w = w' := by
  have e0 : n ≤ 0 → least n = 0 := by unfold least; omega
  have e1 : 2147483647 < n → least n = 2147483647 := by unfold least; omega
  have e2 : 0 < n → n ≤ 2147483647 → least n = n := by unfold least; omega
  by_cases h1 : 2147483647 < n
  · rw [e1 h1]
    clear e0 e1 e2
    go_enter Try.func23, Try.ntmps23
    go_wp2
    go_ret
    exact ⟨rfl, rfl⟩
  · by_cases h2 : 0 < n
    · rw [e2 h2 (by omega)]
      clear e0 e1 e2
      go_enter Try.func23, Try.ntmps23
      go_wp2
      go_ret
      exact ⟨rfl, rfl⟩
    · rw [e0 (by omega)]
      clear e0 e1 e2
      by_cases h3 : n = 0
      · subst h3
        clear h1 h2
        go_enter Try.func23, Try.ntmps23
        go_wp2
        go_ret
        exact ⟨rfl, rfl⟩
      · have h4 : n < 0 := by omega
        have h5 : ¬ (0 ≤ n) := by omega
        clear h1 h2 h3
        go_enter Try.func23, Try.ntmps23
        go_wp2
        go_ret
        exact ⟨rfl, rfl⟩

theorem in_any (cb p L n : Nat) (s n1 n2 i : Int) (lr gn : Bool) (w : World) (hc : Blk w cb 34 #[.pointer (some ⟨p, 0, none⟩)]) (hp : Blk w p 36 #[.int .i64 s, .int .i64 n1, .int .i64 n2, .slice (some ⟨L, 0, none⟩) n n, .bool lr, .bool gn]) :
    Calls Try.prog 20 #[.int .i64 i, .pointer (some ⟨cb, 0, none⟩)] w fun e w' => e = .returned (.bool (!gn && decide (0 ≤ i ∧ i < (n : Int)))) ∧ w = w' := by
  have c0 := hc.cell 0
  have p3 := hp.cell 3
  have p5 := hp.cell 5
  simp at c0 p3 p5
  clear hc hp
  cases gn with
  | true =>
    go_enter Try.func20, Try.ntmps20
    go_wp2
    go_ret
    exact ⟨rfl, rfl⟩
  | false =>
    by_cases h0 : 0 ≤ i
    · by_cases h1 : i < (n : Int)
      · rw [show (!false && decide (0 ≤ i ∧ i < (n : Int))) = true by simp [h0, h1]]
        go_enter Try.func20, Try.ntmps20
        go_wp2
        go_ret
        exact ⟨rfl, rfl⟩
      · rw [show (!false && decide (0 ≤ i ∧ i < (n : Int))) = false by simp [h1]]
        go_enter Try.func20, Try.ntmps20
        go_wp2
        go_ret
        exact ⟨rfl, rfl⟩
    · rw [show (!false && decide (0 ≤ i ∧ i < (n : Int))) = false by simp [h0]]
      go_enter Try.func20, Try.ntmps20
      go_wp2
      go_ret
      exact ⟨rfl, rfl⟩

theorem low3 {k : Nat} (hk : k ≤ 255) : bits BinOp.and IntKind.u8 (k : Int) 7 = ((k % 8 : Nat) : Int) := by
  have h : ∀ j : Fin 256, bits BinOp.and IntKind.u8 (j.1 : Int) 7 = ((j.1 % 8 : Nat) : Int) := by decide +kernel
  exact h ⟨k, by omega⟩

theorem Turn.blk {w w' : World} {base g b q : Nat} {gw : Option Nat} {lim : Int} {cs : List Cl} {t : TypeId} {X : Array Value} (ht : Turn w w' g b gw) (ha : Ar w base g b gw lim cs) (hb : Blk w q t X) (h1 : t ≠ 3) (h3 : t ≠ 53) : Blk w' q t X := by
  obtain ⟨A, c, hk, hown, hgw⟩ := ha.ex
  obtain ⟨M, n, hm, _⟩ := ha.map
  exact (ht.block q hb.lt (hb.ne_ hk h3) (blk_map_ne hb hm) (hgw ▸ own_blk_ne hown hb (Ne.symm h1))).trans hb
end Go.Proofs.Ytnjcegjcaaplgaa
