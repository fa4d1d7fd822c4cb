/- Swap and Add. -/
import Derived.Test.YtnjcegjcaaplgaaArena3
import Derived.ChangeAlike
namespace Go.Proofs.Ytnjcegjcaaplgaa
open Go.RowKit

section
variable {w : World} {base g b : Nat} {gw : Option Nat} {lim : Int} {cs : List Cl}

/-- the literals with two exchanged -/
def swapOf (xs : List Int) (i k : Nat) : List Int := (xs.set i (xs.getD k 0)).set k (xs.getD i 0)
theorem swapOf_length (xs : List Int) (i k : Nat) : (swapOf xs i k).length = xs.length := by simp [swapOf]

set_option maxRecDepth 100000 in
theorem swap_yes (pre post : List Cl) (cl : Cl) (h : Ar w base g b gw lim (pre ++ cl :: post)) (ha : cl.alive = true) (ht : total (pre ++ cl :: post) ≤ 1099511627776) (i k : Nat) (hi : i < cl.lits.length) (hk : k < cl.lits.length) :
    Calls Try.prog 21 #[.pointer (some ⟨g, 0, none⟩), .int .i64 (total pre), .int .i64 i, .int .i64 k] w fun e w' => e = .returned (.bool true) ∧ Ar w' base g b gw lim (pre ++ { cl with lits := swapOf cl.lits i k } :: post) ∧ Turn w w' g b gw := by
  have HN := Lib.hid (stored_yes pre post cl h ha ht)
  have H := Lib.hid h
  have hle := size_le_total pre post cl
  have hsz : cl.size = cl.lits.length + 3 := rfl
  have hn : cl.lits.length ≤ 1099511627776 := by omega
  have hp9 : total pre ≤ 1099511627776 := by omega
  have fin : ∀ (w1 w2 : World) (gg : Nat), Below w.heap.size w w1 → gw = some gg → w2 = (w1.setCell ⟨gg, total pre + 3 + i, none⟩ (.int .i64 (cl.lits.getD k 0))).setCell ⟨gg, total pre + 3 + k, none⟩ (.int .i64 (cl.lits.getD i 0)) →
      Ar w2 base g b gw lim (pre ++ { cl with lits := swapOf cl.lits i k } :: post) ∧ Turn w w2 g b gw := by
    rintro w1 w2 gg hb hg rfl
    obtain ⟨a1, t1⟩ := (h.below hb).set_word pre post cl { cl with lits := cl.lits.set i (cl.lits.getD k 0) } hg (j := 3 + i) (u := cl.lits.getD k 0) (by unfold Cl.size; omega) (by simp [Cl.words, Cl.head, show 3 + i = i + 3 by omega]) rfl
    obtain ⟨a2, t2⟩ := a1.set_word pre post _ { cl with lits := swapOf cl.lits i k } hg (j := 3 + k) (u := cl.lits.getD i 0) (by simp [Cl.size]; omega) (by simp [Cl.words, Cl.head, swapOf, show 3 + k = k + 3 by omega]) rfl
    rw [show total pre + 3 + i = total pre + (3 + i) by omega, show total pre + 3 + k = total pre + (3 + k) by omega]
    exact ⟨a2, ((Turn.of_below hb).trans t1 (.inl rfl)).trans t2 (.inl rfl)⟩
  have hne : cl.lits.length ≠ 0 := by omega
  rw [if_neg hne] at HN
  have FIN := Lib.hid fin
  obtain ⟨p, hp⟩ : ∃ p, p = total pre := ⟨_, rfl⟩
  obtain ⟨n, hn'⟩ : ∃ n, n = cl.lits.length := ⟨_, rfl⟩
  have HI := Lib.hid (And.intro hi hk)
  rw [← hn'] at hn hi hk
  rw [← hp] at hp9 FIN ⊢
  rw [← hp, ← hn'] at HN
  have HP := Lib.hid hp
  clear h ha ht hp hn' hle hsz fin hne
  go_enter Try.func21, Try.ntmps21
  go_wp2_with fail
  refine HN.out.mono ?_
  rintro e w1 ⟨⟨gg, hg, rfl⟩, hb⟩
  have h1 := H.out.below hb
  obtain ⟨ci, fi⟩ := h1.lit pre post cl hg HI.out.1
  obtain ⟨ck, fk⟩ := h1.lit pre post cl hg HI.out.2
  rw [← HP.out] at ci fi ck fk
  have FW := Lib.hid (fun w2 => FIN.out w1 w2 gg hb hg)
  obtain ⟨li, hli⟩ : ∃ li, li = cl.lits.getD i 0 := ⟨_, rfl⟩
  obtain ⟨lk, hlk⟩ : ∃ lk, lk = cl.lits.getD k 0 := ⟨_, rfl⟩
  rw [← hli] at ci FW
  rw [← hlk] at ck FW
  have i1 : (0 : Int) ≤ (i : Int) := by omega
  have i2 : (i : Int) < (n : Int) := by omega
  have i3 : (0 : Int) ≤ (k : Int) := by omega
  have i4 : (k : Int) < (n : Int) := by omega
  have ck2 : (w1.setCell ⟨gg, p + 3 + i, none⟩ (.int .i64 lk)).cell? ⟨gg, p + 3 + k, none⟩ = some (.int .i64 lk) := by
    by_cases e : i = k
    · subst e; exact World.cell?_setCell_same' _ _ _ (by rw [ci]; rfl)
    · rw [World.cell?_setCell_other _ _ _ _ (by intro e'; injection e'; omega)]; exact ck
  have fk2 : (w1.setCell ⟨gg, p + 3 + i, none⟩ (.int .i64 lk)).frozen? ⟨gg, p + 3 + k, none⟩ = false := by rw [World.frozen?_setCell]; exact fk
  have LL := Lib.hid (show i = k → li = lk from fun e => by rw [hli, hlk, e])
  clear hg hb h1 hli hlk
  rcases Nat.lt_trichotomy i k with hik | hik | hik
  all_goals first | (subst hik; clear fk ck; obtain rfl := LL.out rfl) | skip
  all_goals
    go_wp2_with fail
    go_region
    all_goals go_wp2
    all_goals go_ret
    all_goals exact ⟨rfl, (FW.out _ rfl).1.drew, (FW.out _ rfl).2.drew⟩
end
end Go.Proofs.Ytnjcegjcaaplgaa
