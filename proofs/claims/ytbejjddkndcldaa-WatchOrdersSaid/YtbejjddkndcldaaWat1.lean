/- What the propagator's own calls do: search, watch. -/
import Derived.Test.YtbejjddkndcldaaWatMem
import Derived.Shelf.SlSortCmp.QuietGrown
namespace Go.Proofs.Ytbejjddkndcldaa
open Go.RowKit
set_option linter.unusedVariables false
set_option linter.unusedSimpArgs false

def srchN (t : TS) (ls : List Int) : Nat → Nat → Int
  | 0, _ => -1
  | n + 1, i => if 0 ≤ valT t.recs (ls.getD i 0) then (i : Int) else srchN t ls n (i + 1)
def srch (t : TS) (ls : List Int) (i k : Nat) : Int := srchN t ls (k - i) i
theorem srch_end {t : TS} {ls : List Int} {i k : Nat} (h : k ≤ i) : srch t ls i k = -1 := by unfold srch; rw [show k - i = 0 by omega]; rfl
theorem srch_hit {t : TS} {ls : List Int} {i k : Nat} (h : i < k) (hv : 0 ≤ valT t.recs (ls.getD i 0)) : srch t ls i k = i := by
  unfold srch; rw [show k - i = (k - (i + 1)) + 1 by omega]; unfold srchN; rw [if_pos hv]
theorem srch_miss {t : TS} {ls : List Int} {i k : Nat} (h : i < k) (hv : ¬ 0 ≤ valT t.recs (ls.getD i 0)) : srch t ls i k = srch t ls (i + 1) k := by
  unfold srch; rw [show k - i = (k - (i + 1)) + 1 by omega]; conv => lhs; unfold srchN
  rw [if_neg hv]
theorem srch_spec (t : TS) (ls : List Int) (k : Nat) : ∀ (n i : Nat), k - i = n → (srch t ls i k = -1 ∧ ∀ j, i ≤ j → j < k → valT t.recs (ls.getD j 0) < 0) ∨ ∃ j : Nat, srch t ls i k = j ∧ i ≤ j ∧ j < k ∧ 0 ≤ valT t.recs (ls.getD j 0)
  | 0, i, h => .inl ⟨srch_end (by omega), fun j h1 h2 => by omega⟩
  | n + 1, i, h => by
    by_cases hv : 0 ≤ valT t.recs (ls.getD i 0)
    · exact .inr ⟨i, srch_hit (by omega) hv, Nat.le_refl _, by omega, hv⟩
    · rw [srch_miss (by omega) hv]
      rcases srch_spec t ls k n (i + 1) (by omega) with ⟨h1, h2⟩ | ⟨j, h1, h2, h3, h4⟩
      · refine .inl ⟨h1, fun j h3 h4 => ?_⟩
        by_cases e : j = i
        · subst e; omega
        · exact h2 j (by omega) h4
      · exact .inr ⟨j, h1, by omega, h3, h4⟩

section
variable {w : World} {base : Nat} {px : Px} {N : Nat} {G : Nat → Prop} {cs : List Cl} {t : TS} {s : WS} {hd : Nat → Value}
theorem grow_gr (w : World) (n : Nat) (os : Array Obj) : Gr w (Go.Sort.grow (w.drewN n) os) := ⟨n, os, rfl⟩
/-- what the struct's cells read, in all worlds that grow out of this one -/
theorem Ob.cell (h : Ob w base px N G cs t s hd) (n : Nat) (os : Array Obj) : (Go.Sort.grow (w.drewN n) os).cell? ⟨px.gW, 0, none⟩ = some (.pointer (some ⟨px.gA, 0, none⟩)) ∧ (Go.Sort.grow (w.drewN n) os).cell? ⟨px.gW, 1, none⟩ = some (.pointer (some ⟨px.gT, 0, none⟩)) := by
  obtain ⟨FW, hw⟩ := (h.gr (grow_gr w n os)).wm
  exact ⟨hw.cells.1.1, hw.cells.1.2.1⟩

theorem lit_bd {ls : List Int} (hl : ∀ x ∈ ls, x ≠ 0 ∧ x.natAbs ≤ N) (hN : N ≤ 100000) (j : Nat) : -100000 ≤ ls.getD j 0 ∧ ls.getD j 0 ≤ 100000 := by
  rcases Nat.lt_or_ge j ls.length with h | h
  · have := hl _ (get_mem h); omega
  · rw [List.getD, List.getElem?_eq_none h]; simp

set_option maxHeartbeats 1000000 in
theorem search_any (h : Ob w base px N G cs t s hd) (hg : t.Good) {r : Int} {cl : Cl} (hc : at? cs r = some cl) (ht : total cs ≤ 1099511627776) (hN : N ≤ 100000) (hl : ∀ x ∈ cl.lits, x ≠ 0 ∧ x.natAbs ≤ N) (i k : Nat) (hi : i ≤ 1099511627776) (hk : k ≤ 1099511627776) :
    Calls Try.prog 94 #[.pointer (some ⟨px.gW, 0, none⟩), .int .i64 r, .int .i64 i, .int .i64 k] w fun e w' => e = .returned (.int .i64 (srch t cl.lits i k)) ∧ Gr w w' := by
  have H := Lib.hid h
  have HC := Lib.hid hc
  have HL := Lib.hid hl
  have HG := Lib.hid hg
  clear h hc hl hg
  go_enter Try.func94, Try.ntmps94
  go_wp2_with fail
  go_loopg [9] (k - i + 1) (fun gk iv wr => ∃ j : Nat, i ≤ j ∧ j ≤ 1099511627776 ∧ gk = k - j + 1 ∧ iv = .int .i64 j ∧ Hid (Gr w wr) ∧ Hid (srch t cl.lits i k = srch t cl.lits j k))
  case atStart => exact ⟨i, Nat.le_refl _, hi, by omega, rfl, Lib.hid (Gr.refl w), Lib.hid rfl⟩
  case round =>
    obtain ⟨j, hij, hj, rfl, rfl, HR, HS⟩ := hrel
    by_cases hlt : j < k
    · have hob := H.out.gr HR.out
      have f0 := fun n os => (hob.cell n os).1
      have f1 := fun n os => (hob.cell n os).2
      have hbd := lit_bd HL.out hN j
      have CL := Lib.hid (fun n os => lit_at (hob.gr (grow_gr wr n os)).ar HC.out ht (j : Int))
      have hv : (if (j : Int) < 0 then (0 : Int) else cl.lits.getD (j : Int).toNat 0) = cl.lits.getD j 0 := by rw [if_neg (by omega), Int.toNat_natCast]
      rw [hv] at CL
      have hsr := fun hv => srch_hit (t := t) (ls := cl.lits) hlt hv
      have hsm := fun hv => srch_miss (t := t) (ls := cl.lits) hlt hv
      obtain ⟨x, hx⟩ : ∃ x, cl.lits.getD j 0 = x := ⟨_, rfl⟩
      rw [hx] at CL hbd hsr hsm
      have CV := Lib.hid (fun n os => gr_drew (value_any ((hob.gr (grow_gr wr n os)).tr HG.out) x (by omega)))
      obtain ⟨z, hz⟩ : ∃ z, valT t.recs x = z := ⟨_, rfl⟩
      rw [hz] at CV hsr hsm
      have HSR := Lib.hid (And.intro hsr hsm)
      clear hv hx hz hsr hsm hob
      by_cases hz0 : 0 ≤ z
      · go_wp2_with fail
        refine wp_region_quiet_grown (by kernel_rfl) (by kernel_rfl) ?_
        repeat (go_big_quiet_step (first
          | (go_at_call 71; with_reducible exact Calls.grown_of (CL.out _ _))
          | (go_at_call 37; with_reducible exact Calls.grown_of (CV.out _ _))))
        refine wpQuiet_nil ?_
        rintro _ ⟨⟨nq, osq⟩, rfl⟩
        go_wp2
        go_ret
        exact ⟨by rw [HS.out, HSR.out.1 hz0]; rfl, HR.out.trans ⟨nq, osq, rfl⟩⟩
      · go_wp2_with fail
        refine wp_region_quiet_grown (by kernel_rfl) (by kernel_rfl) ?_
        repeat (go_big_quiet_step (first
          | (go_at_call 71; with_reducible exact Calls.grown_of (CL.out _ _))
          | (go_at_call 37; with_reducible exact Calls.grown_of (CV.out _ _))))
        refine wpQuiet_nil ?_
        rintro _ ⟨⟨nq, osq⟩, rfl⟩
        go_wp2_with fail
        go_roundg (k - j)
        case measure => omega
        case rel => exact ⟨j + 1, by omega, by omega, by omega, by go_num, Lib.hid (HR.out.trans ⟨nq, osq, rfl⟩), Lib.hid (by rw [HS.out, HSR.out.2 hz0])⟩
    · go_wp2
      go_ret
      exact ⟨by rw [HS.out, srch_end (by omega)]; rfl, HR.out⟩
end
end Go.Proofs.Ytbejjddkndcldaa
