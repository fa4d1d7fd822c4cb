/- What stands between two words: the closure. -/
import Derived.Test.YteolgfakhkeedaaDoorBack03
import Derived.Test.YteolgfakhkeedaaDoorBlanksMath
namespace Go.Proofs.YteolgfakhkeedaaDoor
open Go.RowKit
set_option linter.unusedSimpArgs false
set_option linter.unusedVariables false
set_option linter.unnecessarySimpa false

/-- which gap -/
def gapNo (gs : List Int) (k : Nat) : Nat := (gs.getD k 0).toNat % 6

set_option maxRecDepth 100000 in
set_option maxHeartbeats 4000000 in
theorem gap_any (bk bg B : Nat) (gs : List Int) (Ag : Option Addr) (cg k : Nat) (w : World) (hk : Blk w bk 3 #[.int .i64 k]) (hg : Blk w bg 38 #[.slice Ag gs.length cg]) (hne : bg < bk) (h : KInts .u8 w B Ag gs) (hB : B ≤ bk)
    (hgb : ∀ j, 0 ≤ gs.getD j 0 ∧ gs.getD j 0 ≤ 255) (hk1 : k ≤ 1000000) (hgl : gs.length ≤ 1000000) :
    Calls Tryd.prog 14 #[.pointer (some ⟨bk, 0, none⟩), .pointer (some ⟨bg, 0, none⟩)] w fun e w' => e = .returned (.string ⟨(gapText (gapNo gs k)).toArray⟩) ∧ Blk w' bk 3 #[.int .i64 ((k + 1 : Nat) : Int)] ∧ Below bk w w' := by
  have k0 := hk.cell 0
  have g0 := hg.cell 0
  have kf := hk.frozen 0
  simp at k0 g0 kf
  have hlk := hk.lt
  have hlg := hg.lt
  obtain ⟨hv0, hv1⟩ := hgb k
  obtain ⟨gv, hgv⟩ : ∃ gv : Nat, gs.getD k 0 = gv := ⟨(gs.getD k 0).toNat, by omega⟩
  have hno : gapNo gs k = gv % 6 := by unfold gapNo; rw [hgv]; simp
  rw [hno]
  have hq6 : gv % 6 < 6 := by omega
  obtain ⟨wk, hwk⟩ : ∃ wk, wk = w.setCell ⟨bk, 0, none⟩ (.int .i64 ((k : Int) + 1)) := ⟨_, rfl⟩
  have hks := hk.set_ 0 (.int .i64 ((k : Int) + 1))
  have hbs : Below bk w wk := by rw [hwk]; exact (Below.refl _ _).setCell (by simp) _
  obtain ⟨wa, hwa⟩ : ∃ wa, wa = wk.alloc (.cells #[.string ⟨#[32]⟩, .string ⟨#[10]⟩, .string ⟨#[9]⟩, .string ⟨#[32, 32, 9, 32]⟩, .string ⟨#[10, 99, 99, 32, 49, 32, 50, 32, 48, 10]⟩, .string ⟨#[10, 10]⟩] 9) := ⟨_, rfl⟩
  have hsz : wk.heap.size = w.heap.size := by rw [hwk]; simp
  have hba : Below bk w wa := by rw [hwa]; exact hbs.alloc (by rw [hsz]; omega) _
  rw [← hwk] at hks
  have hka : Blk wa bk 3 #[.int .i64 ((k + 1 : Nat) : Int)] := by
    rw [hwa]
    have := hks.alloc (.cells #[.string ⟨#[32]⟩, .string ⟨#[10]⟩, .string ⟨#[9]⟩, .string ⟨#[32, 32, 9, 32]⟩, .string ⟨#[10, 99, 99, 32, 49, 32, 50, 32, 48, 10]⟩, .string ⟨#[10, 10]⟩] 9)
    simpa using this
  have c1 : wa.cell? ⟨w.heap.size, gv % 6, none⟩ = some (.string ⟨(gapText (gv % 6)).toArray⟩) := by
    rw [hwa, ← hsz]
    generalize gv % 6 = p at hq6
    rcases p with _ | _ | _ | _ | _ | _ | p <;> first | omega | simp [gapText]
  rw [hwa, hwk] at c1
  have HKA := Lib.hid hka
  have HBA := Lib.hid hba
  have HWK := Lib.hid hwk
  have HWA := Lib.hid hwa
  have HGT := Lib.hid hgb
  generalize hgt : gapText (gv % 6) = gt at c1
  have hgv6 : gv ≤ 255 := by omega
  clear hgt hwk hwa hks hbs hsz hba hka hno hgb hv0 hv1
  by_cases hlt : k < gs.length
  · obtain ⟨b, off, rfl, hb, hck⟩ := h.at_ hlt
    rw [hgv] at hck
    clear h hgv
    go_enter Tryd.func14, Tryd.ntmps14
    go_wp2
    go_ret
    rw [← HWK.out, ← HWA.out]
    exact ⟨rfl, HKA.out, HBA.out⟩
  · have hd : gs.getD k 0 = 0 := by rw [List.getD, List.getElem?_eq_none (by omega)]; rfl
    obtain rfl : gv = 0 := by omega
    clear h hgv hd
    go_enter Tryd.func14, Tryd.ntmps14
    go_wp2
    go_ret
    rw [← HWK.out, ← HWA.out]
    exact ⟨rfl, HKA.out, HBA.out⟩
end Go.Proofs.YteolgfakhkeedaaDoor
