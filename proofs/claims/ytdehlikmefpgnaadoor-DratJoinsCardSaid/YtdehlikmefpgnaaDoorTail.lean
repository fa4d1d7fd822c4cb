/- The tail of a slice: s[m:], s nil or not. No program is named here. -/
import Derived.Test.YtdehlikmefpgnaaDoorDratMem
namespace Go.Proofs.YtdehlikmefpgnaaDoor
open Go.RowKit
set_option linter.unusedSimpArgs false
set_option linter.unusedVariables false

/-- where s[m:] begins -/
def tailAddr (a : Option Addr) (c m : Nat) : Option Addr := if c = m then a else a.map (·.add m)
theorem run_slice_tail {P : Program} (t e : TypeId) (i : TypeInfo) (ht : P.underlying t = some (.slice e)) (hi : P.info? e = some i) (hsz : i.size = 1) (a : Option Addr) (n c m : Nat) (j : Int) (hj : j = m) (h1 : m ≤ n) (w : World) :
    (Instr.slice t (.slice a n c) (some (.int .i64 j)) none none).run P w = .ok (.slice (tailAddr a c m) (n - m) (c - m)) w := by
  subst hj
  have e2 : ∀ code, (Instr.sliceBound (.int .i64 (m : Int)) n code).run P w = .ok m w := fun code => by
    have h1 : (0 : Int) ≤ m ∧ (m : Int) ≤ n := by omega
    simp [Instr.sliceBound, asIntOf, h1, go_sem]
    try omega
  unfold tailAddr
  by_cases hc : c = m <;> simp [Instr.slice, run_underlying ht, Instr.sliceBounds, e2, sizeOf, typeInfo, hi, hsz, hc, go_sem]
theorem Cells.tail {w : World} {B n c m : Nat} {A : Option Addr} {f : Nat → Value} (h : Cells w B A n f) (hm : m ≤ n) (hc : n ≤ c) : Cells w B (tailAddr A c m) (n - m) (fun j => f (m + j)) := fun hn => by
  obtain ⟨b, off, rfl, hb, hcell⟩ := h (by omega)
  refine ⟨b, off + m, ?_, hb, fun j hj => ?_⟩
  · unfold tailAddr; rw [if_neg (by omega)]; simp [Addr.add]
  · rw [Nat.add_assoc]; exact hcell (m + j) (by omega)
theorem Bytes.tail {w : World} {B c m : Nat} {A : Option Addr} {bs : List UInt8} (h : Bytes w B A bs) (hm : m ≤ bs.length) (hc : bs.length ≤ c) : Bytes w B (tailAddr A c m) (bs.drop m) := by
  have := Cells.tail h hm hc
  unfold Bytes
  rw [List.length_drop]
  refine this.congr fun j hj => ?_
  simp [List.getD]
end Go.Proofs.YtdehlikmefpgnaaDoor
