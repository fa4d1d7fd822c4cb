/- From what a row lists to what a walk of the checker needs of its world; raw arguments as plain numbers. -/
import Derived.Test.YthcpfaahcncfjaaGreatDoorDoor6
import Derived.Test.YthcpfaahcncfjaaGreatDoorOpenInts
import Derived.Test.YthcpfaahcncfjaaGreatDoorOpen
import Derived.Test.YthcpfaahcncfjaaGreatDoorKey07
namespace Go.Proofs.YthcpfaahcncfjaaGreatDoor
open Go.ChangeShapes Go.WideShapes Go.ChangeAt Go.RowKit Go.Deep
set_option linter.unusedVariables false

theorem raw_nat7 {u : Int} (h : (Lit.int .u8 u).wf = true) : ∃ v : Nat, u = v ∧ v ≤ 255 := by
  have := bounds_u8 h
  exact ⟨u.toNat, by omega, by omega⟩
theorem raw_rows7 {nss : List (List Int)} (m : ∀ j, (nss.getD j []).length * 2 ≤ 140737488351232) (h : ∀ j i, (Lit.int .i16 ((nss.getD j []).getD i 0)).wf = true) :
    (∀ j, (nss.getD j []).length ≤ 140737488355328) ∧ ∀ j k, -32768 ≤ (nss.getD j []).getD k 0 ∧ (nss.getD j []).getD k 0 ≤ 32767 :=
  ⟨fun j => by have := m j; omega, fun j k => by have := bounds_i16 (h j k); omega⟩
theorem raw_ints7 {ns : List Int} (h : ∀ j, (Lit.int .i16 (ns.getD j 0)).wf = true) : ∀ k, -32768 ≤ ns.getD k 0 ∧ ns.getD k 0 ≤ 32767 := fun k => by have := bounds_i16 (h k); omega

/-- a slice of numbers that came in, and how much there may be of it -/
theorem isSz7_of {H : Type} {enc : TypeId × Value → H} {P : Program} {W : World} {t e : TypeId} {k : IntKind} {r : Reach} {base bytes : Nat} {v : Value} {d : DataW H} {p : List MemPlace}
    (ht : P.underlying t = some (.slice e)) (he : P.underlying e = some (.int k)) (hc : P.cellsOf e = 1) (hby : P.bytesOf e = bytes) (hv : Value.okWide P W r base t v)
    (h : DataW.Trod enc P W 0 (fun _ => true) true t v d p) (hs : Sz P t d) : ∃ a len cap z, v = .slice a len cap ∧ IsInts k W a len cap z ∧ cap * bytes ≤ 140737488351232 := by
  obtain ⟨a, len, cap, z, rfl, hi⟩ := isInts_of ht he hc hv h
  refine ⟨a, len, cap, z, rfl, hi, ?_⟩
  obtain ⟨fuel, hf⟩ := h
  rcases open_ints ht he hc hf with ⟨hcs, hx⟩ | ⟨x, l, c, zs, hcs, hb, hl, hm, hz, hx, hcell, hwz⟩
  · simp [Value.cells] at hcs
    obtain ⟨rfl, rfl, rfl⟩ := hcs
    simp
  · simp [Value.cells] at hcs
    obtain ⟨rfl, rfl, rfl⟩ := hcs
    simp only [if_true] at hz
    simp only [Prod.mk.injEq] at hx
    obtain ⟨rfl, rfl⟩ := hx
    have := (sz_slice hs ht).1
    rw [hby, show reachBytes = 140737488351232 by decide] at this
    simp only [lits, List.length_map, List.length_take, List.length_drop, hz] at this
    rw [show min len cap + (cap - len) = cap by omega] at this
    exact this
theorem kints7_of {H : Type} {enc : TypeId × Value → H} {P : Program} {W : World} {t e : TypeId} {r : Reach} {base : Nat} {v : Value} {d : DataW H} {p : List MemPlace}
    (ht : P.underlying t = some (.slice e)) (he : P.underlying e = some (.int .i16)) (hc : P.cellsOf e = 1) (hby : P.bytesOf e = 2) (hv : Value.okWide P W r base t v)
    (h : DataW.Trod enc P W 0 (fun _ => true) true t v d p) (hs : Sz P t d) : ∃ (A : Option Addr) (c : Nat) (ns : List Int), v = .slice A ns.length c ∧ ns.length ≤ 70368744175616 ∧ (∀ j, (Lit.int .i16 (ns.getD j 0)).wf = true) ∧ KInts .i16 W W.heap.size A ns := by
  obtain ⟨A, c, ns, rfl, h1, h2, h3⟩ := kints_of ht he hc hv h
  obtain ⟨a, len, cap, z, hv2, h4, h5⟩ := isSz7_of ht he hc hby hv h hs
  have h6 := h4.1
  injection hv2 with _ e2 e3
  exact ⟨A, c, ns, rfl, by omega, h2, h3⟩

theorem tab_name8 : Tryz.prog.globalNamed "internal/strconv.uint64pow10" = some 1 := by kernel_rfl

theorem tab7_of {W : World} (hT : Lib.VarReads Tryz.prog W "internal/strconv.uint64pow10" (Lib.tabData .u64 Lib.pow10Tab)) : Tab7 W :=
  tabIs_of_reads tab_name8 (show (Tryz.prog.globals[1]?).map (·.type) = some 170 by kernel_rfl) Tryz.underlying170 Tryz.underlying149 (by kernel_rfl) (by kernel_rfl) hT
end Go.Proofs.YthcpfaahcncfjaaGreatDoor
