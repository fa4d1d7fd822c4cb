/- Memory that reads as lists: rows of ints, of bools, rows of rows. No program is named here. -/
import Derived.WalkKit
import Derived.Lib.Hide
import Derived.Deep.Draws
import Derived.Deep.QuietTactic
import Derived.BigQuiet
namespace Go.Proofs.Ytnimmlfccgnneaa
open Go.RowKit

/-- the slice that begins at A reads as these cells; it lies below block B -/
def Cells (w : World) (B : Nat) (A : Option Addr) (n : Nat) (f : Nat → Value) : Prop :=
  0 < n → ∃ b off, A = some ⟨b, off, none⟩ ∧ b < B ∧ ∀ j, j < n → w.cell? ⟨b, off + j, none⟩ = some (f j)

section
variable {w w' : World} {B B' n : Nat} {A : Option Addr} {f : Nat → Value}
theorem Cells.nil_ : Cells w B A 0 f := fun h => absurd h (by omega)
theorem Cells.at_ {k : Nat} (h : Cells w B A n f) (hk : k < n) : ∃ b off, A = some ⟨b, off, none⟩ ∧ b < B ∧ w.cell? ⟨b, off + k, none⟩ = some (f k) := by
  obtain ⟨b, off, e, hb, hc⟩ := h (by omega)
  exact ⟨b, off, e, hb, hc k hk⟩
theorem Cells.keep (h : Cells w B A n f) (hk : ∀ p : Addr, p.block < B → w'.cell? p = w.cell? p) : Cells w' B A n f := fun hn => by
  obtain ⟨b, off, e, hb, hc⟩ := h hn
  exact ⟨b, off, e, hb, fun j hj => (hk _ hb).trans (hc j hj)⟩
theorem Cells.more (h : Cells w B A n f) (hB : B ≤ B') : Cells w B' A n f := fun hn => by
  obtain ⟨b, off, e, hb, hc⟩ := h hn
  exact ⟨b, off, e, by omega, hc⟩
theorem Cells.below (h : Cells w B A n f) (hb : Below B w w') : Cells w' B A n f := h.keep fun _ hp => hb.cell hp
theorem Cells.alloc (h : Cells w B A n f) (hB : B ≤ w.heap.size) (o : Obj) : Cells (w.alloc o) B A n f := h.keep fun p hp => World.cell?_alloc_lt w o p (by omega)
theorem Cells.setCell (h : Cells w B A n f) {p : Addr} (hB : B ≤ p.block) (u : Value) : Cells (w.setCell p u) B A n f :=
  h.keep fun q hq => World.cell?_setCell_other w p q u (fun e => by subst e; omega)
theorem Cells.drewN (h : Cells w B A n f) (k : Nat) : Cells (w.drewN k) B A n f := h
theorem Cells.congr {g : Nat → Value} (h : Cells w B A n f) (e : ∀ j, j < n → f j = g j) : Cells w B A n g := fun hn => by
  obtain ⟨b, off, e', hb, hc⟩ := h hn
  exact ⟨b, off, e', hb, fun j hj => by rw [hc j hj, e j hj]⟩
end

/-- a row of ints that reads as a list -/
def Ints (w : World) (B : Nat) (A : Option Addr) (xs : List Int) : Prop := Cells w B A xs.length fun j => .int .i64 (xs.getD j 0)
/-- a row of bools that reads as a list -/
def Bools (w : World) (B : Nat) (A : Option Addr) (zs : List Bool) : Prop := Cells w B A zs.length fun j => .bool (zs.getD j false)
/-- a row of rows of ints -/
def Rows (w : World) (B : Nat) (A : Option Addr) (xss : List (List Int)) : Prop :=
  0 < xss.length → ∃ b off, A = some ⟨b, off, none⟩ ∧ b < B ∧ ∀ j, j < xss.length → ∃ Aj cj, w.cell? ⟨b, off + j, none⟩ = some (.slice Aj (xss.getD j []).length cj) ∧ Ints w B Aj (xss.getD j [])

section
variable {w w' : World} {B B' : Nat} {A : Option Addr} {xss : List (List Int)}
theorem Rows.nil_ : Rows w B A [] := fun h => absurd h (by simp)
theorem Rows.at_ {k : Nat} (h : Rows w B A xss) (hk : k < xss.length) :
    ∃ b off Ak ck, A = some ⟨b, off, none⟩ ∧ b < B ∧ w.cell? ⟨b, off + k, none⟩ = some (.slice Ak (xss.getD k []).length ck) ∧ Ints w B Ak (xss.getD k []) := by
  obtain ⟨b, off, e, hb, hc⟩ := h (by omega)
  obtain ⟨Ak, ck, h1, h2⟩ := hc k hk
  exact ⟨b, off, Ak, ck, e, hb, h1, h2⟩
theorem Rows.keep (h : Rows w B A xss) (hk : ∀ p : Addr, p.block < B → w'.cell? p = w.cell? p) : Rows w' B A xss := fun hn => by
  obtain ⟨b, off, e, hb, hc⟩ := h hn
  refine ⟨b, off, e, hb, fun j hj => ?_⟩
  obtain ⟨Aj, cj, h1, h2⟩ := hc j hj
  exact ⟨Aj, cj, (hk _ hb).trans h1, Cells.keep h2 hk⟩
theorem Rows.more (h : Rows w B A xss) (hB : B ≤ B') : Rows w B' A xss := fun hn => by
  obtain ⟨b, off, e, hb, hc⟩ := h hn
  refine ⟨b, off, e, by omega, fun j hj => ?_⟩
  obtain ⟨Aj, cj, h1, h2⟩ := hc j hj
  exact ⟨Aj, cj, h1, Cells.more h2 hB⟩
theorem Rows.below (h : Rows w B A xss) (hb : Below B w w') : Rows w' B A xss := h.keep fun _ hp => hb.cell hp
theorem Rows.alloc (h : Rows w B A xss) (hB : B ≤ w.heap.size) (o : Obj) : Rows (w.alloc o) B A xss := h.keep fun p hp => World.cell?_alloc_lt w o p (by omega)
theorem Rows.setCell (h : Rows w B A xss) {p : Addr} (hB : B ≤ p.block) (u : Value) : Rows (w.setCell p u) B A xss :=
  h.keep fun q hq => World.cell?_setCell_other w p q u (fun e => by subst e; omega)
theorem Rows.drewN (h : Rows w B A xss) (k : Nat) : Rows (w.drewN k) B A xss := h
end

/-- rows of rows of ints of any kind -/
def KInts (k : IntKind) (w : World) (B : Nat) (A : Option Addr) (xs : List Int) : Prop := Cells w B A xs.length fun j => .int k (xs.getD j 0)
def KRows (k : IntKind) (w : World) (B : Nat) (A : Option Addr) (xss : List (List Int)) : Prop :=
  0 < xss.length → ∃ b off, A = some ⟨b, off, none⟩ ∧ b < B ∧ ∀ j, j < xss.length → ∃ Aj cj, w.cell? ⟨b, off + j, none⟩ = some (.slice Aj (xss.getD j []).length cj) ∧ KInts k w B Aj (xss.getD j [])
section
variable {k : IntKind} {w w' : World} {B B' : Nat} {A : Option Addr} {xss : List (List Int)}
theorem KRows.at_ {i : Nat} (h : KRows k w B A xss) (hk : i < xss.length) :
    ∃ b off Ak ck, A = some ⟨b, off, none⟩ ∧ b < B ∧ w.cell? ⟨b, off + i, none⟩ = some (.slice Ak (xss.getD i []).length ck) ∧ KInts k w B Ak (xss.getD i []) := by
  obtain ⟨b, off, e, hb, hc⟩ := h (by omega)
  obtain ⟨Ak, ck, h1, h2⟩ := hc i hk
  exact ⟨b, off, Ak, ck, e, hb, h1, h2⟩
theorem KRows.keep (h : KRows k w B A xss) (hk : ∀ p : Addr, p.block < B → w'.cell? p = w.cell? p) : KRows k w' B A xss := fun hn => by
  obtain ⟨b, off, e, hb, hc⟩ := h hn
  refine ⟨b, off, e, hb, fun j hj => ?_⟩
  obtain ⟨Aj, cj, h1, h2⟩ := hc j hj
  exact ⟨Aj, cj, (hk _ hb).trans h1, Cells.keep h2 hk⟩
theorem KRows.below (h : KRows k w B A xss) (hb : Below B w w') : KRows k w' B A xss := h.keep fun _ hp => hb.cell hp
theorem KRows.alloc (h : KRows k w B A xss) (hB : B ≤ w.heap.size) (o : Obj) : KRows k (w.alloc o) B A xss := h.keep fun p hp => World.cell?_alloc_lt w o p (by omega)
end

theorem quiet_left {P : Program} {f : FuncId} {args : Array Value} {w : World} {n : Nat} {v : Value}
    (h : Calls P f args (w.drewN n) fun e w' => e = .returned v ∧ w.drewN n = w') : Calls P f args (w.drewN n) fun e w'' => e = .returned v ∧ ∃ m, w'' = w.drewN m :=
  h.mono fun _ _ ⟨he, hm⟩ => ⟨he, n, hm.symm⟩
theorem quiet_add_left {P : Program} {f : FuncId} {args : Array Value} {w : World} {a n : Nat} {v : Value}
    (h : Calls P f args (w.drewN (a + n)) fun e w' => e = .returned v ∧ w.drewN (a + n) = w') :
    Calls P f args (w.drewN (a + n)) fun e w'' => e = .returned v ∧ ∃ m, w'' = w.drewN (a + m) :=
  h.mono fun _ _ ⟨he, hm⟩ => ⟨he, n, hm.symm⟩
theorem below_drewN {B : Nat} {a w : World} (h : Below B a w) (n : Nat) : Below B a (w.drewN n) := ⟨h.os, h.tape, h.output, h.size, h.block⟩

theorem below_undrew {w w' : World} (h : Below w.drew.heap.size w.drew w') : Below w.heap.size w w' := ⟨h.os, h.tape, h.output, h.size, h.block⟩
theorem below_undrewN {w w' : World} {n : Nat} (h : Below (w.drewN n).heap.size (w.drewN n) w') : Below w.heap.size w w' := ⟨h.os, h.tape, h.output, h.size, h.block⟩

/-- numbers that are no least int: a literal's variable is there -/
def Wide (xs : List Int) : Prop := xs.length ≤ 9223372036854775806 ∧ ∀ k, -9223372036854775807 ≤ xs.getD k 0 ∧ xs.getD k 0 ≤ 9223372036854775807
def Wides (xss : List (List Int)) : Prop := xss.length ≤ 9223372036854775806 ∧ ∀ j, Wide (xss.getD j [])
end Go.Proofs.Ytnimmlfccgnneaa
