/- local's state in memory: its blocks, told apart by the part that each plays. -/
import Derived.Test.YtllgepabjglnaaaLocMath
import Derived.Test.YtllgepabjglnaaaMem
import Derived.Test.YtllgepabjglnaaaOwnRows
import Derived.Test.YtllgepabjglnaaaBoolBlk
import Derived.Test.YtllgepabjglnaaaFt
import Derived.Laws.OwnMore
namespace Go.Proofs.Ytllgepabjglnaaa
open Go.RowKit
set_option linter.unusedVariables false
set_option linter.unusedSimpArgs false

/-- a row of one's own, in a block that plays that part -/
def Oz (w : World) (ρ : Nat → Nat) (r : Nat) (t : TypeId) (s : Nat) (v : Value) (n : Nat) (xs : List Value) : Prop :=
  w.ownsRow 0 t s v n xs ∧ ∀ q, v.ownBlock = some q → ρ q = r
section
variable {w w' : World} {ρ ρ' : Nat → Nat} {r : Nat} {t : TypeId} {s : Nat} {v : Value} {n : Nat} {xs : List Value}
theorem Oz.keep (h : Oz w ρ r t s v n xs) (hk : ∀ q, q < w.heap.size → ρ q = r → w'.heap[q]? = w.heap[q]?) : Oz w' ρ r t s v n xs := by
  refine ⟨⟨h.1.1, ?_⟩, h.2⟩
  rcases h.1.2 with h1 | ⟨g, cap, cur, rfl, h1, h2, rest⟩
  · exact .inl h1
  · exact .inr ⟨g, cap, cur, rfl, h1, (hk g (Array.getElem?_eq_some_iff.1 h2).1 (h.2 g rfl)).trans h2, rest⟩
theorem Oz.role (h : Oz w ρ r t s v n xs) (hk : ∀ q, q < w.heap.size → ρ' q = ρ q) : Oz w ρ' r t s v n xs :=
  ⟨h.1, fun q hq => (hk q (h.1.lt q hq).2).trans (h.2 q hq)⟩
theorem Oz.nil_ : Oz w ρ r t s (.slice none 0 0) 0 [] := ⟨World.ownsRow_nil _ _ _ _, fun q hq => by cases hq⟩
/-- where it lies, and what stands there -/
theorem Oz.at_ {A : Option Addr} {c : Nat} (h : Oz w ρ r t s (.slice A n c) n xs) (hn : 0 < n) : ∃ b, A = some ⟨b, 0, none⟩ ∧ ρ b = r ∧ b < w.heap.size ∧ n ≤ c ∧ (∀ k, k < n * s → w.cell? ⟨b, k, none⟩ = xs[k]?) ∧ ∀ k, w.frozen? ⟨b, k, none⟩ = false := by
  rcases h.1.2 with ⟨_, h0⟩ | ⟨g, cap, cur, hv, hb, hg, hnc, _⟩
  · omega
  · injection hv with hA _ hC
    subst hA hC
    exact ⟨g, rfl, h.2 g rfl, (Array.getElem?_eq_some_iff.1 hg).1, hnc, fun k hk => h.1.cellAt k hk, fun k => h.1.frozenAt k⟩
theorem Oz.stored {g c : Nat} (h : Oz w ρ r t s (.slice (some ⟨g, 0, none⟩) n c) n xs) (j : Nat) (u : Value) : Oz (w.setCell ⟨g, j, none⟩ u) ρ r t s (.slice (some ⟨g, 0, none⟩) n c) n (xs.set j u) := ⟨(h.1.stored j u).1, h.2⟩
theorem Oz.len (h : Oz w ρ r t s v n xs) : xs.length = n * s := h.1.1
theorem Oz.cells {A : Option Addr} {c : Nat} {d : Value} (h : Oz w ρ r t 1 (.slice A n c) n xs) : Cells w w.heap.size A n fun j => xs.getD j d := cells_of_own h.1 d
end
/-- rows of numbers of one's own, each in a block that plays that part -/
structure OLr (w : World) (ρ : Nat → Nat) (r : Nat) (vs : List Value) (xss : List (List Int)) : Prop where
  own : OwnList w 0 3 vs xss
  len : vs.length = xss.length
  part : ∀ j q, j < xss.length → ((vs[j]?).getD undef).ownBlock = some q → ρ q = r
section
variable {w w' : World} {ρ ρ' : Nat → Nat} {r : Nat} {vs : List Value} {xss : List (List Int)}
theorem OLr.at_ (h : OLr w ρ r vs xss) {j : Nat} (hj : j < xss.length) : ∃ A c, vs[j]? = some (.slice A (xss.getD j []).length c) ∧ Oz w ρ r 3 1 (.slice A (xss.getD j []).length c) (xss.getD j []).length ((xss.getD j []).map (Value.int .i64)) := by
  obtain ⟨A, c, h1, h2⟩ := h.own.each j hj
  exact ⟨A, c, h1, h2, fun q hq => h.part j q hj (by rw [h1]; exact hq)⟩
theorem OLr.keep (h : OLr w ρ r vs xss) (hk : ∀ q, q < w.heap.size → ρ q = r → w'.heap[q]? = w.heap[q]?) : OLr w' ρ r vs xss := by
  refine ⟨⟨fun j hj => ?_, h.own.ne⟩, h.len, h.part⟩
  obtain ⟨A, c, h1, h2⟩ := h.at_ hj
  exact ⟨A, c, h1, (h2.keep hk).1⟩
theorem OLr.role (h : OLr w ρ r vs xss) (hk : ∀ q, q < w.heap.size → ρ' q = ρ q) : OLr w ρ' r vs xss :=
  ⟨h.own, h.len, fun j q hj hq => (hk q (h.own.lt hj hq).2).trans (h.part j q hj hq)⟩
end
/-- what is known of a state -/
structure MS where
  z : List Bool
  cls : List (List Int)
  hss : List (List Int)
  row : List Nat
  hv : List (List Nat)
  bk : Nat → Nat
  b : BS
/-- where it lies -/
structure Lx where
  g : Nat
  vA : Option Addr
  cA : Option Addr
  hA : Option Addr
  rA : Option Addr
  kA : Option Addr
  sA : Option Addr
  eA : Option Addr
  vc : Nat
  cc : Nat
  hc : Nat
  rc : Nat
  kc : Nat
  sc : Nat
  ec : Nat
  lsV : List Value
  hvV : List Value
  lss : List (List Int)
def natsV (l : List Nat) : List Value := l.map fun (v : Nat) => .int .i64 (v : Int)
def bkV (n : Nat) (bk : Nat → Nat) : List Value := (List.range n).map fun k => .int .i64 (bk (k + 1) : Nat)
def intsOf (l : List Nat) : List Int := l.map fun (v : Nat) => (v : Int)
def stC (p : Lx) (m : MS) : Array Value := #[.slice p.vA m.z.length p.vc, .slice p.cA m.cls.length p.cc, .slice p.hA (2 * m.z.length) p.hc, .slice p.rA m.row.length p.rc, .slice p.kA m.z.length p.kc, .int .i64 (m.b.flips : Nat), .int .i64 (m.b.fewest : Nat), .slice p.sA m.b.since.length p.sc, .slice p.eA (m.b.best.getD []).length p.ec]
/-- the clauses' cells -/
structure CV (xs vs : List Value) (m : MS) : Prop where
  c0 : ∀ i, i < m.cls.length → xs[i * 4]? = some (vs.getD i undef)
  c1 : ∀ i, i < m.cls.length → xs[i * 4 + 1]? = some (.int .i64 ((m.hss.getD i []).length : Nat))
  c2 : ∀ i, i < m.cls.length → xs[i * 4 + 2]? = some (.int .i64 (xr (m.hss.getD i []) : Nat))
  c3 : ∀ i, i < m.cls.length → ∃ pl : Int, xs[i * 4 + 3]? = some (.int .i64 pl)
  pl : ∀ (k i : Nat), m.row[k]? = some i → xs[i * 4 + 3]? = some (.int .i64 (k : Nat))
/-- a state in memory. The parts: 1 the row, 2 since, 3 breaks, 4 having's rows, 5 literals, 6 the struct, 7 values, 8 clauses, 9 having, 10 the best one -/
structure LM (w : World) (ρ : Nat → Nat) (p : Lx) (m : MS) : Prop where
  fresh : ∀ q, ρ q ≠ 0 → q < w.heap.size
  str : Blk w p.g 75 (stC p m)
  sr : ρ p.g = 6
  vs : Oz w ρ 7 4 1 (.slice p.vA m.z.length p.vc) m.z.length (m.z.map .bool)
  cs : ∃ xs, Oz w ρ 8 85 4 (.slice p.cA m.cls.length p.cc) m.cls.length xs ∧ CV xs p.lsV m
  rin : ∀ i ∈ m.row, i < m.cls.length
  ls : OLr w ρ 5 p.lsV p.lss
  lc : ∀ i, i < m.cls.length → i < p.lss.length ∧ p.lss.getD i [] = m.cls.getD i []
  hs : Oz w ρ 9 48 1 (.slice p.hA (2 * m.z.length) p.hc) (2 * m.z.length) p.hvV
  hl : OLr w ρ 4 p.hvV (m.hv.map intsOf)
  hn : m.hv.length = 2 * m.z.length
  rw_ : Oz w ρ 1 3 1 (.slice p.rA m.row.length p.rc) m.row.length (natsV m.row)
  kw : Oz w ρ 3 3 1 (.slice p.kA m.z.length p.kc) m.z.length (bkV m.z.length m.bk)
  sw : Oz w ρ 2 3 1 (.slice p.sA m.b.since.length p.sc) m.b.since.length (natsV m.b.since)
  e0 : m.b.best = none → p.eA = none ∧ p.ec = 0
  ew : ∀ a, m.b.best = some a → 0 < a.length ∧ Oz w ρ 10 4 1 (.slice p.eA a.length p.ec) a.length (a.map .bool)
/-- between two worlds: what was there and plays no part stays; parts once given stay -/
structure LStep (w : World) (ρ : Nat → Nat) (w' : World) (ρ' : Nat → Nat) : Prop where
  ft : Ft (fun q => ρ q ≠ 0) w w'
  part : ∀ q, q < w.heap.size → ρ' q = ρ q
section
variable {w w' w'' : World} {ρ ρ' ρ'' : Nat → Nat} {p : Lx} {m : MS}
theorem LStep.refl : LStep w ρ w ρ := ⟨Ft.refl _, fun _ _ => rfl⟩
theorem LStep.trans (h : LStep w ρ w' ρ') (h' : LStep w' ρ' w'' ρ'') : LStep w ρ w'' ρ'' :=
  ⟨h.ft.trans h'.ft fun q hq => by
    rcases Nat.lt_or_ge q w.heap.size with hl | hl
    · exact .inl (show ρ q ≠ 0 by rw [← h.part q hl]; exact hq)
    · exact .inr hl, fun q hq => (h'.part q (Nat.lt_of_lt_of_le hq h.ft.size)).trans (h.part q hq)⟩
theorem LStep.gr (h : Gr w w') : LStep w ρ w' ρ := ⟨h.ft, fun _ _ => rfl⟩
theorem LStep.below (h : Below w.heap.size w w') : LStep w ρ w' ρ := ⟨Ft.of_below h, fun _ _ => rfl⟩
theorem LStep.set {q : Nat} (hq : ρ q ≠ 0) (i : Nat) (v : Value) : LStep w ρ (w.setCell ⟨q, i, none⟩ v) ρ := ⟨(Ft.refl (F := fun q => ρ q ≠ 0) w).set (fun _ => hq) i v, fun _ _ => rfl⟩
theorem LStep.drew : LStep w ρ w.drew ρ := ⟨(Ft.refl w).drew, fun _ _ => rfl⟩
/-- all parts stay -/
theorem LM.keep (h : LM w ρ p m) (hs : w.heap.size ≤ w'.heap.size) (hk : ∀ q, q < w.heap.size → ρ q ≠ 0 → w'.heap[q]? = w.heap[q]?) : LM w' ρ p m := by
  have k : ∀ r, r ≠ 0 → ∀ q, q < w.heap.size → ρ q = r → w'.heap[q]? = w.heap[q]? := fun r hr q hq e => hk q hq (by omega)
  obtain ⟨xs, c1, c2⟩ := h.cs
  exact ⟨fun q hq => Nat.lt_of_lt_of_le (h.fresh q hq) hs, (k 6 (by decide) _ h.str.lt h.sr).trans h.str, h.sr, h.vs.keep (k _ (by decide)), ⟨xs, c1.keep (k _ (by decide)), c2⟩, h.rin, h.ls.keep (k _ (by decide)), h.lc, h.hs.keep (k _ (by decide)), h.hl.keep (k _ (by decide)), h.hn, h.rw_.keep (k _ (by decide)), h.kw.keep (k _ (by decide)), h.sw.keep (k _ (by decide)), h.e0, fun a ha => ⟨(h.ew a ha).1, (h.ew a ha).2.keep (k _ (by decide))⟩⟩
theorem LM.below (h : LM w ρ p m) (hb : Below w.heap.size w w') : LM w' ρ p m := h.keep hb.size fun q hq _ => hb.block q hq
theorem LM.gr (h : LM w ρ p m) (hb : Gr w w') : LM w' ρ p m := h.below hb.below
theorem LM.drew (h : LM w ρ p m) : LM w.drew ρ p m := h.keep (Nat.le_refl _) fun _ _ _ => rfl
theorem LM.drewN (h : LM w ρ p m) (k : Nat) : LM (w.drewN k) ρ p m := h.keep (Nat.le_refl _) fun _ _ _ => rfl
theorem LM.ft {F : Nat → Prop} (h : LM w ρ p m) (hf : Ft F w w') (hd : ∀ q, ρ q ≠ 0 → ¬ F q) : LM w' ρ p m := h.keep hf.size fun q hq hr => hf.block q hq (hd q hr)
/-- beside another state's step -/
theorem LM.beside {ρ2 ρ2' : Nat → Nat} (h : LM w ρ p m) (hs : LStep w ρ2 w' ρ2') (hd : ∀ q, ρ q ≠ 0 → ρ2 q = 0) : LM w' ρ p m := h.ft hs.ft fun q hq hn => hn (hd q hq)
/-- the struct's cells -/
theorem LM.cells (h : LM w ρ p m) : w.cell? ⟨p.g, 0, none⟩ = some (.slice p.vA m.z.length p.vc) ∧ w.cell? ⟨p.g, 1, none⟩ = some (.slice p.cA m.cls.length p.cc) ∧ w.cell? ⟨p.g, 2, none⟩ = some (.slice p.hA (2 * m.z.length) p.hc) ∧ w.cell? ⟨p.g, 3, none⟩ = some (.slice p.rA m.row.length p.rc) ∧ w.cell? ⟨p.g, 4, none⟩ = some (.slice p.kA m.z.length p.kc) ∧
    w.cell? ⟨p.g, 5, none⟩ = some (.int .i64 (m.b.flips : Nat)) ∧ w.cell? ⟨p.g, 6, none⟩ = some (.int .i64 (m.b.fewest : Nat)) ∧ w.cell? ⟨p.g, 7, none⟩ = some (.slice p.sA m.b.since.length p.sc) ∧ w.cell? ⟨p.g, 8, none⟩ = some (.slice p.eA (m.b.best.getD []).length p.ec) := by
  have := h.str
  unfold stC at this
  refine ⟨?_, ?_, ?_, ?_, ?_, ?_, ?_, ?_, ?_⟩ <;> (rw [this.cell]; rfl)
theorem LM.frozen (h : LM w ρ p m) (i : Nat) : w.frozen? ⟨p.g, i, none⟩ = false := h.str.frozen i
theorem LM.lt (h : LM w ρ p m) : p.g < w.heap.size := h.str.lt
end
end Go.Proofs.Ytllgepabjglnaaa
