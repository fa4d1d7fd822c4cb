/- What the law's begin makes ahead of its loop. -/
import Derived.Test.YtbejjddkndcldaaWatC
import Derived.Test.YtbejjddkndcldaaNormA
import Derived.Test.YtbejjddkndcldaaFormsMath04
import Derived.Maps.Views
namespace Go.Proofs.Ytbejjddkndcldaa
open Go.RowKit Go.Maps
set_option linter.unusedVariables false
set_option linter.unusedSimpArgs false

/-- how a row reads, as an entry of a map: by itself -/
def held13 (v : Value) : Option (DataW Value × List MemPlace) := some (.held v, [])
def BornA (p w : World) (gA bA : Nat) : Prop := Ar w p.heap.size gA bA none 0 [] ∧ Below p.heap.size p w
def BornT (p w : World) (gT P N : Nat) : Prop := Tr w p.heap.size gT P (TS.fresh N) ∧ Below p.heap.size p w
def Sel (q : Nat) (v : Value) (w : World) : Prop := q < w.heap.size ∧ w.cell? ⟨q, 0, none⟩ = some v
theorem Sel.below {q : Nat} {v : Value} {p w : World} (h : Sel q v p) (hb : Below p.heap.size p w) : Sel q v w := ⟨Nat.lt_of_lt_of_le h.1 hb.size, (World.cell?_of_block (a := ⟨q, 0, none⟩) (hb.block q h.1)).trans h.2⟩
theorem Sel.drew {q : Nat} {v : Value} {p : World} (h : Sel q v p) : Sel q v p.drew := h
theorem Sel.alloc {q : Nat} {v : Value} {p : World} (h : Sel q v p) (o : Obj) : Sel q v (p.alloc o) := h.below ((Below.refl _ _).alloc (Nat.le_refl _) o)
theorem Below.tr {a b c : World} (h : Below a.heap.size a b) (h' : Below b.heap.size b c) : Below a.heap.size a c := h.trans (h'.mono h.size)
theorem below_al (p : World) (o : Obj) : Below p.heap.size p (p.alloc o) := (Below.refl _ _).alloc (Nat.le_refl _) o
theorem below_dr (p : World) : Below p.heap.size p p.drew := (Below.refl _ _).drew

/-- behind the struct's making -/
structure Beg1 (wb wx : World) (N gX gA bA gT P ML : Nat) (FT : Nat → Prop) : Prop where
  blk : Blk wx gX 41 #[.pointer (some ⟨gA, 0, none⟩), .pointer (some ⟨gT, 0, none⟩), .pointer none, .map (some ML)]
  ar : Ar wx wb.heap.size gA bA none 0 []
  tr : TrX wx wb.heap.size gT P FT (TS.fresh N)
  map : wx.ownsMap Try.prog 3 held13 ML 0 (.map [])
  dj : ∀ q, afoot gA bA none q → FT q → False
  fa : ∀ q, afoot gA bA none q → q ≠ gX ∧ q ≠ ML
  ft : ∀ q, FT q → q ≠ gX ∧ q ≠ ML ∧ wb.heap.size ≤ q ∧ q < wx.heap.size
  hX : wb.heap.size ≤ gX
  hM : wb.heap.size ≤ ML
  ne : gX ≠ ML
  below : Below wb.heap.size wb wx
theorem beg1 {wb p1 wA p2 wT p3 wl : World} {gA bA gT P N : Nat} (hA : BornA p1 wA gA bA) (hT : BornT p2 wT gT P N) (b1 : Below wb.heap.size wb p1) (b2 : Below wb.heap.size wb p2) (b3 : Below wb.heap.size wb p3)
    (c1 : Below wA.heap.size wA wl) (c2 : Below wT.heap.size wT wl) (c3 : Below (p3.alloc (.map #[] 0)).heap.size (p3.alloc (.map #[] 0)) wl)
    (d12 : wA.heap.size ≤ p2.heap.size ∨ wT.heap.size ≤ p1.heap.size) (d13 : wA.heap.size ≤ p3.heap.size ∨ p3.heap.size + 1 ≤ p1.heap.size) (d23 : wT.heap.size ≤ p3.heap.size ∨ p3.heap.size + 1 ≤ p2.heap.size) :
    ∃ gX gA' bA' gT' P' ML FT, gX = wl.heap.size ∧ gA' = gA ∧ gT' = gT ∧ ML = p3.heap.size ∧ Beg1 wb (wl.alloc (.cells #[.pointer (some ⟨gA, 0, none⟩), .pointer (some ⟨gT, 0, none⟩), .pointer none, .map (some p3.heap.size)] 41)) N gX gA' bA' gT' P' ML FT := by
  obtain ⟨hA1, hA2⟩ := hA
  obtain ⟨hT1, hT2⟩ := hT
  obtain ⟨F0, t1, t2⟩ := TrX.of_new (w := p2) hT1.toTrM (Nat.le_refl _)
  obtain ⟨F, u1, u2, u3⟩ := t1.lt
  have fa := hA1.flt
  have s1 := hA2.size
  have s2 := hT2.size
  have z1 := c1.size
  have z2 := c2.size
  have z3 := c3.size
  have y1 := b1.size
  have y2 := b2.size
  have y3 := b3.size
  have hps : (p3.alloc (.map #[] 0)).heap.size = p3.heap.size + 1 := by simp
  rw [hps] at z3 c3
  have bl := below_al wl (.cells #[.pointer (some ⟨gA, 0, none⟩), .pointer (some ⟨gT, 0, none⟩), .pointer none, .map (some p3.heap.size)] 41)
  have hm0 : (p3.alloc (.map #[] 0)).ownsMap Try.prog 3 held13 p3.heap.size 0 (.map []) := World.ownsMap_made p3 _ _ _
  have hm1 : wl.ownsMap Try.prog 3 held13 p3.heap.size 0 (.map []) := by
    obtain ⟨es, clock, e1, e2⟩ := hm0
    exact ⟨es, clock, (c3.block p3.heap.size (by omega)).trans e1, e2⟩
  refine ⟨wl.heap.size, gA, bA, gT, P, p3.heap.size, F, rfl, rfl, rfl, rfl, ⟨Blk.new wl _ _, ((hA1.below c1).below bl).base (by omega), ((u1.below c2).below bl).base (by omega), hm1.alloc _, fun q h1 h2 => ?_, fun q h1 => ?_, fun q h1 => ?_, by omega, by omega, by omega, ?_⟩⟩
  · have := fa q h1
    have := u3 q h2
    have := t2 q (u2 q h2)
    omega
  · have := fa q h1
    omega
  · have := u3 q h1
    have := t2 q (u2 q h1)
    have : wl.heap.size < (wl.alloc (.cells #[.pointer (some ⟨gA, 0, none⟩), .pointer (some ⟨gT, 0, none⟩), .pointer none, .map (some p3.heap.size)] 41)).heap.size := by simp
    omega
  · exact Below.tr (Below.tr (Below.tr b1 hA2) c1) bl

/-- a clause more in the arena -/
theorem ob_add {w : World} {base : Nat} {px : Px} {N : Nat} {G : Nat → Prop} {cs : List Cl} {t : TS} {s : WS} {hd : Nat → Value} (h : Ob w base px N G cs t s hd) (hB : base ≤ w.heap.size) (A : Option Addr) (xs : List Int) (c : Nat) (ht : total cs + xs.length + 3 ≤ 1099511627776) (hx : ∀ w', Ft G w w' → Ints w' w'.heap.size A xs) :
    Calls Try.prog 43 #[.pointer (some ⟨px.gA, 0, none⟩), .slice A xs.length c, .bool false, .int .i64 0] w fun e w' => e = .returned (.tuple #[.int .i64 (total cs : Nat), .bool true]) ∧ ∃ gw' G', Ob w' base { px with gw := gw' } N G' (cs ++ [clOf xs]) t s hd ∧ St G G' w w' := by
  obtain ⟨FT, FW, h1, h2, h3, d1, d2, d3, d4⟩ := h.ex
  refine (add_room h1 A xs c false 0 ht (by omega) (by omega) (.inl (Int.le_refl _)) fun w' hf => hx w' (hf.ft.mono fun q hq => d4 q (.inl hq))).mono fun e w' ⟨he, ⟨gw', ha, hl⟩, hf⟩ => ⟨he, gw', ?_⟩
  have hs := hf.size
  have hlt := ha.flt
  have e0 : least 0 = 0 := rfl
  rw [e0] at ha
  have nb : ∀ q, afoot px.gA px.bA gw' q → afoot px.gA px.bA px.gw q ∨ w.heap.size ≤ q := fun q hq => by
    rcases hq with e | e | e
    · exact .inl (.inl e)
    · exact .inl (.inr (.inl e))
    · rcases hl with rfl | ⟨k, rfl, hk⟩
      · exact .inl (.inr (.inr e))
      · injection e with e; exact .inr (by omega)
  refine ⟨fun q => G q ∨ afoot px.gA px.bA gw' q, ⟨⟨FT, FW, ha, h2.apart hf.ft fun q a b => d1 q b a, ?_, fun q a b => ?_, fun q a b => ?_, d3, fun q hq => ?_⟩, fun q hq => ?_⟩, hf.ft.mono fun q hq => d4 q (.inl hq), fun q hq => ?_⟩
  · have hw := h3.apart hf.ft fun q a b => d2 q b a
    exact ⟨hw.ex, hw.lists, hw.rows, hw.ne⟩
  · rcases nb q a with e | e
    · exact d1 q e b
    · have := (h.bd q (d4 q (.inr (.inl b)))).2; omega
  · rcases nb q a with e | e
    · exact d2 q e b
    · have := (h.bd q (d4 q (.inr (.inr b)))).2; omega
  · rcases hq with hq | hq | hq
    · exact .inr hq
    · exact .inl (d4 q (.inr (.inl hq)))
    · exact .inl (d4 q (.inr (.inr hq)))
  · rcases hq with hq | hq
    · have := h.bd q hq; omega
    · exact hlt q hq
  · rcases hq with hq | hq
    · exact .inl hq
    · exact (nb q hq).imp (fun e => d4 q (.inl e)) id
/-- what the map of clauses holds -/
def dOf (yss : List (List Int)) (vs : List Value) : Nat → DataW Value
  | 0 => .map []
  | k + 1 => (dOf yss vs k).put (.int .i64 (total (csOf (yss.take k)) : Nat)) (.held (vs.getD k undef))
theorem csOf_total {F : Nat} {yss : List (List Int)} (h : LightForm F yss) : total (csOf yss) ≤ 480 := by
  have : ∀ (zss : List (List Int)), (∀ c ∈ zss, c.length ≤ 9) → total (csOf zss) ≤ zss.length * 12 := fun zss => by
    induction zss with
    | nil => intro _; simp [csOf, total_nil]
    | cons z r ih =>
      intro hz
      have h1 := ih fun c hc => hz c (by simp [hc])
      have h2 := hz z (by simp)
      have e : csOf (z :: r) = clOf z :: csOf r := rfl
      rw [e, total_cons, List.length_cons]
      have : (clOf z).size = z.length + 3 := rfl
      omega
  have h1 := this yss h.short
  have h2 := h.few
  omega
end Go.Proofs.Ytbejjddkndcldaa
