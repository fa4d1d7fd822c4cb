/- The arena in memory; what Has, Count, Words, next and clamped answer. -/
import Derived.Test.YtbejjddkndcldaaProg
import Derived.Test.YtbejjddkndcldaaOwnRows
import Derived.Test.YtbejjddkndcldaaArenaMath
import Derived.Maps.RangeWalk
import Derived.Deep.DeepCutAuto
import Derived.Deep.RegionHeld3
import Derived.StillTailTactics
import Derived.WalkSpells
import Derived.WalkLawsBesides
namespace Go.Proofs.Ytbejjddkndcldaa
open Go.RowKit

theorem intLaw : Maps.Keyed Try.prog 3 := Maps.int_keyed Try.underlying3
theorem zeroUnit (w : World) : (zeroValue 110).run Try.prog w = .ok (.agg #[]) w := by kernel_rfl
theorem infoInt : (Try.prog.info? 3).map (fun i => (i.zero, i.size, i.bytes)) = some (some (.int .i64 0), 1, 8) := by kernel_rfl

/-- the map of the clauses that are there -/
def There (w : World) (b : Nat) (cs : List Cl) : Prop :=
  ∃ (D : DataW Unit) (n : Nat), w.ownsMap Try.prog 3 (unitElem (H := Unit)) b n D ∧ (∀ x : Int, Maps.has D (.int .i64 x) = (at? cs x).isSome) ∧ Maps.size D = countOf cs ∧ n ≤ cs.length

/-- an arena of one's own: its struct in block g, its map in block b, its words in a row -/
structure Ar (w : World) (base g b : Nat) (gw : Option Nat) (lim : Int) (cs : List Cl) : Prop where
  ex : ∃ A c, Blk w g 109 #[.slice A (total cs) c, .int .i64 lim, .map (some b)] ∧ w.ownsRow base 3 1 (.slice A (total cs) c) (total cs) ((wordsOf cs).map (.int .i64)) ∧ (Value.slice A (total cs) c).ownBlock = gw
  map : There w b cs
  hg : base ≤ g
  hb : base ≤ b

theorem grown_of_below {w w' : World} (h : Below w.heap.size w w') (row : Option Nat) : w.grownBy w' row := ⟨h.os, h.tape, h.output, h.size, fun k hk _ => h.block k hk⟩
theorem There.below {w w' : World} {b : Nat} {cs : List Cl} (h : There w b cs) (hb : Below w.heap.size w w') : There w' b cs := by
  obtain ⟨D, n, h1, h2⟩ := h
  exact ⟨D, n, h1.kept (grown_of_below hb none) (by simp), h2⟩
theorem Ar.below {w w' : World} {base g b : Nat} {gw : Option Nat} {lim : Int} {cs : List Cl} (h : Ar w base g b gw lim cs) (hb : Below w.heap.size w w') : Ar w' base g b gw lim cs := by
  obtain ⟨A, c, h1, h2, h3⟩ := h.ex
  exact ⟨⟨A, c, h1.below hb h1.lt, own_below h2 hb fun k hk => (h2.lt k hk).2, h3⟩, h.map.below hb, h.hg, h.hb⟩
theorem Ar.glt {w : World} {base g b : Nat} {gw : Option Nat} {lim : Int} {cs : List Cl} (h : Ar w base g b gw lim cs) : g < w.heap.size := by
  obtain ⟨A, c, h1, _⟩ := h.ex; exact h1.lt
set_option linter.unusedVariables false
theorem Ar.blt {w : World} {base g b : Nat} {gw : Option Nat} {lim : Int} {cs : List Cl} (h : Ar w base g b gw lim cs) : b < w.heap.size := by
  obtain ⟨D, n, h1, _⟩ := h.map; exact h1.lt
theorem Ar.wlt {w : World} {base g b : Nat} {gw : Option Nat} {lim : Int} {cs : List Cl} (h : Ar w base g b gw lim cs) : ∀ k, gw = some k → base ≤ k ∧ k < w.heap.size := by
  obtain ⟨A, c, _, h2, h3⟩ := h.ex; intro k hk; exact h2.lt k (h3.trans hk)

/-- a word of the arena, as the walk reads it -/
theorem Ar.word {w : World} {base g b : Nat} {gw : Option Nat} {lim : Int} {cs : List Cl} (h : Ar w base g b gw lim cs) {A : Option Addr} {c : Nat} (hown : w.ownsRow base 3 1 (.slice A (total cs) c) (total cs) ((wordsOf cs).map (.int .i64))) {k : Nat} {u : Int} (hk : (wordsOf cs)[k]? = some u) :
    ∃ gg, A = some ⟨gg, 0, none⟩ ∧ base ≤ gg ∧ gg < w.heap.size ∧ k < total cs ∧ w.cell? ⟨gg, k, none⟩ = some (.int .i64 u) ∧ w.frozen? ⟨gg, k, none⟩ = false := by
  have hlt : k < total cs := by unfold total; exact (List.getElem?_eq_some_iff.1 hk).1
  obtain ⟨gg, rfl, h1, h2⟩ := own_addr hown (by omega)
  refine ⟨gg, rfl, h1, h2, hlt, ?_, World.ownsRow.frozenAt hown k⟩
  rw [World.ownsRow.cellAt hown k (by omega)]
  simp [hk]

/-- of what was there only the arena's own blocks turn -/
structure Turn (w w' : World) (g b : Nat) (gw : Option Nat) : Prop where
  os : w'.os = w.os
  tape : w'.tape = w.tape
  output : w'.output = w.output
  size : w.heap.size ≤ w'.heap.size
  block : ∀ k, k < w.heap.size → k ≠ g → k ≠ b → some k ≠ gw → w'.heap[k]? = w.heap[k]?
section
variable {w w' w'' : World} {g b : Nat} {gw gw' : Option Nat}
theorem Turn.refl (w : World) (g b : Nat) (gw : Option Nat) : Turn w w g b gw := ⟨rfl, rfl, rfl, Nat.le_refl _, fun _ _ _ _ _ => rfl⟩
theorem Turn.of_below (h : Below w.heap.size w w') : Turn w w' g b gw := ⟨h.os, h.tape, h.output, h.size, fun k hk _ _ _ => h.block k hk⟩
theorem Turn.trans (h : Turn w w' g b gw) (h' : Turn w' w'' g b gw') (hg : gw' = gw ∨ ∃ k, gw' = some k ∧ w.heap.size ≤ k) : Turn w w'' g b gw :=
  ⟨h'.os.trans h.os, h'.tape.trans h.tape, h'.output.trans h.output, Nat.le_trans h.size h'.size, fun k hk h1 h2 h3 =>
    (h'.block k (Nat.lt_of_lt_of_le hk h.size) h1 h2 (by rcases hg with rfl | ⟨j, rfl, hj⟩; exact h3; intro e; cases e; omega)).trans (h.block k hk h1 h2 h3)⟩
theorem Turn.below {B : Nat} (h : Turn w w' g b gw) (hB : B ≤ w.heap.size) (h1 : B ≤ g) (h2 : B ≤ b) (h3 : ∀ k, gw = some k → B ≤ k) : Below B w w' :=
  ⟨h.os, h.tape, h.output, h.size, fun k hk => h.block k (by omega) (by omega) (by omega) (by intro e; have := h3 k e.symm; omega)⟩
end
theorem Ar.turn_below {w w' : World} {base g b : Nat} {gw : Option Nat} {lim : Int} {cs : List Cl} (h : Ar w base g b gw lim cs) (ht : Turn w w' g b gw) (hB : base ≤ w.heap.size) : Below base w w' :=
  ht.below hB h.hg h.hb fun k hk => (h.wlt k hk).1
/-- the same row, or a new one -/
def Later (w : World) (gw gw' : Option Nat) : Prop := gw' = gw ∨ ∃ k, gw' = some k ∧ w.heap.size ≤ k

theorem clamped_any (n : Int) (w : World) : Calls Try.prog 73 #[.int .i64 n] w fun e w' => e = .returned (.int .i64 (least n)) ∧ w = w' := by
  have e0 : n ≤ 0 → least n = 0 := by unfold least; omega
  have e1 : 2147483647 < n → least n = 2147483647 := by unfold least; omega
  have e2 : 0 < n → n ≤ 2147483647 → least n = n := by unfold least; omega
  by_cases h1 : 2147483647 < n
  · rw [e1 h1]
    clear e0 e1 e2
    go_enter Try.func73, Try.ntmps73
    go_wp2
    go_ret
    exact ⟨rfl, rfl⟩
  · by_cases h2 : 0 < n
    · rw [e2 h2 (by omega)]
      clear e0 e1 e2
      go_enter Try.func73, Try.ntmps73
      go_wp2
      go_ret
      exact ⟨rfl, rfl⟩
    · rw [e0 (by omega)]
      clear e0 e1 e2
      go_enter Try.func73, Try.ntmps73
      go_wp2
      go_ret
      exact ⟨rfl, rfl⟩

theorem has_any {w : World} {base g b : Nat} {gw : Option Nat} {lim : Int} {cs : List Cl} (h : Ar w base g b gw lim cs) (x : Int) (h1 : -9223372036854775808 ≤ x) (h2 : x ≤ 9223372036854775807) :
    Calls Try.prog 69 #[.pointer (some ⟨g, 0, none⟩), .int .i64 x] w fun e w' => e = .returned (.bool (at? cs x).isSome) ∧ Below w.heap.size w w' := by
  obtain ⟨A, c, hblk, hown, hgw⟩ := h.ex
  obtain ⟨D, n, hm, hh, hsz, hn⟩ := h.map
  have c2 := hblk.cell 2
  simp at c2
  have HH := Lib.hid (hh x)
  clear hblk hown hgw hh hsz hn h
  go_enter Try.func69, Try.ntmps69
  go_wp2_with (at_lookup; refine wpList_lookup_own_unit _ rfl _ _ 107 rfl 3 110 intLaw Try.underlying107 (zeroUnit _) b n D rfl hm _ _ rfl (Maps.keyOf_int_mk Try.underlying3 (WalkArith.wf_i64 (by omega))) ?_)
  go_ret
  exact ⟨by rw [HH.out]; rfl, (Below.refl _ _).alloc (Nat.le_refl _) _⟩

/-- the word at a clause's number tells where the next one begins -/
theorem next_any {w : World} {base g b : Nat} {gw : Option Nat} {lim : Int} (pre post : List Cl) (cl : Cl) (h : Ar w base g b gw lim (pre ++ cl :: post)) (ht : total (pre ++ cl :: post) ≤ 1099511627776) :
    Calls Try.prog 93 #[.pointer (some ⟨g, 0, none⟩), .int .i64 (total pre)] w fun e w' => e = .returned (.int .i64 ((total pre + cl.size : Nat) : Int)) ∧ w = w' := by
  obtain ⟨A, c, hblk, hown, hgw⟩ := h.ex
  obtain ⟨gg, rfl, _, _, hlt, hc, _⟩ := h.word hown (head_mid pre post cl)
  have c0 := hblk.cell 0
  simp at c0
  have hh := head_half cl
  obtain ⟨hb1, hb2⟩ := head_bd cl
  have hle := size_le_total pre post cl
  have hsz : cl.size = cl.lits.length + 3 := rfl
  obtain ⟨T, hT⟩ : ∃ T, T = total (pre ++ cl :: post) := ⟨_, rfl⟩
  obtain ⟨p, hp⟩ : ∃ p, p = total pre := ⟨_, rfl⟩
  obtain ⟨hd, hhd⟩ : ∃ hd, hd = cl.head := ⟨_, rfl⟩
  obtain ⟨sz, hs⟩ : ∃ sz, sz = cl.size := ⟨_, rfl⟩
  rw [← hs] at hle hsz ⊢
  rw [← hhd] at hc hh hb1 hb2
  rw [← hp] at hc hlt hle ⊢
  rw [← hT] at c0 hlt hle ht
  have HH := Lib.hid hh
  have HS := Lib.hid hsz
  have hb3 : hd ≤ 2199023255553 := by omega
  clear hblk hown hgw h hh hT hp hhd hs hsz hb2
  go_enter Try.func93, Try.ntmps93
  go_wp2
  go_ret
  refine ⟨congrArg (fun z => Ending.returned (.int .i64 z)) ?_, rfl⟩
  have := HH.out
  have := HS.out
  omega
end Go.Proofs.Ytbejjddkndcldaa
