/- Package rng: bits, a stream in memory, what it answers (the functions that walks call). -/
import Derived.WalkKit
import Derived.Laws.BitsAllLaws
import Derived.Test.YtllgepabjglnaaaOwnRows
import Derived.Test.YtllgepabjglnaaaProg
import Derived.WalkSpells
import Derived.Handy
namespace Go.Proofs.Ytllgepabjglnaaa

/-- exclusive or with what is shifted up -/
def up64 (x s : Nat) : Nat := x ^^^ (x * 2 ^ s % 2 ^ 64)
/-- exclusive or with what is shifted down -/
def down64 (x s : Nat) : Nat := x ^^^ (x / 2 ^ s)
/-- the number behind one -/
def stepN (x : Nat) : Nat := up64 (down64 (up64 x 13) 7) 17

theorem up_lt {x s : Nat} (h : x < 2 ^ 64) : up64 x s < 2 ^ 64 := Nat.xor_lt_two_pow h (Nat.mod_lt _ (by decide))
theorem down_lt {x s : Nat} (h : x < 2 ^ 64) : down64 x s < 2 ^ 64 := Nat.xor_lt_two_pow h (Nat.lt_of_le_of_lt (Nat.div_le_self _ _) h)
theorem step_lt {x : Nat} (h : x < 2 ^ 64) : stepN x < 2 ^ 64 := up_lt (down_lt (up_lt h))

theorem up_bit (x s i : Nat) : (up64 x s).testBit i = (x.testBit i ^^ (decide (i < 64) && (decide (s ≤ i) && x.testBit (i - s)))) := by
  unfold up64
  rw [Nat.testBit_xor, Nat.testBit_mod_two_pow, ← Nat.shiftLeft_eq, Nat.testBit_shiftLeft]
theorem down_bit (x s i : Nat) : (down64 x s).testBit i = (x.testBit i ^^ x.testBit (s + i)) := by
  unfold down64
  rw [Nat.testBit_xor, ← Nat.shiftRight_eq_div_pow, Nat.testBit_shiftRight]

theorem up_inj {x y s : Nat} (hs : 0 < s) (h : up64 x s = up64 y s) : x = y := by
  refine Nat.eq_of_testBit_eq fun i => ?_
  induction i using Nat.strongRecOn with
  | _ i ih =>
    have hb : (up64 x s).testBit i = (up64 y s).testBit i := by rw [h]
    rw [up_bit, up_bit] at hb
    by_cases h2 : s ≤ i
    · rw [ih (i - s) (by omega)] at hb
      exact Bool.xor_left_inj.1 hb
    · simpa [h2] using hb
theorem down_inj {x y s : Nat} (hs : 0 < s) (hx : x < 2 ^ 64) (hy : y < 2 ^ 64) (h : down64 x s = down64 y s) : x = y := by
  have big : ∀ i, 64 ≤ i → x.testBit i = y.testBit i := fun i hi => by
    rw [Nat.testBit_lt_two_pow (Nat.lt_of_lt_of_le hx (Nat.pow_le_pow_right (by decide) hi)), Nat.testBit_lt_two_pow (Nat.lt_of_lt_of_le hy (Nat.pow_le_pow_right (by decide) hi))]
  have all : ∀ n i, 64 - i ≤ n → x.testBit i = y.testBit i := by
    intro n
    induction n with
    | zero => exact fun i hi => big i (by omega)
    | succ n ih =>
      intro i hi
      by_cases h6 : 64 ≤ i
      · exact big i h6
      · have hb : (down64 x s).testBit i = (down64 y s).testBit i := by rw [h]
        rw [down_bit, down_bit, ih (s + i) (by omega)] at hb
        exact Bool.xor_left_inj.1 hb
  exact Nat.eq_of_testBit_eq fun i => all 64 i (by omega)
theorem step_inj {x y : Nat} (hx : x < 2 ^ 64) (hy : y < 2 ^ 64) (h : stepN x = stepN y) : x = y :=
  up_inj (by decide) (down_inj (by decide) (up_lt hx) (up_lt hy) (up_inj (by decide) h))
theorem step_zero : stepN 0 = 0 := by decide
theorem step_one : stepN 1 = 1082269761 := by decide
theorem step_eq_zero {x : Nat} (hx : x < 2 ^ 64) : stepN x = 0 ↔ x = 0 :=
  ⟨fun h => step_inj hx (by decide) (h.trans step_zero.symm), fun h => by rw [h]; exact step_zero⟩

/-- a bit more of a number -/
theorem mod_bit (z i : Nat) : z % 2 ^ (i + 1) = z % 2 ^ i + z / 2 ^ i % 2 * 2 ^ i := by
  rw [Nat.pow_succ, Nat.mod_mul, Nat.mul_comm]
theorem or_bit {z i : Nat} (h : z < 2 ^ i) : z ||| 2 ^ i = z + 2 ^ i := by
  have := Nat.two_pow_add_eq_or_of_lt h 1
  rw [Nat.mul_one, Nat.or_comm] at this
  omega
theorem xor_bit (x y i : Nat) : (x ^^^ y) / 2 ^ i % 2 = if x / 2 ^ i % 2 = y / 2 ^ i % 2 then 0 else 1 := by
  rw [← Nat.shiftRight_eq_div_pow, ← Nat.shiftRight_eq_div_pow, ← Nat.shiftRight_eq_div_pow, Nat.shiftRight_xor_distrib]
  have r := Nat.xor_mod_two_eq_one (a := x >>> i) (b := y >>> i)
  split <;> omega
/-- the law's own exclusive or: so far -/
theorem turn_step (x y i : Nat) : (x ^^^ y) % 2 ^ (i + 1) = if x / 2 ^ i % 2 = y / 2 ^ i % 2 then (x ^^^ y) % 2 ^ i else (x ^^^ y) % 2 ^ i ||| 2 ^ i := by
  rw [mod_bit, xor_bit]
  split
  · simp
  · rw [or_bit (Nat.mod_lt _ (Nat.two_pow_pos i))]; simp

end Go.Proofs.Ytllgepabjglnaaa

namespace Go.Proofs.Ytllgepabjglnaaa
open Go.RowKit
set_option linter.unusedVariables false
set_option linter.unusedSimpArgs false

theorem u64_wrap9 (n : Nat) : IntKind.u64.wrap (n : Int) = ((n % 2 ^ 64 : Nat) : Int) := by simp [IntKind.wrap, IntKind.signed, IntKind.bits]
theorem up13_9 {x : Nat} (hx : x < 2 ^ 64) : bits .xor .u64 (x : Int) (IntKind.u64.wrap ((x : Int) * 8192)) = (up64 x 13 : Nat) := by
  rw [show (x : Int) * 8192 = ((x * 2 ^ 13 : Nat) : Int) by omega, u64_wrap9, u64_xor_nat x _ hx (Nat.mod_lt _ (by decide))]
  rfl
theorem up17_9 {x : Nat} (hx : x < 2 ^ 64) : bits .xor .u64 (x : Int) (IntKind.u64.wrap ((x : Int) * 131072)) = (up64 x 17 : Nat) := by
  rw [show (x : Int) * 131072 = ((x * 2 ^ 17 : Nat) : Int) by omega, u64_wrap9, u64_xor_nat x _ hx (Nat.mod_lt _ (by decide))]
  rfl
theorem down7_9 {x : Nat} (hx : x < 2 ^ 64) : bits .xor .u64 (x : Int) ((x : Int) / 128) = (down64 x 7 : Nat) := by
  rw [show (x : Int) / 128 = ((x / 2 ^ 7 : Nat) : Int) by omega, u64_xor_nat x _ hx (Nat.lt_of_le_of_lt (Nat.div_le_self _ _) hx)]
  rfl

theorem step_any (x : Nat) (hx : x < 2 ^ 64) (w : World) : Calls Try.prog 54 #[.int .u64 x] w fun e w' => e = .returned (.int .u64 (stepN x)) ∧ w = w' := by
  have e1 := up13_9 hx
  have e2 := down7_9 (up_lt (s := 13) hx)
  have e3 := up17_9 (down_lt (s := 7) (up_lt (s := 13) hx))
  have E : stepN x = up64 (down64 (up64 x 13) 7) 17 := rfl
  rw [E]
  clear E
  go_enter Try.func54, Try.ntmps54
  go_wp2
  go_ret
  exact ⟨rfl, rfl⟩

end Go.Proofs.Ytllgepabjglnaaa

namespace Go.Proofs.Ytllgepabjglnaaa
open Go.RowKit
set_option linter.unusedVariables false
set_option linter.unusedSimpArgs false

/-- a stream: its struct in block b, its words somewhere below -/
structure Strm (w : World) (B b : Nat) (ws : List Nat) (last drawn : Nat) : Prop where
  ex : ∃ A c, Blk w b 82 #[.slice A ws.length c, .int .u64 last, .int .i64 drawn] ∧ KInts .u64 w b A (ws.map (fun (x : Nat) => (x : Int))) ∧ ws.length ≤ c ∧ (∀ g o, 0 < ws.length → A = some ⟨g, o, none⟩ → B ≤ g)
  last : last < 2 ^ 64
  low : B ≤ b
  wide : ∀ x ∈ ws, x < 2 ^ 64
  small : ws.length ≤ 1000000
/-- nothing turns but block b -/
def Only (b : Nat) (w w' : World) : Prop := ∃ p v q u, p.block = b ∧ q.block = b ∧ w' = (w.setCell p v).setCell q u
section
variable {w w' : World} {b : Nat}
theorem Only.below (h : Only b w w') {B : Nat} (hB : B ≤ b) : Below B w w' := by
  obtain ⟨p, v, q, u, h1, h2, rfl⟩ := h
  exact ((Below.refl _ _).setCell (by omega) _).setCell (by omega) _
theorem Only.blk (h : Only b w w') {g : Nat} {t : TypeId} {cs : Array Value} (hb : Blk w g t cs) (hg : g ≠ b) : Blk w' g t cs := by
  obtain ⟨p, v, q, u, h1, h2, rfl⟩ := h
  exact (hb.far (by omega) _).far (by omega) _
theorem Only.size (h : Only b w w') : w'.heap.size = w.heap.size := by
  obtain ⟨p, v, q, u, h1, h2, rfl⟩ := h
  simp
theorem Only.cell (h : Only b w w') {r : Addr} (hr : r.block ≠ b) : w'.cell? r = w.cell? r := by
  obtain ⟨p, v, q, u, h1, h2, rfl⟩ := h
  rw [World.cell?_setCell_other _ _ _ _ (fun e => by subst e; omega), World.cell?_setCell_other _ _ _ _ (fun e => by subst e; omega)]
theorem Only.cells (h : Only b w w') {B n : Nat} {A : Option Addr} {f : Nat → Value} (hc : Cells w B A n f) (hn : ∀ g o, 0 < n → A = some ⟨g, o, none⟩ → g ≠ b) : Cells w' B A n f := fun h0 => by
  obtain ⟨g, off, e, hb, hcc⟩ := hc h0
  exact ⟨g, off, e, hb, fun j hj => (h.cell (by exact hn g off h0 e)).trans (hcc j hj)⟩
theorem Strm.lt {B : Nat} {ws : List Nat} {last drawn : Nat} (h : Strm w B b ws last drawn) : b < w.heap.size := by
  obtain ⟨A, c, h1, _⟩ := h.ex; exact h1.lt
/-- another stream stays as it was -/
theorem Strm.only {B : Nat} {ws : List Nat} {last drawn b' : Nat} (h : Strm w B b' ws last drawn) (ho : Only b w w') (hb : b < B) : Strm w' B b' ws last drawn := by
  obtain ⟨A, c, h1, h2, h3, h4⟩ := h.ex
  have hl := h.low
  exact ⟨⟨A, c, ho.blk h1 (by omega), ho.cells h2 (fun g o hn e => by have := h4 g o (by simpa using hn) e; omega), h3, h4⟩, h.last, h.low, h.wide, h.small⟩
theorem Strm.below {B B' : Nat} {ws : List Nat} {last drawn : Nat} (h : Strm w B b ws last drawn) (hb : Below B' w w') (hB : b < B') : Strm w' B b ws last drawn := by
  obtain ⟨A, c, h1, h2, h3, h4⟩ := h.ex
  exact ⟨⟨A, c, h1.below hb hB, Cells.keep h2 (fun p hp => hb.cell (by omega)), h3, h4⟩, h.last, h.low, h.wide, h.small⟩
end
/-- what comes next, and what is left -/
def nextOf (ws : List Nat) (last : Nat) : Nat := if ws = [] then stepN last else ws.headD 0
def lastOf (ws : List Nat) (last : Nat) : Nat := if ws = [] then stepN last else last

theorem getD_map9 (ws : List Nat) (k : Nat) : (ws.map (fun (x : Nat) => (x : Int))).getD k 0 = ((ws.getD k 0 : Nat) : Int) := by
  simp only [List.getD, List.getElem?_map]
  cases ws[k]? <;> rfl

set_option maxHeartbeats 1000000 in
theorem rng_next {w : World} {B b : Nat} {ws : List Nat} {last drawn : Nat} (h : Strm w B b ws last drawn) (hd : drawn ≤ 1000000) :
    Calls Try.prog 38 #[.pointer (some ⟨b, 0, none⟩)] w fun e w' => e = .returned (.int .u64 (nextOf ws last)) ∧ Strm w' B b ws.tail (lastOf ws last) (drawn + 1) ∧ Only b w w' := by
  obtain ⟨A, c, hblk, hc, hcl, hlow⟩ := h.ex
  obtain ⟨ex, hl, hB, hwd, hsm⟩ := h
  have c0 := hblk.cell 0
  have c1 := hblk.cell 1
  have c2 := hblk.cell 2
  have f0 := hblk.frozen 0
  have f1 := hblk.frozen 1
  have f2 := hblk.frozen 2
  simp at c0 c1 c2 f0 f1 f2
  have HBLK := Lib.hid hblk
  have HLOW := Lib.hid hlow
  have HW := Lib.hid hwd
  clear hblk hlow hwd
  rcases ws with _ | ⟨x, ws⟩
  · have HL := Lib.hid hl
    have HC := Lib.hid hc
    clear hc
    simp only [List.length_nil] at c0 hcl
    go_enter Try.func38, Try.ntmps38
    go_wp2_with (go_at_call 54; refine (step_any _ HL.out _).mono ?_; rintro e w' ⟨rfl, rfl⟩)
    go_ret
    exact ⟨rfl, ⟨⟨A, c, by simpa [lastOf] using (HBLK.out.set_ 2 (.int .i64 ((drawn : Int) + 1))).set_ 1 (.int .u64 (stepN last)), fun h0 => (by simp at h0), by simp, fun g o h0 => (by simp at h0)⟩, step_lt HL.out, hB, fun x hx => (by simp at hx), by simp⟩, _, _, _, _, rfl, rfl, rfl⟩
  · obtain ⟨g, o, rfl, hg, hcc⟩ := hc (by simp)
    have hx : w.cell? ⟨g, o, none⟩ = some (.int .u64 x) := by
      have := hcc 0 (by simp)
      simpa using this
    have HC := Lib.hid hcc
    clear hcc hc
    simp only [List.length_cons] at c0 hcl
    obtain ⟨N, hN⟩ : ∃ N, N = ws.length + 1 := ⟨_, rfl⟩
    rw [← hN] at c0 hcl
    have HN := Lib.hid hN
    have hN0 : 0 < N := by omega
    have hN6 : N ≤ 1000000 := by simp at hsm; omega
    clear hN ex hsm
    go_enter Try.func38, Try.ntmps38
    go_wp2
    all_goals go_ret
    all_goals have hn1 := HN.out
    · have h0 : ws = [] := List.eq_nil_of_length_eq_zero (by omega)
      subst h0
      obtain rfl : N = 1 := hn1
      exact ⟨rfl, ⟨⟨some ⟨g, o, none⟩, 0, by simpa [lastOf] using (HBLK.out.set_ 2 (.int .i64 ((drawn : Int) + 1))).set_ 0 (.slice (some ⟨g, o, none⟩) 0 0), fun h0 => (by simp at h0), by simp, fun g o h0 => (by simp at h0)⟩, hl, hB, fun x hx => (by simp at hx), by simp⟩, _, _, _, _, rfl, rfl, rfl⟩
    · have hn2 : N - 1 = ws.length := by omega
      rw [hn2]
      refine ⟨rfl, ⟨⟨some ⟨g, o + 1, none⟩, c - 1, by simpa [lastOf] using (HBLK.out.set_ 2 (.int .i64 ((drawn : Int) + 1))).set_ 0 (.slice (some ⟨g, o + 1, none⟩) ws.length (c - 1)), fun h0 => ⟨g, o + 1, rfl, hg, fun j hj => ?_⟩, by omega, fun g' o' h0 e => ?_⟩, hl, hB, fun x hx => HW.out x (by simp [hx]), by omega⟩, _, _, _, _, rfl, rfl, rfl⟩
      · rw [World.cell?_setCell_other _ _ _ _ (fun e => by injection e with e1; omega), World.cell?_setCell_other _ _ _ _ (fun e => by injection e with e1; omega)]
        have := HC.out (j + 1) (by simpa using hj)
        rw [show o + 1 + j = o + (j + 1) by omega, this]
        simp
      · injection e with e; injection e with e1; subst e1
        exact HLOW.out g o (by simp) rfl

end Go.Proofs.Ytllgepabjglnaaa

namespace Go.Proofs.Ytllgepabjglnaaa
open Go.RowKit
set_option linter.unusedVariables false
set_option linter.unusedSimpArgs false

theorem infoU9 : (Try.prog.info? 46).map (fun i => (i.zero, i.size, i.bytes)) = some (some (.int .u64 0), 1, 8) := by kernel_rfl
set_option maxHeartbeats 1000000 in
theorem clone_u64 (n : Nat) (f : Nat → Value) (B : Nat) (A : Option Addr) (c : Nat) (w : World) (hn : n ≤ 1000000) (h1 : ∀ j, j < n → (f j).oneCell' = true) (h : Cells w B A n f) (hB : B ≤ w.heap.size) :
    Calls Try.prog 35 #[.slice A n c] w fun e w' => ∃ A' c', e = .returned (.slice A' n c') ∧ w'.ownsRow w.heap.size 46 1 (.slice A' n c') n ((List.range n).map f) ∧ Below w.heap.size w w' := by
  have hnil := fun (w : World) (a : Option Addr) (n c : Nat) => Lib.run_eql_slice_nil (P := Try.prog) w 27 46 a n c 0 0 Try.underlying27
  obtain ⟨i0, hi, hz0, hz1, hz2⟩ := info_parts infoU9
  have H := Lib.hid h
  have H1 := Lib.hid h1
  clear h h1
  rcases A with _ | ad
  · go_enter Try.func35, Try.ntmps35
    go_wp2
    go_ret
    have h0 : n = 0 := by
      rcases Nat.eq_zero_or_pos n with h0 | h0
      · exact h0
      · obtain ⟨b, off, e, _⟩ := H.out h0
        cases e
    subst h0
    exact ⟨_, _, rfl, World.ownsRow_nil _ _ _ _, Below.refl _ _⟩
  · go_enter Try.func35, Try.ntmps35
    go_wp2_with (at_builtin; refine wpList_append_cells _ rfl _ _ 27 rfl w.heap.size 46 i0 (.int .u64 0) 8 Try.underlying27 hi hz0 hz1 hz2 rfl _ 0 [] rfl (World.ownsRow_lit w #[] 0 (Nat.le_refl _) (Nat.zero_le _) rfl) B _ n _ f rfl (H.out.alloc hB _) H1.out (by unfold maxLen; omega) (by omega) (by simp) ?_)
    intro v' w1 hown hg _
    have HO := Lib.hid hown
    have HG := Lib.hid hg
    clear hown hg
    go_wp2
    go_ret
    have ho : w1.ownsRow w.heap.size 46 1 v' n ((List.range n).map f) := by simpa using HO.out
    obtain ⟨A', c', hv', _⟩ := own_slice ho
    rw [hv'] at ho ⊢
    refine ⟨_, _, rfl, ho, ((Below.refl _ _).alloc (Nat.le_refl _) _).grown HG.out (by simp) (fun k hk => ?_)⟩
    simp [Value.ownBlock] at hk
    omega

/-- the seed that stands in for 0 -/
def seedOf (s : Nat) : Nat := if s = 0 then 88172645463325252 else s
/-- words that came in -/
def Words (w : World) (B : Nat) (A : Option Addr) (c : Nat) (ws : List Nat) : Prop := KInts .u64 w B A (ws.map (fun (x : Nat) => (x : Int))) ∧ ws.length ≤ c ∧ (∀ x ∈ ws, x < 2 ^ 64) ∧ ws.length ≤ 1000000
theorem Words.below {w w' : World} {B B' c : Nat} {A : Option Addr} {ws : List Nat} (h : Words w B A c ws) (hb : Below B' w w') (hB : B ≤ B') : Words w' B A c ws :=
  ⟨Cells.keep h.1 (fun p hp => hb.cell (by omega)), h.2⟩

set_option maxHeartbeats 1000000 in
theorem rng_new {w : World} {B c : Nat} {A : Option Addr} {ws : List Nat} (h : Words w B A c ws) (hB : B ≤ w.heap.size) (s : Nat) (hs : s < 2 ^ 64) :
    Calls Try.prog 15 #[.slice A ws.length c, .int .u64 s] w fun e w' => ∃ b, e = .returned (.pointer (some ⟨b, 0, none⟩)) ∧ Strm w' w.heap.size b ws (seedOf s) 0 ∧ Below w.heap.size w w' := by
  obtain ⟨h1, h2, h3, h4⟩ := h
  have hc := fun w (hc : KInts .u64 w B A (ws.map (fun (x : Nat) => (x : Int)))) (hB : B ≤ w.heap.size) => clone_u64 ws.length (fun j => .int .u64 ((ws.map (fun (x : Nat) => (x : Int))).getD j 0)) B A c w h4 (fun _ _ => rfl) (by simpa [KInts] using hc) hB
  have HC := Lib.hid hc
  have H1 := Lib.hid h1
  have H3 := Lib.hid h3
  have hsl : seedOf s < 2 ^ 64 := by unfold seedOf; split <;> omega
  have HS := Lib.hid hsl
  clear hc h1 h3 hsl
  have fin : ∀ (A' : Option Addr) (c' : Nat) (w1 w2 : World) (_ : w1.ownsRow w.heap.size 46 1 (.slice A' ws.length c') ws.length ((List.range ws.length).map fun j => .int .u64 ((ws.map (fun (x : Nat) => (x : Int))).getD j 0))) (_ : Below w.heap.size w w1),
      Strm (w1.alloc (.cells #[.slice A' ws.length c', .int .u64 (seedOf s), .int .i64 0] 82)) w.heap.size w1.heap.size ws (seedOf s) 0 := fun A' c' w1 w2 ho hb => by
    refine ⟨⟨A', c', Blk.new w1 _ _, ?_, ?_, ?_⟩, HS.out, hb.size, H3.out, h4⟩
    · have := cells_of_own ho undef
      refine Cells.congr (show Cells _ _ A' (ws.map (fun (x : Nat) => (x : Int))).length _ by simpa using this.alloc (Nat.le_refl _) _) fun j hj => ?_
      simp at hj
      simp [List.getD, hj]
    · obtain ⟨A2, c2, e, hle, _⟩ := own_slice ho
      injection e with e1 e2 e3; omega
    · intro g o h0 e
      obtain ⟨g', e', hg', _⟩ := own_addr ho h0
      rw [e'] at e; injection e with e; injection e with e1; omega
  have FIN := Lib.hid fin
  clear fin
  rcases Nat.eq_zero_or_pos s with rfl | hs0
  · go_enter Try.func15, Try.ntmps15
    go_wp2_with fail
    refine (HC.out _ H1.out hB).mono ?_
    rintro e w1 ⟨A', c', rfl, ho, hb⟩
    have HO := Lib.hid ho
    have HB := Lib.hid hb
    clear ho hb
    go_wp2
    go_ret
    exact ⟨_, rfl, FIN.out A' c' w1 w1 HO.out HB.out, HB.out.alloc (HB.out.size) _⟩
  · have hs1 : ((s : Int) == 0) = false := by simp; omega
    have he : seedOf s = s := by unfold seedOf; rw [if_neg (by omega)]
    rw [he] at FIN ⊢
    clear hs0 he
    go_enter Try.func15, Try.ntmps15
    go_wp2_with fail
    refine (HC.out _ H1.out hB).mono ?_
    rintro e w1 ⟨A', c', rfl, ho, hb⟩
    have HO := Lib.hid ho
    have HB := Lib.hid hb
    clear ho hb
    go_wp2
    go_ret
    exact ⟨_, rfl, FIN.out A' c' w1 w1 HO.out HB.out, HB.out.alloc (HB.out.size) _⟩

theorem next_lt {w : World} {B b : Nat} {ws : List Nat} {last drawn : Nat} (h : Strm w B b ws last drawn) : nextOf ws last < 2 ^ 64 := by
  unfold nextOf
  split
  · exact step_lt h.last
  · rcases ws with _ | ⟨x, ws⟩
    · contradiction
    · exact h.wide x (by simp)

theorem rng_below_none {w : World} {b : Nat} (n : Int) (hn : n < 1) : Calls Try.prog 19 #[.pointer (some ⟨b, 0, none⟩), .int .i64 n] w fun e w' => e = .returned (.int .i64 0) ∧ w = w' := by
  go_enter Try.func19, Try.ntmps19
  go_wp2
  go_ret
  exact ⟨rfl, rfl⟩
set_option maxHeartbeats 1000000 in
theorem rng_below {w : World} {B b : Nat} {ws : List Nat} {last drawn : Nat} (h : Strm w B b ws last drawn) (hd : drawn ≤ 1000000) (m : Nat) (hm : 0 < m) (hm2 : m ≤ 9223372036854775807) :
    Calls Try.prog 19 #[.pointer (some ⟨b, 0, none⟩), .int .i64 m] w fun e w' => e = .returned (.int .i64 ((nextOf ws last % m : Nat) : Int)) ∧ Strm w' B b ws.tail (lastOf ws last) (drawn + 1) ∧ Only b w w' := by
  have HX := Lib.hid (rng_next h hd)
  have hlt := next_lt h
  obtain ⟨x, hx⟩ : ∃ x, nextOf ws last = x := ⟨_, rfl⟩
  rw [hx] at HX hlt ⊢
  obtain ⟨r, hr⟩ : ∃ r : Nat, r = x % m := ⟨_, rfl⟩
  have hrm : r < m := by rw [hr]; exact Nat.mod_lt _ hm
  have e1 : (x : Int) % (m : Int) = (r : Int) := by rw [hr]; simp
  have e3 : IntKind.u64.wrap (m : Int) = (m : Int) := by rw [u64_wrap9, Nat.mod_eq_of_lt (by omega)]
  have e2 : IntKind.i64.wrap (r : Int) = (r : Int) := IntWalk.i64_in _ (by omega)
  rw [← hr]
  clear hx hr
  go_enter Try.func19, Try.ntmps19
  go_wp2_with fail
  with_reducible refine HX.out.mono ?_
  rintro e w1 ⟨rfl, hs, ho⟩
  go_wp2
  go_ret
  exact ⟨rfl, hs, ho⟩

theorem rng_chance_none {w : World} {b : Nat} (n m : Int) (hm : m < 1) : Calls Try.prog 70 #[.pointer (some ⟨b, 0, none⟩), .int .i64 n, .int .i64 m] w fun e w' => e = .returned (.bool false) ∧ w = w' := by
  go_enter Try.func70, Try.ntmps70
  go_wp2
  go_ret
  exact ⟨rfl, rfl⟩
theorem rng_chance {w : World} {B b : Nat} {ws : List Nat} {last drawn : Nat} (h : Strm w B b ws last drawn) (hd : drawn ≤ 1000000) (n : Int) (m : Nat) (hm : 0 < m) (hm2 : m ≤ 9223372036854775807) :
    Calls Try.prog 70 #[.pointer (some ⟨b, 0, none⟩), .int .i64 n, .int .i64 m] w fun e w' => e = .returned (.bool (decide (((nextOf ws last % m : Nat) : Int) < n))) ∧ Strm w' B b ws.tail (lastOf ws last) (drawn + 1) ∧ Only b w w' := by
  have HX := Lib.hid (rng_below h hd m hm hm2)
  obtain ⟨r, hr⟩ : ∃ r : Nat, nextOf ws last % m = r := ⟨_, rfl⟩
  rw [hr] at HX ⊢
  clear hr
  go_enter Try.func70, Try.ntmps70
  go_wp2_with fail
  with_reducible refine HX.out.mono ?_
  rintro e w1 ⟨rfl, hs, ho⟩
  go_wp2
  go_ret
  exact ⟨rfl, hs, ho⟩
theorem rng_drawn {w : World} {B b : Nat} {ws : List Nat} {last drawn : Nat} (h : Strm w B b ws last drawn) :
    Calls Try.prog 23 #[.pointer (some ⟨b, 0, none⟩)] w fun e w' => e = .returned (.int .i64 drawn) ∧ w = w' := by
  obtain ⟨A, c, hblk, _⟩ := h.ex
  have c2 := hblk.cell 2
  simp at c2
  clear hblk h
  go_enter Try.func23, Try.ntmps23
  go_wp2
  go_ret
  exact ⟨rfl, rfl⟩

end Go.Proofs.Ytllgepabjglnaaa
