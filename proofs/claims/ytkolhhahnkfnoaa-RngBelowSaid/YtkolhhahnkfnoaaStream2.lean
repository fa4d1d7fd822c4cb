/- What package rng answers: a new stream, remainders, chances, how many were drawn. -/
import Derived.Test.YtkolhhahnkfnoaaStream
namespace Go.Proofs.Ytkolhhahnkfnoaa
open Go.RowKit
set_option linter.unusedVariables false
set_option linter.unusedSimpArgs false

theorem infoU9 : (Try.prog.info? 23).map (fun i => (i.zero, i.size, i.bytes)) = some (some (.int .u64 0), 1, 8) := by kernel_rfl
set_option maxHeartbeats 1000000 in
theorem clone_u64 (n : Nat) (f : Nat → Value) (B : Nat) (A : Option Addr) (c : Nat) (w : World) (hn : n ≤ 1000000) (h1 : ∀ j, j < n → (f j).oneCell' = true) (h : Cells w B A n f) (hB : B ≤ w.heap.size) :
    Calls Try.prog 16 #[.slice A n c] w fun e w' => ∃ A' c', e = .returned (.slice A' n c') ∧ w'.ownsRow w.heap.size 23 1 (.slice A' n c') n ((List.range n).map f) ∧ Below w.heap.size w w' := by
  have hnil := fun (w : World) (a : Option Addr) (n c : Nat) => Lib.run_eql_slice_nil (P := Try.prog) w 22 23 a n c 0 0 Try.underlying22
  obtain ⟨i0, hi, hz0, hz1, hz2⟩ := info_parts infoU9
  have H := Lib.hid h
  have H1 := Lib.hid h1
  clear h h1
  rcases A with _ | ad
  · go_enter Try.func16, Try.ntmps16
    go_wp2
    go_ret
    have h0 : n = 0 := by
      rcases Nat.eq_zero_or_pos n with h0 | h0
      · exact h0
      · obtain ⟨b, off, e, _⟩ := H.out h0
        cases e
    subst h0
    exact ⟨_, _, rfl, World.ownsRow_nil _ _ _ _, Below.refl _ _⟩
  · go_enter Try.func16, Try.ntmps16
    go_wp2_with (at_builtin; refine wpList_append_cells _ rfl _ _ 22 rfl w.heap.size 23 i0 (.int .u64 0) 8 Try.underlying22 hi hz0 hz1 hz2 rfl _ 0 [] rfl (World.ownsRow_lit w #[] 0 (Nat.le_refl _) (Nat.zero_le _) rfl) B _ n _ f rfl (H.out.alloc hB _) H1.out (by unfold maxLen; omega) (by omega) (by simp) ?_)
    intro v' w1 hown hg _
    have HO := Lib.hid hown
    have HG := Lib.hid hg
    clear hown hg
    go_wp2
    go_ret
    have ho : w1.ownsRow w.heap.size 23 1 v' n ((List.range n).map f) := by simpa using HO.out
    obtain ⟨A', c', hv', _⟩ := own_slice ho
    rw [hv'] at ho ⊢
    refine ⟨_, _, rfl, ho, ((Below.refl _ _).alloc (Nat.le_refl _) _).grown HG.out (by simp) (fun k hk => ?_)⟩
    simp [Value.ownBlock] at hk
    omega

/-- the seed that stands in for 0 -/
def seedOf (s : Nat) : Nat := if s = 0 then 88172645463325252 else s
/-- words that came in -/
def Words (w : World) (B : Nat) (A : Option Addr) (c : Nat) (ws : List Nat) : Prop := KInts .u64 w B A (ws.map (fun (x : Nat) => (x : Int))) ∧ ws.length ≤ c ∧ (∀ x ∈ ws, x < 2 ^ 64) ∧ ws.length ≤ 1000000
theorem Words.below {w w' : World} {B B' c : Nat} {A : Option Addr} {ws : List Nat} (h : Words w B A c ws) (hb : Below B' w w') (hB : B ≤ B') : Words w' B A c ws :=
  ⟨Cells.keep h.1 (fun p hp => hb.cell (by omega)), h.2⟩

set_option maxHeartbeats 1000000 in
theorem new_any {w : World} {B c : Nat} {A : Option Addr} {ws : List Nat} (h : Words w B A c ws) (hB : B ≤ w.heap.size) (s : Nat) (hs : s < 2 ^ 64) :
    Calls Try.prog 8 #[.slice A ws.length c, .int .u64 s] w fun e w' => ∃ b, e = .returned (.pointer (some ⟨b, 0, none⟩)) ∧ Strm w' w.heap.size b ws (seedOf s) 0 ∧ Below w.heap.size w w' := by
  obtain ⟨h1, h2, h3, h4⟩ := h
  have hc := fun w (hc : KInts .u64 w B A (ws.map (fun (x : Nat) => (x : Int)))) (hB : B ≤ w.heap.size) => clone_u64 ws.length (fun j => .int .u64 ((ws.map (fun (x : Nat) => (x : Int))).getD j 0)) B A c w h4 (fun _ _ => rfl) (by simpa [KInts] using hc) hB
  have HC := Lib.hid hc
  have H1 := Lib.hid h1
  have H3 := Lib.hid h3
  have hsl : seedOf s < 2 ^ 64 := by unfold seedOf; split <;> omega
  have HS := Lib.hid hsl
  clear hc h1 h3 hsl
  have fin : ∀ (A' : Option Addr) (c' : Nat) (w1 w2 : World) (_ : w1.ownsRow w.heap.size 23 1 (.slice A' ws.length c') ws.length ((List.range ws.length).map fun j => .int .u64 ((ws.map (fun (x : Nat) => (x : Int))).getD j 0))) (_ : Below w.heap.size w w1),
      Strm (w1.alloc (.cells #[.slice A' ws.length c', .int .u64 (seedOf s), .int .i64 0] 39)) w.heap.size w1.heap.size ws (seedOf s) 0 := fun A' c' w1 w2 ho hb => by
    refine ⟨⟨A', c', Blk.new w1 _ _, ?_, ?_, ?_⟩, HS.out, hb.size, H3.out, h4⟩
    · have := cells_of_own ho undef
      refine Cells.congr (show Cells _ _ A' (ws.map (fun (x : Nat) => (x : Int))).length _ by simpa using this.alloc (Nat.le_refl _) _) fun j hj => ?_
      simp at hj
      simp [List.getD, hj]
    · obtain ⟨A2, c2, e, hle, _⟩ := own_slice ho
      injection e with e1 e2 e3; omega
    · intro g o h0 e
      obtain ⟨g', e', hg', _⟩ := own_addr ho h0
      rw [e'] at e; injection e with e; injection e with e1; omega
  have FIN := Lib.hid fin
  clear fin
  rcases Nat.eq_zero_or_pos s with rfl | hs0
  · go_enter Try.func8, Try.ntmps8
    go_wp2_with fail
    refine (HC.out _ H1.out hB).mono ?_
    rintro e w1 ⟨A', c', rfl, ho, hb⟩
    have HO := Lib.hid ho
    have HB := Lib.hid hb
    clear ho hb
    go_wp2
    go_ret
    exact ⟨_, rfl, FIN.out A' c' w1 w1 HO.out HB.out, HB.out.alloc (HB.out.size) _⟩
  · have hs1 : ((s : Int) == 0) = false := by simp; omega
    have he : seedOf s = s := by unfold seedOf; rw [if_neg (by omega)]
    rw [he] at FIN ⊢
    clear hs0 he
    go_enter Try.func8, Try.ntmps8
    go_wp2_with fail
    refine (HC.out _ H1.out hB).mono ?_
    rintro e w1 ⟨A', c', rfl, ho, hb⟩
    have HO := Lib.hid ho
    have HB := Lib.hid hb
    clear ho hb
    go_wp2
    go_ret
    exact ⟨_, rfl, FIN.out A' c' w1 w1 HO.out HB.out, HB.out.alloc (HB.out.size) _⟩

theorem next_lt {w : World} {B b : Nat} {ws : List Nat} {last drawn : Nat} (h : Strm w B b ws last drawn) : nextOf ws last < 2 ^ 64 := by
  unfold nextOf
  split
  · exact step_lt h.last
  · rcases ws with _ | ⟨x, ws⟩
    · contradiction
    · exact h.wide x (by simp)

theorem below_none {w : World} {b : Nat} (n : Int) (hn : n < 1) : Calls Try.prog 12 #[.pointer (some ⟨b, 0, none⟩), .int .i64 n] w fun e w' => e = .returned (.int .i64 0) ∧ w = w' := by
  go_enter Try.func12, Try.ntmps12
  go_wp2
  go_ret
  exact ⟨rfl, rfl⟩
set_option maxHeartbeats 1000000 in
theorem below_any {w : World} {B b : Nat} {ws : List Nat} {last drawn : Nat} (h : Strm w B b ws last drawn) (hd : drawn ≤ 1000000) (m : Nat) (hm : 0 < m) (hm2 : m ≤ 9223372036854775807) :
    Calls Try.prog 12 #[.pointer (some ⟨b, 0, none⟩), .int .i64 m] w fun e w' => e = .returned (.int .i64 ((nextOf ws last % m : Nat) : Int)) ∧ Strm w' B b ws.tail (lastOf ws last) (drawn + 1) ∧ Only b w w' := by
  have HX := Lib.hid (next_any h hd)
  have hlt := next_lt h
  obtain ⟨x, hx⟩ : ∃ x, nextOf ws last = x := ⟨_, rfl⟩
  rw [hx] at HX hlt ⊢
  obtain ⟨r, hr⟩ : ∃ r : Nat, r = x % m := ⟨_, rfl⟩
  have hrm : r < m := by rw [hr]; exact Nat.mod_lt _ hm
  have e1 : (x : Int) % (m : Int) = (r : Int) := by rw [hr]; simp
  have e3 : IntKind.u64.wrap (m : Int) = (m : Int) := by rw [u64_wrap9, Nat.mod_eq_of_lt (by omega)]
  have e2 : IntKind.i64.wrap (r : Int) = (r : Int) := IntWalk.i64_in _ (by omega)
  rw [← hr]
  clear hx hr
  go_enter Try.func12, Try.ntmps12
  go_wp2_with fail
  with_reducible refine HX.out.mono ?_
  rintro e w1 ⟨rfl, hs, ho⟩
  go_wp2
  go_ret
  exact ⟨rfl, hs, ho⟩

theorem chance_none {w : World} {b : Nat} (n m : Int) (hm : m < 1) : Calls Try.prog 13 #[.pointer (some ⟨b, 0, none⟩), .int .i64 n, .int .i64 m] w fun e w' => e = .returned (.bool false) ∧ w = w' := by
  go_enter Try.func13, Try.ntmps13
  go_wp2
  go_ret
  exact ⟨rfl, rfl⟩
theorem chance_any {w : World} {B b : Nat} {ws : List Nat} {last drawn : Nat} (h : Strm w B b ws last drawn) (hd : drawn ≤ 1000000) (n : Int) (m : Nat) (hm : 0 < m) (hm2 : m ≤ 9223372036854775807) :
    Calls Try.prog 13 #[.pointer (some ⟨b, 0, none⟩), .int .i64 n, .int .i64 m] w fun e w' => e = .returned (.bool (decide (((nextOf ws last % m : Nat) : Int) < n))) ∧ Strm w' B b ws.tail (lastOf ws last) (drawn + 1) ∧ Only b w w' := by
  have HX := Lib.hid (below_any h hd m hm hm2)
  obtain ⟨r, hr⟩ : ∃ r : Nat, nextOf ws last % m = r := ⟨_, rfl⟩
  rw [hr] at HX ⊢
  clear hr
  go_enter Try.func13, Try.ntmps13
  go_wp2_with fail
  with_reducible refine HX.out.mono ?_
  rintro e w1 ⟨rfl, hs, ho⟩
  go_wp2
  go_ret
  exact ⟨rfl, hs, ho⟩
theorem drawn_any {w : World} {B b : Nat} {ws : List Nat} {last drawn : Nat} (h : Strm w B b ws last drawn) :
    Calls Try.prog 14 #[.pointer (some ⟨b, 0, none⟩)] w fun e w' => e = .returned (.int .i64 drawn) ∧ w = w' := by
  obtain ⟨A, c, hblk, _⟩ := h.ex
  have c2 := hblk.cell 2
  simp at c2
  clear hblk h
  go_enter Try.func14, Try.ntmps14
  go_wp2
  go_ret
  exact ⟨rfl, rfl⟩
end Go.Proofs.Ytkolhhahnkfnoaa
