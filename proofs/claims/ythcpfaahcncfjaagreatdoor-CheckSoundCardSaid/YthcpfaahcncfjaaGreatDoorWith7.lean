/- A part of a row: what a slice expression gives. No program is named here. With: the search for a clause's number by halves. With: the next clause that has a literal. The clauses that have a literal, in their order: which one comes behind a number. A loop over a function that is ranged over, where each value that is yielded is laid anew, and the rounds may turn all memory but the loops' own records. No program is named here. A region that draws its order, in a round of a loop over a function: walked by the laws that serve everywhere else. No program is named here. With: what it yields, clause by clause. -/
import Derived.Test.YthcpfaahcncfjaaGreatDoorOwn
import Derived.Test.YthcpfaahcncfjaaGreatDoorUse7
import Derived.Test.YthcpfaahcncfjaaGreatDoorWat07
import Derived.RangeFuncKeeps
import Derived.RangeFuncLeaves
import Derived.RangeFuncCalls
import Derived.Test.YthcpfaahcncfjaaGreatDoorRecs
import Derived.OrdersIn
import Derived.OrdersHeld
import Derived.OwnWalkIn
import Derived.Deep.RegionHeld3
import Derived.RangeFuncBound
import Derived.Shelf.Abstract
import Derived.Shelf.RegionOpen
import Derived.TacticsInMore
import Derived.LoopNIn
import Derived.LoopIn
import Derived.Sort.LoopGhostIn
namespace Go.Proofs.YthcpfaahcncfjaaGreatDoor
open Go.RowKit
set_option linter.unusedVariables false
set_option linter.unusedSimpArgs false

theorem run_front7 {P : Program} {t e : TypeId} (ht : P.underlying t = some (.slice e)) (w : World) (hz : (sizeOf e).run P w = .ok 1 w) (b off n c k : Nat) (hk : k ≤ c) : (Instr.slice t (.slice (some ⟨b, off, none⟩) n c) none (some (.int .i64 k)) none).run P w = .ok (.slice (some ⟨b, off, none⟩) k c) w := by
  have h1 : (0 : Int) ≤ (k : Int) := Int.natCast_nonneg _
  have h2 : (k : Int) ≤ (c : Int) := by omega
  simp [Instr.slice, run_underlying ht, Instr.sliceBounds, go_sem, h1, h2, hz, Result.andThen]
theorem run_back7 {P : Program} {t e : TypeId} (ht : P.underlying t = some (.slice e)) (w : World) (hz : (sizeOf e).run P w = .ok 1 w) (b off n c k : Nat) (hk : k ≤ n) (hn : n ≤ c) : (Instr.slice t (.slice (some ⟨b, off, none⟩) n c) (some (.int .i64 k)) none none).run P w = .ok (.slice (if c = k then some ⟨b, off, none⟩ else some ⟨b, off + k, none⟩) (n - k) (c - k)) w := by
  have h1 : (0 : Int) ≤ (k : Int) := Int.natCast_nonneg _
  have h2 : (k : Int) ≤ (n : Int) := by omega
  have h3 : (n : Int) ≤ (c : Int) := by omega
  simp [Instr.slice, run_underlying ht, Instr.sliceBounds, go_sem, h1, h2, h3, hk, hn, hz, Result.andThen]
theorem wpList_slice7 {P : Program} {ops : Array Oper} {rest : List Oper} {o : Oper} {a : Act} {Q : Exit → Act → World → Prop} {w : World} (hg : o.guard = none) (t : TypeId) (x : Operand) (lo hi mx : Option Operand) (hop : o.op = Op.slice t x lo hi mx)
    (v r : Value) (hx : a.eval x = v) (lo' hi' mx' : Option Value) (hlo : lo.map a.eval = lo') (hhi : hi.map a.eval = hi') (hmx : mx.map a.eval = mx') (hrun : (Instr.slice t v lo' hi' mx').run P w = .ok r w) (hund : P.underlying t = some (.slice (P.elem t))) (hK : wpList P ops Q rest (a.put o.dst r) w) : wpList P ops Q (o :: rest) a w := by
  refine wpList_plain hg fun K' hK' => ?_
  subst hlo hhi hmx
  unfold Oper.wp
  simp [execOp, hop, hx, hrun, run_sliceAt_slice, hund, Result.andThen]
  exact hK' _ _ hK
end Go.Proofs.YthcpfaahcncfjaaGreatDoor

namespace Go.Proofs.YthcpfaahcncfjaaGreatDoor
open Go.RowKit
set_option linter.unusedVariables false
set_option linter.unusedSimpArgs false

theorem next1_any (x : CX) (p : Nat) (n : Int) (w : World) (h : Blk w p 120 x.cells) :
    Calls Tryz.prog 94 #[.pointer (some ⟨p, 0, none⟩), .int .i64 n] w fun e w' => e = .returned (.int .i64 (cmpInt x.num n)) ∧ w = w' := by
  have h0 : w.cell? ⟨p, 0, none⟩ = some (.int .i64 x.num) := h.cell 0
  clear h
  go_enter Tryz.func94, Tryz.ntmps94
  go_wp2_with (go_at_call 95; refine (cmp_any _ _ _).mono ?_; rintro e w' ⟨rfl, rfl⟩)
  go_ret
  exact ⟨rfl, rfl⟩

set_option maxRecDepth 100000 in
theorem bsearch7 (ps : List Nat) (C : Nat → CX) (n : Nat) (B : Nat) (A : Option Addr) (c : Nat) (w : World) (hl : ps.length ≤ 1000000000) (hr : ps.Pairwise fun p q => (C p).num < (C q).num)
    (hC : ∀ p, p ∈ ps → Blk w p 120 (C p).cells) (h : Cells w B A ps.length fun j => .pointer (some ⟨ps.getD j 0, 0, none⟩)) :
    Calls Tryz.prog 93 #[.slice A ps.length c, .int .i64 n, .func (.func 94) #[] #[]] w fun e w' =>
      (∃ (i : Nat) (b : Bool), e = .returned (.tuple #[.int .i64 i, .bool b]) ∧ i ≤ ps.length ∧ (∀ k, k < i → (C (ps.getD k 0)).num < n) ∧ ∀ k, i ≤ k → k < ps.length → n ≤ (C (ps.getD k 0)).num) ∧ w' = w := by
  have H := Lib.hid h
  have HC : Hid (∀ k, k < ps.length → Blk w (ps.getD k 0) 120 (C (ps.getD k 0)).cells) := Lib.hid fun k hk => hC _ (by rw [show ps.getD k 0 = ps[k] by simp [List.getD, hk]]; exact List.getElem_mem hk)
  have HM : Hid (∀ k k', k ≤ k' → k' < ps.length → (C (ps.getD k 0)).num ≤ (C (ps.getD k' 0)).num) := Lib.hid fun k k' hk hk' => by
    rcases Nat.lt_or_ge k k' with h | h
    · have := List.pairwise_iff_getElem.1 hr k k' (by omega) hk' h
      simp only [List.getD, List.getElem?_eq_getElem (show k < ps.length by omega), List.getElem?_eq_getElem hk', Option.getD_some]
      omega
    · rw [show k = k' by omega]; exact Nat.le_refl _
  clear h hC hr
  go_enter Tryz.func93, Tryz.ntmps93
  go_wp2
  go_loopw [9, 10] (fun a b wr => ∃ i j : Nat, w = wr ∧ a = .int .i64 i ∧ b = .int .i64 j ∧ i ≤ j ∧ j ≤ ps.length ∧ Hid (∀ k, k < i → (C (ps.getD k 0)).num < n) ∧ Hid (∀ k, j ≤ k → k < ps.length → n ≤ (C (ps.getD k 0)).num)) (fun a b _ => (intOf b - intOf a).toNat)
  case atStart => exact ⟨0, ps.length, rfl, rfl, rfl, Nat.zero_le _, Nat.le_refl _, Lib.hid (fun k hk => by omega), Lib.hid (fun k h1 h2 => by omega)⟩
  case round =>
    obtain ⟨i, j, rfl, rfl, rfl, hij, hj, H1, H2⟩ := hrel
    by_cases hlt : i < j
    · obtain ⟨m, hm⟩ : ∃ m : Nat, m = (i + j) / 2 := ⟨_, rfl⟩
      have hmi : ((i : Int) + (j : Int)) / 2 = (m : Int) := by omega
      have hm1 : i ≤ m := by omega
      have hm2 : m < j := by omega
      clear hm
      obtain ⟨b, off, rfl, _, hcell⟩ := H.out.at_ (show m < ps.length by omega)
      have HN := Lib.hid (next1_any (C (ps.getD m 0)) (ps.getD m 0) n w (HC.out m (by omega)))
      have HX : Hid (∀ k, k ≤ m → (C (ps.getD k 0)).num ≤ (C (ps.getD m 0)).num) := Lib.hid fun k hk => HM.out k m hk (by omega)
      have HY : Hid (∀ k, m ≤ k → k < ps.length → (C (ps.getD m 0)).num ≤ (C (ps.getD k 0)).num) := Lib.hid fun k hk hk2 => HM.out m k hk hk2
      obtain ⟨p, hp⟩ : ∃ p, p = ps.getD m 0 := ⟨_, rfl⟩
      rw [← hp] at hcell HN HX HY
      clear hp
      obtain ⟨y, hy⟩ : ∃ y, y = (C p).num := ⟨_, rfl⟩
      rw [← hy] at HN HX HY
      clear hy
      by_cases hc : (y : Int) < (n : Int)
      · have hcc : cmpInt (y : Int) (n : Int) = -1 := by unfold cmpInt; rw [if_pos hc]
        rw [hcc] at HN
        clear hcc
        go_wp2_with (go_at_call 94; refine HN.out.mono ?_; rintro e w' ⟨rfl, rfl⟩)
        go_roundw
        case rel =>
          refine ⟨m + 1, j, (by trivial), by go_num, rfl, by omega, hj, Lib.hid fun k hk => ?_, H2⟩
          have := HX.out k (by omega)
          omega
        case measure => simp [intOf]; omega
      · have hcc : cmpInt (y : Int) (n : Int) = 0 ∨ cmpInt (y : Int) (n : Int) = 1 := by unfold cmpInt; rw [if_neg hc]; split <;> simp
        rcases hcc with hcc | hcc
        all_goals
          rw [hcc] at HN
          clear hcc
          go_wp2_with (go_at_call 94; refine HN.out.mono ?_; rintro e w' ⟨rfl, rfl⟩)
          go_roundw
          case rel =>
            refine ⟨i, m, (by trivial), rfl, rfl, by omega, by omega, H1, Lib.hid fun k hk hk2 => ?_⟩
            have := HY.out k hk hk2
            omega
          case measure => simp [intOf]; omega
    · obtain rfl : i = j := by omega
      by_cases hin : i < ps.length
      · obtain ⟨b, off, rfl, _, hcell⟩ := H.out.at_ hin
        have HN := Lib.hid (next1_any (C (ps.getD i 0)) (ps.getD i 0) n w (HC.out i hin))
        obtain ⟨p, hp⟩ : ∃ p, p = ps.getD i 0 := ⟨_, rfl⟩
        rw [← hp] at hcell HN
        clear hp
        obtain ⟨r, hrr⟩ : ∃ r, r = cmpInt (C p).num n := ⟨_, rfl⟩
        rw [← hrr] at HN
        clear hrr
        go_wp2_with (go_at_call 94; refine HN.out.mono ?_; rintro e w' ⟨rfl, rfl⟩)
        go_ret2
        exact ⟨⟨i, _, rfl, hj, H1.out, H2.out⟩, rfl⟩
      · go_wp2
        go_ret2
        exact ⟨⟨i, _, rfl, hj, H1.out, H2.out⟩, rfl⟩

theorem index77 (xs : List Int) (B : Nat) (A : Option Addr) (c : Nat) (x : Int) (w : World) (hx : xs.length ≤ 1099511627776) (h : Ints w B A xs) :
    Calls Tryz.prog 114 #[.slice A xs.length c, .int .i64 x] w fun e w' => (∃ r : Int, e = .returned (.int .i64 r) ∧ (0 ≤ r ↔ x ∈ xs)) ∧ w = w' := by
  have H := Lib.hid h
  clear h
  go_enter Tryz.func114, Tryz.ntmps114
  go_wp2
  go_loopg [8] (xs.length + 1) (fun gk i wr => ∃ k : Nat, k ≤ xs.length ∧ gk = xs.length - k + 1 ∧ i = .int .i64 k ∧ w = wr ∧ Hid (∀ y, y ∈ xs.take k → y ≠ x))
  case atStart => exact ⟨0, by omega, by omega, rfl, rfl, Lib.hid (by simp)⟩
  case round =>
    obtain ⟨k, hk, rfl, rfl, rfl, hn⟩ := hrel
    by_cases hlt : k < xs.length
    · obtain ⟨b, off, rfl, _, hc⟩ := Cells.at_ H.out hlt
      obtain ⟨htk, hm⟩ := take_snoc7 hlt
      obtain ⟨y, hy⟩ : ∃ y, y = xs.getD k 0 := ⟨_, rfl⟩
      rw [← hy] at hc htk hm
      have HTK := Lib.hid htk
      have HM := Lib.hid hm
      clear hy htk hm
      by_cases he : x = y
      · have HD : Hid (x ∈ xs) := Lib.hid (by rw [he]; exact HM.out)
        go_wp2
        go_ret
        exact ⟨⟨k, rfl, fun _ => HD.out, fun _ => by omega⟩, rfl⟩
      · have HE := Lib.hid he
        go_wp2
        go_roundg (xs.length - k)
        case measure => omega
        case rel =>
          refine ⟨k + 1, by omega, by omega, by go_num, rfl, Lib.hid fun z hz => ?_⟩
          rw [HTK.out] at hz
          rcases List.mem_append.1 hz with hz | hz
          · exact hn.out z hz
          · rw [List.mem_singleton.1 hz]; exact fun e => HE.out e.symm
    · obtain rfl : k = xs.length := by omega
      rw [List.take_length] at hn
      go_wp2
      go_ret
      exact ⟨⟨-1, rfl, fun h => by omega, fun h => absurd rfl (hn.out x h)⟩, rfl⟩

theorem contains59 (xs : List Int) (B : Nat) (A : Option Addr) (c : Nat) (x : Int) (w : World) (hx : xs.length ≤ 1099511627776) (h : Ints w B A xs) :
    Calls Tryz.prog 98 #[.slice A xs.length c, .int .i64 x] w fun e w' => e = .returned (.bool (decide (x ∈ xs))) ∧ w = w' := by
  have HI := Lib.hid (index77 xs B A c x w hx h)
  clear h
  go_enter Tryz.func98, Tryz.ntmps98
  go_wp2_with (go_at_call 114; refine HI.out.mono ?_; rintro e w' ⟨⟨r, rfl, hr⟩, rfl⟩; have HR := Lib.hid hr; clear hr)
  go_ret
  exact ⟨congrArg (fun b => Ending.returned (Value.bool b)) (decide_eq_decide.2 HR.out), rfl⟩

theorem next2_any (x : CX) (p lb B : Nat) (l : Int) (w : World) (h : Blk w p 120 x.cells) (hl : w.cell? ⟨lb, 0, none⟩ = some (.int .i64 l)) (hr : Ints w B x.A x.lits) (hn : x.lits.length ≤ 1000000000) :
    Calls Tryz.prog 97 #[.pointer (some ⟨p, 0, none⟩), .pointer (some ⟨lb, 0, none⟩)] w fun e w' => e = .returned (.bool (!x.gone && decide (l ∈ x.lits))) ∧ ∃ q, w' = w.drewN q := by
  have h1 : w.cell? ⟨p, 1, none⟩ = some (.slice x.A x.lits.length x.c) := h.cell 1
  have h5 : w.cell? ⟨p, 5, none⟩ = some (.bool x.gone) := h.cell 5
  have HC := Lib.hid (fun q => contains59 x.lits B x.A x.c l (w.drewN q) (by omega) hr)
  obtain ⟨g, hg⟩ : ∃ g, g = x.gone := ⟨_, rfl⟩
  rw [← hg] at h5 ⊢
  clear h hr hg
  cases g with
  | true =>
    go_enter Tryz.func97, Tryz.ntmps97
    go_wp2
    go_quiet (fail)
    go_wp2
    go_ret
    exact ⟨rfl, _, rfl⟩
  | false =>
    go_enter Tryz.func97, Tryz.ntmps97
    go_wp2
    go_quiet ((go_at_call 98; with_reducible exact quiet_left (HC.out _)))
    go_wp2
    go_ret
    exact ⟨rfl, _, rfl⟩

set_option maxRecDepth 100000 in
/-- the first clause of a row that a quiet closure takes -/
theorem indexfunc7s (n c B g : Nat) (A : Option Addr) (f : Nat → Value) (lb : Array Value) (P : Nat → Bool) (w : World) (hn : n ≤ 1000000000) (h : Cells w B A n f)
    (hc : ∀ k q, k < n → Calls Tryz.prog g (#[f k] ++ lb) (w.drewN q) fun e w' => e = .returned (.bool (P k)) ∧ ∃ r, w' = (w.drewN q).drewN r) (eg : ∀ args w, (callFunc g args).run Tryz.prog w = .ok (.enter g args) w) :
    Calls Tryz.prog 96 #[.slice A n c, .func (.func g) #[] lb] w fun e w' =>
      ((e = .returned (.int .i64 (-1)) ∧ ∀ k, k < n → P k = false) ∨ ∃ i : Nat, e = .returned (.int .i64 i) ∧ i < n ∧ P i = true ∧ ∀ k, k < i → P k = false) ∧ ∃ r, w' = w.drewN r := by
  have H := Lib.hid h
  have HC := Lib.hid hc
  clear h hc
  go_enter Tryz.func96, Tryz.ntmps96
  go_wp2
  go_loopg [8] (n + 1) (fun gk i wr => ∃ k q : Nat, k ≤ n ∧ gk = n - k + 1 ∧ i = .int .i64 k ∧ wr = w.drewN q ∧ Hid (∀ j, j < k → P j = false))
  case atStart => exact ⟨0, 0, by omega, by omega, rfl, rfl, Lib.hid fun j hj => by omega⟩
  case round =>
    obtain ⟨k, q, hk, rfl, rfl, rfl, HP⟩ := hrel
    by_cases hlt : k < n
    · obtain ⟨b, off, rfl, _, hcell⟩ := Cells.at_ (H.out.drewN q) hlt
      have HCK := Lib.hid (HC.out k q hlt)
      obtain ⟨v, hv⟩ : ∃ v, v = f k := ⟨_, rfl⟩
      obtain ⟨r, hr⟩ : ∃ r, r = P k := ⟨_, rfl⟩
      rw [← hv] at hcell HCK
      rw [← hr] at HCK
      have HR := Lib.hid hr
      clear hv hr
      go_wp2_with fail
      refine HCK.out.mono ?_
      rintro e w2 ⟨rfl, q2, hq2⟩
      rw [World.drewN_drewN] at hq2
      subst hq2
      cases r with
      | true =>
        go_wp2
        go_ret
        exact ⟨.inr ⟨k, rfl, hlt, HR.out.symm, HP.out⟩, _, rfl⟩
      | false =>
        go_wp2
        go_roundg (n - k)
        case measure => omega
        case rel => exact ⟨k + 1, q + q2, by omega, by omega, by go_num, rfl, Lib.hid fun j hj => by
          rcases Nat.lt_or_ge j k with h | h
          · exact HP.out j h
          · rw [show j = k by omega]; exact HR.out.symm⟩
    · obtain rfl : k = n := by omega
      go_wp2
      go_ret
      exact ⟨.inl ⟨rfl, HP.out⟩, _, rfl⟩

end Go.Proofs.YthcpfaahcncfjaaGreatDoor

namespace Go.Proofs.YthcpfaahcncfjaaGreatDoor
open Go.RowKit
set_option linter.unusedVariables false
set_option linter.unusedSimpArgs false

theorem slice_back7 {P : Program} {t e e' : TypeId} {w : World} {base B n c i : Nat} {A : Option Addr} {xs : List Value} {f : Nat → Value} (ht : P.underlying t = some (.slice e)) (hz : ∀ w', (sizeOf e).run P w' = .ok 1 w') (h : w.ownsRow base e' 1 (.slice A n c) n xs) (hc : Cells w B A n f) (hi : i ≤ n) :
    ∃ A', (∀ w', (Instr.slice t (.slice A n c) (some (.int .i64 i)) none none).run P w' = .ok (.slice A' (n - i) (c - i)) w') ∧ Cells w B A' (n - i) fun k => f (i + k) := by
  rcases h.2 with ⟨hv, h0⟩ | ⟨g, cap, cur, hv, hb, hg, h1, _⟩
  · injection hv with hA _ hC
    subst hA hC
    subst h0
    obtain rfl : i = 0 := by omega
    exact ⟨none, fun w' => by simp [Instr.slice, run_underlying ht, Instr.sliceBounds, go_sem, hz, Result.andThen], fun h => by omega⟩
  · injection hv with hA _ hC
    subst hA hC
    refine ⟨if c = i then some ⟨g, 0, none⟩ else some ⟨g, 0 + i, none⟩, fun w' => run_back7 ht w' (hz w') g 0 n c i hi h1, fun hp => ?_⟩
    obtain ⟨b, off, e, hb, hc⟩ := hc (by omega)
    injection e with e
    injection e with e1 e2
    subst e1 e2
    rw [if_neg (by omega)]
    exact ⟨g, 0 + i, rfl, hb, fun j hj => by rw [Nat.add_assoc]; exact hc (i + j) (by omega)⟩

set_option maxRecDepth 100000 in
theorem next_any7 {W : World} {base : Nat} {X : SX} {fo : List Bool} (h : Rest7 W base X fo) (m : Nat) (l : Int) :
    Calls Tryz.prog 69 #[.pointer (some ⟨X.s, 0, none⟩), .int .i64 m, .int .i64 l] W fun e W' =>
      ((e = .returned (.pointer none) ∧ ∀ k, k < X.ps.length → m ≤ (X.C (X.ps.getD k 0)).num → (!(X.C (X.ps.getD k 0)).gone && decide (l ∈ (X.C (X.ps.getD k 0)).lits)) = false) ∨
       ∃ k : Nat, e = .returned (.pointer (some ⟨X.ps.getD k 0, 0, none⟩)) ∧ k < X.ps.length ∧ m ≤ (X.C (X.ps.getD k 0)).num ∧ (!(X.C (X.ps.getD k 0)).gone && decide (l ∈ (X.C (X.ps.getD k 0)).lits)) = true ∧
        ∀ j, j < k → m ≤ (X.C (X.ps.getD j 0)).num → (!(X.C (X.ps.getD j 0)).gone && decide (l ∈ (X.C (X.ps.getD j 0)).lits)) = false) ∧ Below W.heap.size W W' := by
  obtain ⟨i0, hi, hz0, hz1, hz2⟩ := info_parts (show (Tryz.prog.info? 121).map (fun i => (i.zero, i.size, i.bytes)) = some (some (.pointer none), 1, 8) by kernel_rfl)
  obtain ⟨Aa, ca, hva, hoa⟩ := h.sto.pil.each (2 * X.V) (by have := h.sto.num.1; omega)
  rw [h.shelf.all] at hva hoa
  have s3 : W.cell? ⟨X.s, 3, none⟩ = some (.slice Aa X.ps.length ca) := by rw [← hva]; exact h.sto.st.cell 3
  have hcl : Cells W W.heap.size Aa X.ps.length fun j => .pointer (some ⟨X.ps.getD j 0, 0, none⟩) := (cells_of_own hoa undef).congr fun j hj => by simp [ptrs7, List.getD, hj]
  have hsl := h.sto.st.lt
  have hps := h.wf.plen
  have HBL : Hid (∀ k, k < X.ps.length → Blk W (X.ps.getD k 0) 120 (X.C (X.ps.getD k 0)).cells ∧ Ints W W.heap.size (X.C (X.ps.getD k 0)).A (X.C (X.ps.getD k 0)).lits ∧ (X.C (X.ps.getD k 0)).lits.length ≤ 1000000000) := Lib.hid fun k hk => by
    have hm : X.ps.getD k 0 ∈ X.ps := by rw [show X.ps.getD k 0 = X.ps[k] by simp [List.getD, hk]]; exact List.getElem_mem hk
    obtain ⟨a1, _, a3, _⟩ := h.sto.cl _ hm
    exact ⟨a1, ints_of_own a3, (h.wf.cl _ hm).len⟩
  obtain ⟨W1, hW1⟩ : ∃ W1, W1 = W.alloc (Obj.cells #[.int .i64 l] 3) := ⟨_, rfl⟩
  have hb1 : Below W.heap.size W W1 := by rw [hW1]; exact (Below.refl _ _).alloc (Nat.le_refl _) _
  have hlb : W1.cell? ⟨W.heap.size, 0, none⟩ = some (.int .i64 l) := by rw [hW1]; exact (Blk.new W _ _).cell 0
  have hs1 : W.heap.size + 1 = W1.heap.size := by rw [hW1]; simp
  have HBS := Lib.hid (bsearch7 X.ps X.C m W.heap.size Aa ca W1 hps h.shelf.nums (fun p hp => (h.sto.cl p hp).1.below hb1 (h.sto.cl p hp).1.lt) (Cells.below hcl hb1))
  have hcl1 := Cells.below hcl hb1
  have hoa1 := own_below hoa hb1 fun g hg => (hoa.lt g hg).2
  have s31 : W1.cell? ⟨X.s, 3, none⟩ = some (.slice Aa X.ps.length ca) := by rw [hb1.cell (show X.s < _ from hsl)]; exact s3
  have HSL := Lib.hid (fun i (hi : i ≤ X.ps.length) => slice_back7 (P := Tryz.prog) (t := 113) Tryz.underlying113 (fun w' => by simp [sizeOf, typeInfo, ‹Tryz.prog.info? _ = some i0›, hz1]) hoa1 hcl1 hi)
  have s31a := s31
  rw [hW1] at s31a
  have HW1 := Lib.hid hW1
  have HB1 := Lib.hid hb1
  have HCL1 := Lib.hid hcl1
  have HLB := Lib.hid hlb
  clear hva hoa s3 hcl hb1 hcl1 hoa1 hW1 hlb h hi hz0 hz1 hz2
  go_enter Tryz.func69, Tryz.ntmps69
  go_wp2_with fail
  rw [← HW1.out]
  refine HBS.out.mono ?_
  rintro e w2 ⟨⟨i, b, rfl, hin, h1, h2⟩, rfl⟩
  obtain ⟨A', hrun, hcs⟩ := HSL.out i hin
  have HRUN := Lib.hid hrun
  have HIF := Lib.hid (indexfunc7s (X.ps.length - i) (ca - i) W.heap.size 97 A' _ #[.pointer (some ⟨W.heap.size, 0, none⟩)] (fun k => !(X.C (X.ps.getD (i + k) 0)).gone && decide (l ∈ (X.C (X.ps.getD (i + k) 0)).lits)) w2 (by omega) hcs
    (fun k q hk => by
      obtain ⟨a1, a2, a3⟩ := HBL.out (i + k) (by omega)
      exact next2_any (X.C (X.ps.getD (i + k) 0)) (X.ps.getD (i + k) 0) W.heap.size W.heap.size l (w2.drewN q) (a1.below (below_drewN HB1.out q) a1.lt) HLB.out (Cells.below a2 (below_drewN HB1.out q)) a3)
    (enters_of Tryz.func97 (by kernel_rfl) rfl))
  have HH1 := Lib.hid h1
  have HH2 := Lib.hid h2
  clear hrun hcs h1 h2 s31a HBS
  go_wp2_with (first
    | (refine wpList_slice7 rfl _ _ _ _ _ rfl (.slice Aa X.ps.length ca) (.slice A' (X.ps.length - i) (ca - i)) rfl (some (.int .i64 i)) none none rfl rfl rfl (HRUN.out _) (by kernel_rfl) ?_))
  refine HIF.out.mono ?_
  rintro e w3 ⟨hans, q, rfl⟩
  rcases hans with ⟨rfl, hno⟩ | ⟨j, rfl, hj, hyes, hno⟩
  · have HNO := Lib.hid hno
    clear hno
    go_wp2
    go_ret
    exact ⟨.inl ⟨rfl, fun k hk hmk => by
      rcases Nat.lt_or_ge k i with hki | hki
      · have := HH1.out k hki; omega
      · have := HNO.out (k - i) (by omega)
        rw [show i + (k - i) = k by omega] at this
        exact this⟩, below_drewN HB1.out q⟩
  · have HNO := Lib.hid hno
    have HYES := Lib.hid hyes
    obtain ⟨bq, oq, rfl, _, hcell⟩ := Cells.at_ (HCL1.out.drewN q) (show i + j < X.ps.length by omega)
    obtain ⟨k, hk⟩ : ∃ k, k = i + j := ⟨_, rfl⟩
    have hkk : (i : Int) + (j : Int) = (k : Int) := by omega
    have hki : i ≤ k := by omega
    have hkn : k < X.ps.length := by omega
    rw [← hk] at hcell HYES
    have HKD := Lib.hid hk
    obtain ⟨p, hp⟩ : ∃ p, p = X.ps.getD k 0 := ⟨_, rfl⟩
    rw [← hp] at hcell
    have HPP := Lib.hid hp
    clear hno hyes hk hp
    go_wp2
    go_ret
    exact ⟨.inr ⟨k, by rw [← HPP.out]; rfl, hkn, HH2.out k hki hkn, HYES.out, fun j' hj' hm' => by
      rcases Nat.lt_or_ge j' i with h | h
      · have := HH1.out j' h; omega
      · have := HNO.out (j' - i) (by have := HKD.out; omega)
        rw [show i + (j' - i) = j' by omega] at this
        exact this⟩, below_drewN HB1.out q⟩
end Go.Proofs.YthcpfaahcncfjaaGreatDoor

namespace Go.Proofs.YthcpfaahcncfjaaGreatDoor
open Go.RowKit
set_option linter.unusedVariables false

theorem filter_none7 {ps : List Nat} {Q : Nat → Bool} (h : ∀ k, k < ps.length → Q (ps.getD k 0) = false) : ps.filter Q = [] := by
  refine List.filter_eq_nil_iff.2 fun p hp => ?_
  obtain ⟨k, hk, rfl⟩ := List.mem_iff_getElem.1 hp
  have := h k hk
  simp [List.getD, hk] at this
  simp [this]
theorem filter_first7 {ps : List Nat} {Q : Nat → Bool} {k : Nat} (hk : k < ps.length) (hq : Q (ps.getD k 0) = true) (h : ∀ j, j < k → Q (ps.getD j 0) = false) : ∃ r, ps.filter Q = ps.getD k 0 :: r := by
  have e : ps = ps.take k ++ ps.getD k 0 :: ps.drop (k + 1) := by
    rw [show ps.getD k 0 = ps[k] by simp [List.getD, hk], ← List.drop_eq_getElem_cons hk, List.take_append_drop]
  have h0 : (ps.take k).filter Q = [] := filter_none7 fun j hj => by
    have hj2 : j < k := by simp at hj; omega
    have := h j hj2
    simpa [List.getD, List.getElem?_take, hj2] using this
  refine ⟨(ps.drop (k + 1)).filter Q, ?_⟩
  have e2 := congrArg (List.filter Q) e
  rw [List.filter_append, h0, List.nil_append, List.filter_cons, if_pos hq] at e2
  exact e2
theorem filter_behind7 {num : Nat → Nat} : ∀ {hs : List Nat} {k : Nat}, hs.Pairwise (fun p q => num p < num q) → k < hs.length → hs.filter (fun p => decide (num (hs.getD k 0) + 1 ≤ num p)) = hs.drop (k + 1)
  | p :: hs, 0, h, _ => by
    rw [List.pairwise_cons] at h
    simp only [List.getD_cons_zero, List.drop_succ_cons, List.drop_zero]
    rw [List.filter_cons, if_neg (by simp)]
    exact List.filter_eq_self.2 fun q hq => by have := h.1 q hq; simp; omega
  | p :: hs, k + 1, h, hk => by
    rw [List.pairwise_cons] at h
    have hk2 : k < hs.length := by simpa using hk
    have hm : hs.getD k 0 ∈ hs := by simp [List.getD, hk2]
    have := h.1 _ hm
    rw [List.getD_cons_succ, List.filter_cons, if_neg (by rw [decide_eq_true_eq]; omega)]
    exact filter_behind7 h.2 hk2
/-- the clauses that have a literal -/
def SX.hit (X : SX) (l : Int) (p : Nat) : Bool := !(X.C p).gone && decide (l ∈ (X.C p).lits)
def SX.hits (X : SX) (l : Int) : List Nat := X.ps.filter (X.hit l)
theorem SX.hits_cs (X : SX) (l : Int) : (X.hits l).map (fun p => (X.C p).lits) = X.cs.filter fun c => decide (l ∈ c) := by
  unfold SX.hits SX.cs SX.live
  rw [List.filter_map, List.filter_filter]
  congr 1
  apply List.filter_congr
  intro p _
  simp [SX.hit, Bool.and_comm]
/-- from which number on the next one is looked for, when k have been told -/
def SX.from_ (X : SX) (l : Int) (k : Nat) : Nat := match k with | 0 => 0 | k + 1 => (X.C ((X.hits l).getD k 0)).num + 1
theorem SX.hits_from {X : SX} {l : Int} {k : Nat} (hn : X.ps.Pairwise fun p q => (X.C p).num < (X.C q).num) (hk : k ≤ (X.hits l).length) : X.ps.filter (fun p => decide (X.from_ l k ≤ (X.C p).num) && X.hit l p) = (X.hits l).drop k := by
  have e : X.ps.filter (fun p => decide (X.from_ l k ≤ (X.C p).num) && X.hit l p) = (X.hits l).filter (fun p => decide (X.from_ l k ≤ (X.C p).num)) := by
    unfold SX.hits
    rw [List.filter_filter]
  rw [e]
  cases k with
  | zero => simp [SX.from_]
  | succ k => exact filter_behind7 (num := fun p => (X.C p).num) (hn.filter _) (by omega)
theorem hits_next {X : SX} {l : Int} {k i : Nat} (hn : X.ps.Pairwise fun p q => (X.C p).num < (X.C q).num) (hk : k ≤ (X.hits l).length) (hi : i < X.ps.length) (h1 : X.from_ l k ≤ (X.C (X.ps.getD i 0)).num) (h2 : X.hit l (X.ps.getD i 0) = true)
    (h3 : ∀ j, j < i → X.from_ l k ≤ (X.C (X.ps.getD j 0)).num → X.hit l (X.ps.getD j 0) = false) : k < (X.hits l).length ∧ (X.hits l).getD k 0 = X.ps.getD i 0 := by
  obtain ⟨r, hr⟩ := filter_first7 (Q := fun p => decide (X.from_ l k ≤ (X.C p).num) && X.hit l p) hi (by rw [Bool.and_eq_true, decide_eq_true_eq]; exact ⟨h1, h2⟩) fun j hj => by
    by_cases e : X.from_ l k ≤ (X.C (X.ps.getD j 0)).num
    · rw [h3 j hj e, Bool.and_false]
    · rw [decide_eq_false e, Bool.false_and]
  rw [SX.hits_from hn hk] at hr
  have hlt : k < (X.hits l).length := by
    rcases Nat.lt_or_ge k (X.hits l).length with h | h
    · exact h
    · rw [List.drop_eq_nil_of_le h] at hr; cases hr
  refine ⟨hlt, ?_⟩
  rw [List.drop_eq_getElem_cons hlt] at hr
  injection hr with hr
  simp [List.getD, hlt] at hr ⊢
  exact hr
theorem hits_end {X : SX} {l : Int} {k : Nat} (hn : X.ps.Pairwise fun p q => (X.C p).num < (X.C q).num) (hk : k ≤ (X.hits l).length)
    (h3 : ∀ j, j < X.ps.length → X.from_ l k ≤ (X.C (X.ps.getD j 0)).num → X.hit l (X.ps.getD j 0) = false) : k = (X.hits l).length := by
  have hr := filter_none7 (ps := X.ps) (Q := fun p => decide (X.from_ l k ≤ (X.C p).num) && X.hit l p) fun j hj => by
    by_cases e : X.from_ l k ≤ (X.C (X.ps.getD j 0)).num
    · rw [h3 j hj e, Bool.and_false]
    · rw [decide_eq_false e, Bool.false_and]
  rw [SX.hits_from hn hk] at hr
  have := List.drop_eq_nil_iff.1 hr
  omega
end Go.Proofs.YthcpfaahcncfjaaGreatDoor

namespace Go.Proofs.YthcpfaahcncfjaaGreatDoor
open Go.RowKit
set_option linter.unusedVariables false

/-- rows and maps stay -/
structure Rows9 (B : Nat) (W W' : World) : Prop where
  below : Below B W W'
  data : ∀ (q : Nat) (o : Obj), W.heap[q]? = some o → ((∃ cs t z, o = Obj.cells cs t z) ∨ ∃ es n, o = Obj.map es n) → W'.heap[q]? = some o
theorem Rows9.of_below {B : Nat} {W W' : World} (h : Below W.heap.size W W') (hB : B ≤ W.heap.size) : Rows9 B W W' := ⟨h.mono hB, fun q o hq _ => (h.block q (Array.getElem?_eq_some_iff.1 hq).1).trans hq⟩
theorem rows9_put {B : Nat} (W : World) (l : Nat) (o o' : Obj) (hl : W.heap[l]? = some o') (hk : ¬ ((∃ cs t z, o' = Obj.cells cs t z) ∨ ∃ es n, o' = Obj.map es n)) (hB : B ≤ l) : Rows9 B W (W.putObj l o) := by
  have hlt := (Array.getElem?_eq_some_iff.1 hl).1
  refine ⟨⟨rfl, rfl, rfl, by simp, fun j hj => World.putObj_heap_other (by omega)⟩, fun q oq hq hd => ?_⟩
  by_cases e : q = l
  · subst e; rw [hl] at hq; injection hq with hq; subst hq; exact absurd hd hk
  · exact (World.putObj_heap_other (by omega)).trans hq

/-- the iterator's contract: it yields N values, each laid anew -/
def SeqIt (m : Nat) (P : Program) (gf : Nat) (lb : Array Value) (N : Nat) (Arg : Nat → Value → World → World → Prop) (Rd : World → Prop) (w : World) : Prop :=
  ∀ (l : Nat) (J : Nat → World → Prop) (Jx : World → Prop) (W : World), Below w.heap.size w W → (∀ k W', J k W' → Rd W') → (∀ k W' W'', J k W' → Below W'.heap.size W' W'' → J k W'') →
    (∀ k v W' W'', J k W' → k < N → Below W'.heap.size W' W'' → Arg k v W' W'' → YieldAt Fence.wide (m - 1) P l #[v] W'' fun e W3 => (e = .returned (.bool true) ∧ J (k + 1) W3) ∨ (e = .returned (.bool false) ∧ Jx W3)) →
    J 0 W → CallsIn Fence.wide m P gf (#[.func (.yield l) #[] #[]] ++ lb) W fun e W' => (∃ v, e = .returned v) ∧ (J N W' ∨ Jx W')

/-- how a round may be left -/
def roundEnd9 (I : World → Prop) (Ix : Code → World → Prop) (W : World) : Exit → Act → World → Prop
  | .normal, _, W' => Recs W W' ∧ I W'
  | .ret, _, W' => Recs W W' ∧ Ix .ret W'
  | .exit id, _, W' => Recs W W' ∧ Ix (.exit id) W'
  | .goto t, _, W' => Recs W W' ∧ Ix (.goto t) W'
  | .panic _, _, _ => False
  | .outgrown, _, _ => False

theorem range_it {m : Nat} {P : Program} {g : Operand} {ps : Array Tmp} {assign body : Code} {Q : Exit → Act → World → Prop} {a : Act} {w : World} {gf : Nat} {lb : Array Value}
    (hg : a.eval g = .func (.func gf) #[] lb) (eg : ∀ args w, (callFunc gf args).run P w = .ok (.enter gf args) w)
    {N : Nat} {Arg : Nat → Value → World → World → Prop} {Rd : World → Prop} (hseq : SeqIt (m - 1) P gf lb N Arg Rd w) (hps : ps.size = 1)
    (I : Nat → World → Prop) (Ix : Code → World → Prop) (hI : ∀ k W W', I k W → Rows9 w.heap.size W W' → I k W') (hIx : ∀ c W W', Ix c W → Rows9 w.heap.size W W' → Ix c W')
    (hsz : ∀ k W, I k W → w.heap.size ≤ W.heap.size)
    (h0 : I 0 w) (hrd : ∀ k W, I k W → Rd W) (a₁ : Value → Act)
    (hassign : ∀ (l : Nat) (v : Value) (W : World) (K : Act → World → Prop), K (a₁ v) W →
      assign.wpIn (Fence.wide.inRound l) (m - 1 - 1) P (Exit.then K (fun _ _ _ => False)) { tmps := (ps.zip #[v]).foldl (fun t (p, v) => t.setIfInBounds p v) a.tmps, defers := [] } W)
    (hbody : ∀ (l k : Nat) (v : Value) (W0 W1 W : World), I k W0 → k < N → Below W0.heap.size W0 W1 → Arg k v W0 W1 → Rows9 w.heap.size W1 W → I k W → body.wpIn (Fence.wide.inRound l) (m - 1 - 1) P (roundEnd9 (I (k + 1)) Ix W) (a₁ v) W)
    (hdone : ∀ (D : Nat) (W : World), w.heap.size ≤ D → I N W → W.heap[D]? = some (.deferred (some [])) → Q .normal { a with defers := { target := .collected D, args := #[] } :: a.defers } W)
    (hstop : ∀ (D : Nat) (c : Code) (W : World), w.heap.size ≤ D → Ix c W → W.heap[D]? = some (.deferred (some [])) → c.wpIn Fence.wide m P Q { a with defers := { target := .collected D, args := #[] } :: a.defers } W) :
    (Code.rangeFunc g ps assign body).wpIn Fence.wide m P Q a w := by
  refine wpIn_rangeFunc fun fn hfn => ?_
  let rec_ : LoopState → Option Code → Loop := fun st pe => { state := st, pending := pe, fn, tmps := a.tmps, params := ps, assign, body, defers := w.heap.size }
  obtain ⟨R, hR⟩ : ∃ R, R = rec_ := ⟨_, rfl⟩
  obtain ⟨W1, hW1⟩ : ∃ W1, W1 = (w.alloc (.deferred (some []))).alloc (.loop (R .ready none)) := ⟨_, rfl⟩
  have hs1 : W1.heap.size = w.heap.size + 2 := by rw [hW1]; simp
  have hL : W1.heap[w.heap.size + 1]? = some (.loop (R .ready none)) := by
    have h := World.alloc_heap_new (w.alloc (.deferred (some []))) (.loop (R .ready none))
    rw [World.size_alloc] at h
    rw [hW1]; exact h
  have hD : W1.heap[w.heap.size]? = some (.deferred (some [])) := by
    rw [hW1]; exact (Below.heap_alloc _ _ _ (by simp)).trans (World.alloc_heap_new w _)
  have hb1 : Below w.heap.size w W1 := by rw [hW1]; exact ((Below.refl _ w).alloc (Nat.le_refl _) _).alloc (by simp) _
  have nl : ∀ l : Loop, ¬ ((∃ cs t z, Obj.loop l = Obj.cells cs t z) ∨ ∃ es n, Obj.loop l = Obj.map es n) := fun l h => by rcases h with ⟨_, _, _, h⟩ | ⟨_, _, h⟩ <;> cases h
  refine ⟨w.heap.size + 1, [{ target := .collected w.heap.size, args := #[] }], W1, { target := .fn (.func gf) lb, args := #[.func (.yield (w.heap.size + 1)) #[] #[]] }, W1, gf,
    #[.func (.yield (w.heap.size + 1)) #[] #[]] ++ lb, W1, ?_, ?_, ?_, ?_, ?_, ?_⟩
  · rw [hW1, hR]; exact run_enterLoop_outer _ _ _ _ _
  · simp only [resolve, hg]
    simp [go_sem]
  · intro f' hf'; simp [Target.leads] at hf'; subst hf'; trivial
  · simp [invoke, go_sem, eg]
  · intro h; simp [Fence.wide] at h
  refine (hseq (w.heap.size + 1)
    (fun k W => I k W ∧ W.heap[w.heap.size + 1]? = some (.loop (R .ready none)) ∧ W.heap[w.heap.size]? = some (.deferred (some [])))
    (fun W => ∃ c, Ix c W ∧ W.heap[w.heap.size + 1]? = some (.loop (R .done (some c))) ∧ W.heap[w.heap.size]? = some (.deferred (some [])))
    W1 hb1 (fun k W h => hrd k W h.1) (fun k W W' h hb => ⟨hI k W W' h.1 (Rows9.of_below hb (hsz k W h.1)), (hb.block _ (Array.getElem?_eq_some_iff.1 h.2.1).1).trans h.2.1, (hb.block _ (Array.getElem?_eq_some_iff.1 h.2.2).1).trans h.2.2⟩)
    ?_ ⟨hI 0 w W1 h0 (Rows9.of_below hb1 (Nat.le_refl _)), hL, hD⟩).mono ?_
  · -- one round
    rintro k v W0 W ⟨hi0, hl0, hd0⟩ hk hb0 harg
    have hl : W.heap[w.heap.size + 1]? = some (.loop (R .ready none)) := (hb0.block _ (Array.getElem?_eq_some_iff.1 hl0).1).trans hl0
    have hd : W.heap[w.heap.size]? = some (.deferred (some [])) := (hb0.block _ (Array.getElem?_eq_some_iff.1 hd0).1).trans hd0
    have hi : I k W := hI k W0 W hi0 (Rows9.of_below hb0 (hsz k W0 hi0))
    have hlt : w.heap.size + 1 < W.heap.size := (Array.getElem?_eq_some_iff.1 hl).1
    have hy := run_yield (P := P) (args := #[v]) hl (by rw [hR]; exact hps.symm)
    rw [hR] at hy
    refine ⟨fn, _, assign, body, hy, roundIn_of_wpIn hfn (hassign _ v W _ ⟨_, run_beginRound hl (by rw [hR]), ?_⟩)⟩
    obtain ⟨W2, hW2⟩ : ∃ W2, W2 = W.putObj (w.heap.size + 1) (.loop { R .ready none with state := .busy }) := ⟨_, rfl⟩
    have hl2 : W2.heap[w.heap.size + 1]? = some (.loop { R .ready none with state := .busy }) := by rw [hW2]; exact World.putObj_heap_same hlt
    have hd2 : W2.heap[w.heap.size]? = some (.deferred (some [])) := by rw [hW2]; exact (World.putObj_heap_other (by omega)).trans hd
    have hr2 : Rows9 w.heap.size W W2 := by rw [hW2]; exact rows9_put W _ _ _ hl (nl _) (by omega)
    rw [← hW2]
    refine wpIn_mono (hbody _ k v W0 W W2 hi0 hk hb0 harg hr2 (hI k W W2 hi hr2)) ?_
    have fin : ∀ (jump : Option Code) (W3 : World), Recs W2 W3 →
        (Instr.endRound (w.heap.size + 1) jump).run P W3 = .ok (.bool jump.isNone) (W3.putObj (w.heap.size + 1) (.loop (R (if jump.isNone then .ready else .done) jump))) ∧
        (W3.putObj (w.heap.size + 1) (.loop (R (if jump.isNone then .ready else .done) jump))).heap[w.heap.size + 1]? = some (.loop (R (if jump.isNone then .ready else .done) jump)) ∧
        (W3.putObj (w.heap.size + 1) (.loop (R (if jump.isNone then .ready else .done) jump))).heap[w.heap.size]? = some (.deferred (some [])) ∧
        Rows9 w.heap.size W3 (W3.putObj (w.heap.size + 1) (.loop (R (if jump.isNone then .ready else .done) jump))) := fun jump W3 hk3 => by
      have hl3 := hk3 _ _ hl2 (by intro _ _ _ h; cases h) (by intro _ _ h; cases h)
      have hd3 := hk3 _ _ hd2 (by intro _ _ _ h; cases h) (by intro _ _ h; cases h)
      have hr3 := run_endRound (P := P) jump hl3
      have hs3 := (Array.getElem?_eq_some_iff.1 hl3).1
      rw [hR] at hr3 ⊢
      exact ⟨hr3, World.putObj_heap_same hs3, (World.putObj_heap_other (by omega)).trans hd3, rows9_put W3 _ _ _ hl3 (nl _) (by omega)⟩
    rintro e a3 W3 hp
    cases e with
    | normal =>
      obtain ⟨hk3, hi3⟩ := hp
      obtain ⟨hr, hl4, hd4, hb4⟩ := fin none W3 hk3
      exact ⟨_, _, hr, .inl ⟨rfl, hI _ _ _ hi3 hb4, hl4, hd4⟩⟩
    | ret =>
      obtain ⟨hk3, hi3⟩ := hp
      obtain ⟨hr, hl4, hd4, hb4⟩ := fin (some .ret) W3 hk3
      exact ⟨_, _, hr, .inr ⟨rfl, .ret, hIx _ _ _ hi3 hb4, hl4, hd4⟩⟩
    | exit id =>
      obtain ⟨hk3, hi3⟩ := hp
      obtain ⟨hr, hl4, hd4, hb4⟩ := fin (some (.exit id)) W3 hk3
      exact ⟨_, _, hr, .inr ⟨rfl, .exit id, hIx _ _ _ hi3 hb4, hl4, hd4⟩⟩
    | goto t =>
      obtain ⟨hk3, hi3⟩ := hp
      obtain ⟨hr, hl4, hd4, hb4⟩ := fin (some (.goto t)) W3 hk3
      exact ⟨_, _, hr, .inr ⟨rfl, .goto t, hIx _ _ _ hi3 hb4, hl4, hd4⟩⟩
    | panic ch => exact hp.elim
    | outgrown => exact hp.elim
  · -- behind the iterator
    rintro e W2 ⟨⟨v, rfl⟩, (⟨hi, hl, hd⟩ | ⟨c, hi, hl, hd⟩)⟩
    · exact ⟨none, _, by have h := run_endLoop (P := P) hl (by rw [hR]; simp [rec_]); rw [hR] at h; exact h, hdone _ _ (Nat.le_refl _) (hI _ _ _ hi (rows9_put W2 _ _ _ hl (nl _) (by omega))) ((World.putObj_heap_other (by omega)).trans hd)⟩
    · exact ⟨some c, _, by have h := run_endLoop (P := P) hl (by rw [hR]; simp [rec_]); rw [hR] at h; exact h, hstop _ c _ (Nat.le_refl _) (hIx _ _ _ hi (rows9_put W2 _ _ _ hl (nl _) (by omega))) ((World.putObj_heap_other (by omega)).trans hd)⟩
end Go.Proofs.YthcpfaahcncfjaaGreatDoor

namespace Go.Proofs.YthcpfaahcncfjaaGreatDoor
open Go.RowKit
set_option linter.unusedVariables false

theorem oper_round {P : Program} {o : Oper} {a : Act} {w : World} {K : Act → World → Prop} {Q : Exit → Act → World → Prop} (l n : Nat) (hd : ∀ c, o.op ≠ Op.defer c) (h : o.wp P a w K Q) : o.wpIn (Fence.wide.inRound l) n P a w K Q := by
  unfold Oper.wpIn
  refine ⟨fun _ _ => trivial, ?_⟩
  rw [Fence.inRound_round, Oper.semAt_some l _ _ hd]
  unfold Oper.wp at h
  have hdep : (Fence.wide.inRound l).depth.isSome = true → 1 ≤ n := fun h => by simp [Fence.wide] at h
  generalize (execOp a.eval o).run P w = r at h ⊢
  cases r with
  | ok x w' =>
    cases x <;> simp only [Oper.upon] at h <;> simp only [Oper.uponIn]
    all_goals first
      | exact h
      | (refine ⟨hdep, CallsIn.inRound l (callsIn_wide.2 (Calls.mono h ?_))⟩; intro e w'' he; cases e <;> exact he)
      | (refine ⟨hdep, fun c cs _ => ?_⟩; obtain ⟨v, w'', hr, hs⟩ := h c cs; exact ⟨v, w'', hr, stepsIn_wide.2 hs⟩)
  | halt x w' => cases x <;> simp only [Oper.upon] at h <;> simp only [Oper.uponIn] <;> exact h

theorem wpOp_round {P : Program} {ops : Array Oper} {Q : Exit → Act → World → Prop} {i : Nat} {K : Act → World → Prop} {a : Act} {w : World} (l n : Nat) (hout : ¬ LetsOut Q) (hd : ∀ (j : Nat) (o : Oper), ops[j]? = some o → ∀ c, o.op ≠ Op.defer c) (h : wpOp P ops Q i K a w) :
    wpOpIn (Fence.wide.inRound l) n P ops Q i K a w := by
  unfold wpOp at h
  unfold wpOpIn
  cases ho : ops[i]? with
  | none => simpa [ho] using h
  | some o =>
    simp only [ho] at h ⊢
    by_cases hw : Region.wanted o (yielded ops a.tmps) = true
    · simp only [hw, if_true] at h ⊢
      exact oper_round l n (hd i o ho) (h.resolve_right fun h => hout h.2)
    · simp only [hw, if_false, Bool.false_eq_true] at h ⊢
      exact ⟨fun _ _ => trivial, h⟩

theorem any_round {P : Program} {md : Region.Mode} {ops : Array Oper} {Q : Exit → Act → World → Prop} (l n : Nat) (hout : ¬ LetsOut Q) (hd : ∀ (j : Nat) (o : Oper), ops[j]? = some o → ∀ c, o.op ≠ Op.defer c) :
    ∀ (fuel : Nat) (listed : Array Bool) (a : Act) (w : World), wpAny P md ops Q fuel listed a w → wpAnyIn (Fence.wide.inRound l) n P md ops Q fuel listed a w
  | 0, _, _, _, h => h
  | fuel + 1, _, _, _, h => ⟨h.1, fun i hi => wpOpIn_mono (fun a' w' h' => any_round l n hout hd fuel _ a' w' h') (wpOp_round l n hout hd (h.2 i hi))⟩

/-- no operation of the region puts a call off -/
def noDefer (ops : Array Oper) : Bool := ops.all fun o => match o.op with | .defer _ => false | _ => true
theorem noDefer_spec {ops : Array Oper} (h : noDefer ops = true) : ∀ (j : Nat) (o : Oper), ops[j]? = some o → ∀ c, o.op ≠ Op.defer c := by
  intro j o ho c e
  unfold noDefer at h
  rw [Array.all_eq_true] at h
  obtain ⟨hj, rfl⟩ := Array.getElem?_eq_some_iff.1 ho
  have := h j hj
  rw [e] at this
  cases this

/-- off its end alone -/
def Calm (Q : Exit → Act → World → Prop) : Exit → Act → World → Prop
  | .normal, a, w => Q .normal a w
  | _, _, _ => False
theorem calm_not_out {Q : Exit → Act → World → Prop} : ¬ LetsOut (Calm Q) := fun ⟨_, _, h⟩ => h
theorem region_round {P : Program} {ops : Array Oper} {Q : Exit → Act → World → Prop} (S : World → Prop) {id l n : Nat} {a : Act} {w : World} (hm : P.follows .mixedOrders = true) (hd : noDefer ops = true) (hS : S w.drew)
    (h : S w.drew → wpAnyH P .any ops (Calm Q) S ops.size (Array.replicate ops.size false) a w.drew) : (Code.region id ops true).wpIn (Fence.wide.inRound l) n P Q a w :=
  wpIn_mono (wpIn_region_any hm (any_round l n calm_not_out (noDefer_spec hd) _ _ _ _ (wpAny_of_held _ _ _ _ (h hS)))) fun e a w h => by cases e <;> first | exact h | exact h.elim
end Go.Proofs.YthcpfaahcncfjaaGreatDoor

namespace Go.Proofs.YthcpfaahcncfjaaGreatDoor
open Go.RowKit Go.Shelf
attribute [local go_sem] Oper.semAt_some
set_option linter.unusedVariables false
set_option linter.unusedSimpArgs false

theorem SameR.trans {X X' X'' : SX} (h : SameR X X') (k : SameR X' X'') : SameR X X'' :=
  ⟨k.s.trans h.s, k.m.trans h.m, k.fb.trans h.fb, k.V.trans h.V, k.ps.trans h.ps, k.ks.trans h.ks, fun p => (k.lits p).trans (h.lits p), k.cs.trans h.cs, fun p => ⟨(k.gn p).1.trans (h.gn p).1, (k.gn p).2.trans (h.gn p).2⟩,
    k.more.1.trans h.more.1, k.more.2.1.trans h.more.2.1, k.more.2.2.1.trans h.more.2.2.1, k.more.2.2.2.trans h.more.2.2.2⟩
theorem SameR.hit {X X' : SX} (h : SameR X X') (l : Int) : X'.hit l = X.hit l := by
  funext p
  unfold SX.hit
  rw [(h.gn p).1, h.lits p]
theorem SameR.hits {X X' : SX} (h : SameR X X') (l : Int) : X'.hits l = X.hits l := by unfold SX.hits; rw [h.hit, h.ps]
theorem SameR.from_ {X X' : SX} (h : SameR X X') (l : Int) (k : Nat) : X'.from_ l k = X.from_ l k := by
  cases k with
  | zero => rfl
  | succ k => simp only [SX.from_]; rw [h.hits, (h.gn _).2]
/-- what the iterator reads between two clauses: its two boxes, and the store as it was, but for what waits where -/
def Rd7 (base : Nat) (X : SX) (l : Int) (bs bl : Nat) (W : World) : Prop :=
  W.cell? ⟨bs, 0, none⟩ = some (.pointer (some ⟨X.s, 0, none⟩)) ∧ W.cell? ⟨bl, 0, none⟩ = some (.int .i64 l) ∧ ∃ X' fo, SameR X X' ∧ Rest7 W base X' fo
/-- the clauses that have the literal -/
def SX.told (X : SX) (l : Int) : List (List Int) := (X.hits l).map fun p => (X.C p).lits
/-- what is yielded: a clause, laid anew -/
def Arg7 (X : SX) (l : Int) (k : Nat) (v : Value) (W W' : World) : Prop :=
  ∃ A c, v = .slice A ((X.told l).getD k []).length c ∧ W'.ownsRow W.heap.size 3 1 v ((X.told l).getD k []).length (((X.told l).getD k []).map (Value.int .i64))
/-- the clause at which the iterator stands -/
def atHit (X : SX) (l : Int) (k : Nat) : Value := if k < (X.hits l).length then .pointer (some ⟨(X.hits l).getD k 0, 0, none⟩) else .pointer none

theorem next_hit {W : World} {base : Nat} {X X' : SX} {fo : List Bool} {l : Int} {k : Nat} (hs : SameR X X') (h : Rest7 W base X' fo) (hk : k ≤ (X.hits l).length) :
    Calls Tryz.prog 69 #[.pointer (some ⟨X.s, 0, none⟩), .int .i64 (X.from_ l k : Nat), .int .i64 l] W fun e W' => e = .returned (atHit X l k) ∧ Below W.heap.size W W' := by
  have hn := h.shelf.nums
  have hkk : k ≤ (X'.hits l).length := by rw [hs.hits]; exact hk
  have := next_any7 h (X.from_ l k) l
  rw [hs.s] at this
  refine this.mono ?_
  rintro e W' ⟨h1, hb⟩
  refine ⟨?_, hb⟩
  rw [← hs.from_ l k] at h1
  unfold atHit
  rw [← hs.hits l]
  rcases h1 with ⟨rfl, hno⟩ | ⟨i, rfl, hi, h2, h3, h4⟩
  · have := hits_end (l := l) hn hkk fun j hj hm => hno j hj hm
    rw [if_neg (by omega)]
  · obtain ⟨h5, h6⟩ := hits_next (l := l) hn hkk hi h2 h3 h4
    rw [if_pos h5, h6]

set_option maxRecDepth 100000 in
set_option maxHeartbeats 4000000 in
theorem with_seq (base : Nat) (X : SX) (l : Int) (bs bl : Nat) (w : World) (hX : ∀ p, p ∈ X.ps → (X.C p).num ≤ 1000000000) (m : Nat) (hm : 5 ≤ m) :
    SeqIt m Tryz.prog 68 #[.pointer (some ⟨bs, 0, none⟩), .pointer (some ⟨bl, 0, none⟩)] (X.hits l).length (Arg7 X l) (Rd7 base X l bs bl) w := by
  intro b J Jx W hW hR hK hY h0
  obtain ⟨N, hN⟩ : ∃ N, N = (X.hits l).length := ⟨_, rfl⟩
  rw [← hN] at hY ⊢
  have HN := Lib.hid hN
  have HR := Lib.hid hR
  have HK := Lib.hid hK
  have HY := Lib.hid hY
  have HX := Lib.hid hX
  obtain ⟨c1, c2, X0, fo0, s0, r0⟩ := hR 0 W h0
  have HJ0 := Lib.hid h0
  have HNX := Lib.hid (next_hit (k := 0) s0 r0 (by omega) : Calls Tryz.prog 69 #[.pointer (some ⟨X.s, 0, none⟩), .int .i64 (X.from_ l 0 : Nat), .int .i64 l] W _)
  clear hN hR hK hY h0 s0 r0 hX
  refine callsIn_of_wp Tryz.func68 rfl trivial ?_ rfl
  simp only [Tryz.ntmps68, List.size_toArray, List.length_cons, List.length_nil, Nat.reduceAdd, Nat.reduceSub, Array.replicate_succ, Array.replicate_zero, List.push_toArray, List.append_toArray, List.nil_append, List.cons_append]
  have h1m : 1 ≤ m := by omega
  gi_wp2_with fail
  refine ⟨trivial, (callsIn_wide.2 HNX.out).mono ?_⟩
  rintro e w1 ⟨rfl, hb1⟩
  have HJ1 := Lib.hid (HK.out 0 W w1 HJ0.out hb1)
  clear hb1 c1 c2 HJ0 HNX
  gi_wp2
  gi_loopg [4] (N + 1) (fun gk i wr => ∃ k : Nat, k ≤ N ∧ gk = N - k + 1 ∧ i = atHit X l k ∧ Hid (J k wr))
  case atStart => exact ⟨0, Nat.zero_le _, by omega, rfl, HJ1⟩
  case round =>
    obtain ⟨k, hk, rfl, rfl, hJ⟩ := hrel
    by_cases hlt : k < N
    · obtain ⟨c1, c2, Y, fy, hs, hr⟩ := HR.out k wr hJ.out
      have hat : atHit X l k = .pointer (some ⟨(X.hits l).getD k 0, 0, none⟩) := by unfold atHit; rw [if_pos (by rw [← HN.out]; exact hlt)]
      obtain ⟨p, hp⟩ : ∃ p, p = (X.hits l).getD k 0 := ⟨_, rfl⟩
      rw [← hp] at hat
      have hpm : p ∈ Y.ps := by
        have hl2 : k < (X.hits l).length := by rw [← HN.out]; exact hlt
        have : p ∈ X.hits l := by rw [hp]; simp [List.getD, hl2]
        rw [hs.ps]
        exact (List.mem_filter.1 this).1
      obtain ⟨a1, a2, a3, _⟩ := hr.sto.cl p hpm
      have d1 := a1.cell 1
      simp [CX.cells, CX.row] at d1
      rw [hs.lits p] at d1
      have hin := ints_of_own a3
      rw [hs.lits p] at hin
      have hlen := (hr.wf.cl p hpm).len
      rw [hs.lits p] at hlen
      obtain ⟨L, hL⟩ : ∃ L, L = (X.C p).lits := ⟨_, rfl⟩
      rw [← hL] at d1 hin hlen
      have hLk : (X.told l).getD k [] = L := by
        have hl2 : k < (X.hits l).length := by rw [← HN.out]; exact hlt
        rw [hL, hp]
        simp [SX.told, List.getD, hl2]
      have HC := Lib.hid (clone_ints_any L.length _ _ _ (Y.C p).c wr (by omega) (fun _ _ => rfl) hin (Nat.le_refl _))
      have HLK := Lib.hid hLk
      have HP := Lib.hid hp
      rw [hat]
      clear hL hLk hp hin a1 a2 a3 hpm hs hr hat
      gi_wp2_with fail
      refine ⟨trivial, (callsIn_wide.2 HC.out).mono ?_⟩
      rintro e w2 ⟨A2, k2, rfl, hown, hb2⟩
      have harg : Arg7 X l k (.slice A2 L.length k2) wr w2 := by
        unfold Arg7
        rw [HLK.out]
        refine ⟨A2, k2, rfl, ?_⟩
        have e : (List.range L.length).map (fun j => Value.int .i64 (L.getD j 0)) = L.map (Value.int .i64) := by
          apply List.ext_getElem
          · simp
          · intro i h1 h2
            simp [List.getD, show i < L.length by simpa using h1]
        rw [e] at hown
        exact hown
      obtain ⟨fn, tmps, assign, body, hy, hRn⟩ := HY.out k _ wr w2 hJ.out hlt hb2 harg
      have HRN := Lib.hid hRn
      clear hRn harg hown hb2 d1 c1 c2
      gi_wp2
      refine HRN.out.mono ?_
      rintro e W3 (⟨rfl, hJ3⟩ | ⟨rfl, hJx3⟩)
      · obtain ⟨c1, c2, Z, fz, hs3, hr3⟩ := HR.out (k + 1) W3 hJ3
        have HJ3 := Lib.hid hJ3
        have hpx : p ∈ X.ps := by
          have hl2 : k < (X.hits l).length := by rw [← HN.out]; exact hlt
          have : p ∈ X.hits l := by rw [HP.out]; simp [List.getD, hl2]
          exact (List.mem_filter.1 this).1
        have hpm : p ∈ Z.ps := by rw [hs3.ps]; exact hpx
        have c3 := (hr3.sto.cl p hpm).1.cell 0
        simp [CX.cells] at c3
        rw [(hs3.gn p).2] at c3
        have hf : X.from_ l (k + 1) = (X.C p).num + 1 := by simp only [SX.from_]; rw [HP.out]
        have hnb := HX.out p hpx
        obtain ⟨v0, hv0⟩ : ∃ v0, v0 = (X.C p).num := ⟨_, rfl⟩
        rw [← hv0] at c3 hf hnb
        have HNX := Lib.hid (fun q => next_hit (W := W3.drewN q) (k := k + 1) (l := l) hs3 (show Rest7 (W3.drewN q) base Z fz from hr3.below (below_drewN (Below.refl _ _) q)) (by rw [← HN.out]; omega))
        rw [hf, show ((v0 + 1 : Nat) : Int) = (v0 : Int) + 1 by omega] at HNX
        have hw : IntKind.i64.wrap ((v0 : Int) + 1) = ((v0 + 1 : Nat) : Int) := by rw [IntWalk.i64_in _ ⟨by omega, by omega⟩]; omega
        have KE := Lib.hid (fun (w5 : World) (hb : Below W3.heap.size W3 w5) => (show w5.cell? ⟨bs, 0, none⟩ = some (.pointer (some ⟨X.s, 0, none⟩)) ∧ w5.cell? ⟨bl, 0, none⟩ = some (.int .i64 l) ∧ w5.cell? ⟨p, 0, none⟩ = some (.int .i64 v0) from ⟨cell_later hb c1, cell_later hb c2, cell_later hb c3⟩))
        clear hv0 hf hpm hpx hr3 hs3 hJ3 hy
        gi_wp2
        refine wpIn_wide.2 ?_
        go_region_held3 (fun w' => w'.cell? ⟨bs, 0, none⟩ = some (.pointer (some ⟨X.s, 0, none⟩)) ∧ w'.cell? ⟨bl, 0, none⟩ = some (.int .i64 l) ∧ w'.cell? ⟨p, 0, none⟩ = some (.int .i64 v0)) (first | exact KK.out | exact ⟨c1, c2, c3⟩) (first | (go_at_call 69; refine (HNX.out 1).mono ?_; rintro e w5 ⟨rfl, hb5'⟩; have HB5 := Lib.hid (below_undrew hb5'); have KK := Lib.hid (KE.out w5 HB5.out); clear hb5'))
        have HJ5 := Lib.hid (HK.out (k + 1) W3 w5 HJ3.out HB5.out)
        gi_wp2
        gi_roundg (N - k)
        case measure => omega
        case rel => exact ⟨k + 1, by omega, by omega, rfl, HJ5⟩
      · have HJX := Lib.hid hJx3
        clear hJx3 hy
        gi_wp2
        refine bodyPost_ret (results_none rfl _ _ _) rfl ?_
        exact ⟨⟨_, rfl⟩, .inr HJX.out⟩
    · obtain rfl : N = k := by omega
      have hat : atHit X l N = .pointer none := by unfold atHit; rw [if_neg (by rw [← HN.out]; omega)]
      rw [hat]
      clear hat
      gi_wp2
      go_end0
      exact ⟨⟨_, rfl⟩, .inl hJ.out⟩
end Go.Proofs.YthcpfaahcncfjaaGreatDoor
