/- A part of a row: what a slice expression gives. No program is named here. With: the search for a clause's number by halves. With: the next clause that has a literal. The clauses that have a literal, in their order: which one comes behind a number. -/
import Derived.Test.YtlkgicaajenhaaaDoorOwn
import Derived.Test.YtlkgicaajenhaaaDoorUse07
import Derived.Test.YtlkgicaajenhaaaDoorWat07
namespace Go.Proofs.YtlkgicaajenhaaaDoor
open Go.RowKit
set_option linter.unusedVariables false
set_option linter.unusedSimpArgs false

theorem run_front7 {P : Program} {t e : TypeId} (ht : P.underlying t = some (.slice e)) (w : World) (hz : (sizeOf e).run P w = .ok 1 w) (b off n c k : Nat) (hk : k ≤ c) : (Instr.slice t (.slice (some ⟨b, off, none⟩) n c) none (some (.int .i64 k)) none).run P w = .ok (.slice (some ⟨b, off, none⟩) k c) w := by
  have h1 : (0 : Int) ≤ (k : Int) := Int.natCast_nonneg _
  have h2 : (k : Int) ≤ (c : Int) := by omega
  simp [Instr.slice, run_underlying ht, Instr.sliceBounds, go_sem, h1, h2, hz, Result.andThen]
theorem run_back7 {P : Program} {t e : TypeId} (ht : P.underlying t = some (.slice e)) (w : World) (hz : (sizeOf e).run P w = .ok 1 w) (b off n c k : Nat) (hk : k ≤ n) (hn : n ≤ c) : (Instr.slice t (.slice (some ⟨b, off, none⟩) n c) (some (.int .i64 k)) none none).run P w = .ok (.slice (if c = k then some ⟨b, off, none⟩ else some ⟨b, off + k, none⟩) (n - k) (c - k)) w := by
  have h1 : (0 : Int) ≤ (k : Int) := Int.natCast_nonneg _
  have h2 : (k : Int) ≤ (n : Int) := by omega
  have h3 : (n : Int) ≤ (c : Int) := by omega
  simp [Instr.slice, run_underlying ht, Instr.sliceBounds, go_sem, h1, h2, h3, hk, hn, hz, Result.andThen]
theorem wpList_slice7 {P : Program} {ops : Array Oper} {rest : List Oper} {o : Oper} {a : Act} {Q : Exit → Act → World → Prop} {w : World} (hg : o.guard = none) (t : TypeId) (x : Operand) (lo hi mx : Option Operand) (hop : o.op = Op.slice t x lo hi mx)
    (v r : Value) (hx : a.eval x = v) (lo' hi' mx' : Option Value) (hlo : lo.map a.eval = lo') (hhi : hi.map a.eval = hi') (hmx : mx.map a.eval = mx') (hrun : (Instr.slice t v lo' hi' mx').run P w = .ok r w) (hund : P.underlying t = some (.slice (P.elem t))) (hK : wpList P ops Q rest (a.put o.dst r) w) : wpList P ops Q (o :: rest) a w := by
  refine wpList_plain hg fun K' hK' => ?_
  subst hlo hhi hmx
  unfold Oper.wp
  simp [execOp, hop, hx, hrun, run_sliceAt_slice, hund, Result.andThen]
  exact hK' _ _ hK
end Go.Proofs.YtlkgicaajenhaaaDoor

namespace Go.Proofs.YtlkgicaajenhaaaDoor
open Go.RowKit
set_option linter.unusedVariables false
set_option linter.unusedSimpArgs false

theorem next1_any (x : CX) (p : Nat) (n : Int) (w : World) (h : Blk w p 73 x.cells) :
    Calls Tryd.prog 56 #[.pointer (some ⟨p, 0, none⟩), .int .i64 n] w fun e w' => e = .returned (.int .i64 (cmpInt x.num n)) ∧ w = w' := by
  have h0 : w.cell? ⟨p, 0, none⟩ = some (.int .i64 x.num) := h.cell 0
  clear h
  go_enter Tryd.func56, Tryd.ntmps56
  go_wp2_with (go_at_call 50; refine (cmp_any _ _ _).mono ?_; rintro e w' ⟨rfl, rfl⟩)
  go_ret
  exact ⟨rfl, rfl⟩

set_option maxRecDepth 100000 in
theorem bsearch7 (ps : List Nat) (C : Nat → CX) (n : Nat) (B : Nat) (A : Option Addr) (c : Nat) (w : World) (hl : ps.length ≤ 1000000000) (hr : ps.Pairwise fun p q => (C p).num < (C q).num)
    (hC : ∀ p, p ∈ ps → Blk w p 73 (C p).cells) (h : Cells w B A ps.length fun j => .pointer (some ⟨ps.getD j 0, 0, none⟩)) :
    Calls Tryd.prog 55 #[.slice A ps.length c, .int .i64 n, .func (.func 56) #[] #[]] w fun e w' =>
      (∃ (i : Nat) (b : Bool), e = .returned (.tuple #[.int .i64 i, .bool b]) ∧ i ≤ ps.length ∧ (∀ k, k < i → (C (ps.getD k 0)).num < n) ∧ ∀ k, i ≤ k → k < ps.length → n ≤ (C (ps.getD k 0)).num) ∧ w' = w := by
  have H := Lib.hid h
  have HC : Hid (∀ k, k < ps.length → Blk w (ps.getD k 0) 73 (C (ps.getD k 0)).cells) := Lib.hid fun k hk => hC _ (by rw [show ps.getD k 0 = ps[k] by simp [List.getD, hk]]; exact List.getElem_mem hk)
  have HM : Hid (∀ k k', k ≤ k' → k' < ps.length → (C (ps.getD k 0)).num ≤ (C (ps.getD k' 0)).num) := Lib.hid fun k k' hk hk' => by
    rcases Nat.lt_or_ge k k' with h | h
    · have := List.pairwise_iff_getElem.1 hr k k' (by omega) hk' h
      simp only [List.getD, List.getElem?_eq_getElem (show k < ps.length by omega), List.getElem?_eq_getElem hk', Option.getD_some]
      omega
    · rw [show k = k' by omega]; exact Nat.le_refl _
  clear h hC hr
  go_enter Tryd.func55, Tryd.ntmps55
  go_wp2
  go_loopw [9, 10] (fun a b wr => ∃ i j : Nat, w = wr ∧ a = .int .i64 i ∧ b = .int .i64 j ∧ i ≤ j ∧ j ≤ ps.length ∧ Hid (∀ k, k < i → (C (ps.getD k 0)).num < n) ∧ Hid (∀ k, j ≤ k → k < ps.length → n ≤ (C (ps.getD k 0)).num)) (fun a b _ => (intOf b - intOf a).toNat)
  case atStart => exact ⟨0, ps.length, rfl, rfl, rfl, Nat.zero_le _, Nat.le_refl _, Lib.hid (fun k hk => by omega), Lib.hid (fun k h1 h2 => by omega)⟩
  case round =>
    obtain ⟨i, j, rfl, rfl, rfl, hij, hj, H1, H2⟩ := hrel
    by_cases hlt : i < j
    · obtain ⟨m, hm⟩ : ∃ m : Nat, m = (i + j) / 2 := ⟨_, rfl⟩
      have hmi : ((i : Int) + (j : Int)) / 2 = (m : Int) := by omega
      have hm1 : i ≤ m := by omega
      have hm2 : m < j := by omega
      clear hm
      obtain ⟨b, off, rfl, _, hcell⟩ := H.out.at_ (show m < ps.length by omega)
      have HN := Lib.hid (next1_any (C (ps.getD m 0)) (ps.getD m 0) n w (HC.out m (by omega)))
      have HX : Hid (∀ k, k ≤ m → (C (ps.getD k 0)).num ≤ (C (ps.getD m 0)).num) := Lib.hid fun k hk => HM.out k m hk (by omega)
      have HY : Hid (∀ k, m ≤ k → k < ps.length → (C (ps.getD m 0)).num ≤ (C (ps.getD k 0)).num) := Lib.hid fun k hk hk2 => HM.out m k hk hk2
      obtain ⟨p, hp⟩ : ∃ p, p = ps.getD m 0 := ⟨_, rfl⟩
      rw [← hp] at hcell HN HX HY
      clear hp
      obtain ⟨y, hy⟩ : ∃ y, y = (C p).num := ⟨_, rfl⟩
      rw [← hy] at HN HX HY
      clear hy
      by_cases hc : (y : Int) < (n : Int)
      · have hcc : cmpInt (y : Int) (n : Int) = -1 := by unfold cmpInt; rw [if_pos hc]
        rw [hcc] at HN
        clear hcc
        go_wp2_with (go_at_call 56; refine HN.out.mono ?_; rintro e w' ⟨rfl, rfl⟩)
        go_roundw
        case rel =>
          refine ⟨m + 1, j, (by trivial), by go_num, rfl, by omega, hj, Lib.hid fun k hk => ?_, H2⟩
          have := HX.out k (by omega)
          omega
        case measure => simp [intOf]; omega
      · have hcc : cmpInt (y : Int) (n : Int) = 0 ∨ cmpInt (y : Int) (n : Int) = 1 := by unfold cmpInt; rw [if_neg hc]; split <;> simp
        rcases hcc with hcc | hcc
        all_goals
          rw [hcc] at HN
          clear hcc
          go_wp2_with (go_at_call 56; refine HN.out.mono ?_; rintro e w' ⟨rfl, rfl⟩)
          go_roundw
          case rel =>
            refine ⟨i, m, (by trivial), rfl, rfl, by omega, by omega, H1, Lib.hid fun k hk hk2 => ?_⟩
            have := HY.out k hk hk2
            omega
          case measure => simp [intOf]; omega
    · obtain rfl : i = j := by omega
      by_cases hin : i < ps.length
      · obtain ⟨b, off, rfl, _, hcell⟩ := H.out.at_ hin
        have HN := Lib.hid (next1_any (C (ps.getD i 0)) (ps.getD i 0) n w (HC.out i hin))
        obtain ⟨p, hp⟩ : ∃ p, p = ps.getD i 0 := ⟨_, rfl⟩
        rw [← hp] at hcell HN
        clear hp
        obtain ⟨r, hrr⟩ : ∃ r, r = cmpInt (C p).num n := ⟨_, rfl⟩
        rw [← hrr] at HN
        clear hrr
        go_wp2_with (go_at_call 56; refine HN.out.mono ?_; rintro e w' ⟨rfl, rfl⟩)
        go_ret2
        exact ⟨⟨i, _, rfl, hj, H1.out, H2.out⟩, rfl⟩
      · go_wp2
        go_ret2
        exact ⟨⟨i, _, rfl, hj, H1.out, H2.out⟩, rfl⟩

theorem index77 (xs : List Int) (B : Nat) (A : Option Addr) (c : Nat) (x : Int) (w : World) (hx : xs.length ≤ 1099511627776) (h : Ints w B A xs) :
    Calls Tryd.prog 77 #[.slice A xs.length c, .int .i64 x] w fun e w' => (∃ r : Int, e = .returned (.int .i64 r) ∧ (0 ≤ r ↔ x ∈ xs)) ∧ w = w' := by
  have H := Lib.hid h
  clear h
  go_enter Tryd.func77, Tryd.ntmps77
  go_wp2
  go_loopg [8] (xs.length + 1) (fun gk i wr => ∃ k : Nat, k ≤ xs.length ∧ gk = xs.length - k + 1 ∧ i = .int .i64 k ∧ w = wr ∧ Hid (∀ y, y ∈ xs.take k → y ≠ x))
  case atStart => exact ⟨0, by omega, by omega, rfl, rfl, Lib.hid (by simp)⟩
  case round =>
    obtain ⟨k, hk, rfl, rfl, rfl, hn⟩ := hrel
    by_cases hlt : k < xs.length
    · obtain ⟨b, off, rfl, _, hc⟩ := Cells.at_ H.out hlt
      obtain ⟨htk, hm⟩ := take_snoc7 hlt
      obtain ⟨y, hy⟩ : ∃ y, y = xs.getD k 0 := ⟨_, rfl⟩
      rw [← hy] at hc htk hm
      have HTK := Lib.hid htk
      have HM := Lib.hid hm
      clear hy htk hm
      by_cases he : x = y
      · have HD : Hid (x ∈ xs) := Lib.hid (by rw [he]; exact HM.out)
        go_wp2
        go_ret
        exact ⟨⟨k, rfl, fun _ => HD.out, fun _ => by omega⟩, rfl⟩
      · have HE := Lib.hid he
        go_wp2
        go_roundg (xs.length - k)
        case measure => omega
        case rel =>
          refine ⟨k + 1, by omega, by omega, by go_num, rfl, Lib.hid fun z hz => ?_⟩
          rw [HTK.out] at hz
          rcases List.mem_append.1 hz with hz | hz
          · exact hn.out z hz
          · rw [List.mem_singleton.1 hz]; exact fun e => HE.out e.symm
    · obtain rfl : k = xs.length := by omega
      rw [List.take_length] at hn
      go_wp2
      go_ret
      exact ⟨⟨-1, rfl, fun h => by omega, fun h => absurd rfl (hn.out x h)⟩, rfl⟩

theorem contains59 (xs : List Int) (B : Nat) (A : Option Addr) (c : Nat) (x : Int) (w : World) (hx : xs.length ≤ 1099511627776) (h : Ints w B A xs) :
    Calls Tryd.prog 59 #[.slice A xs.length c, .int .i64 x] w fun e w' => e = .returned (.bool (decide (x ∈ xs))) ∧ w = w' := by
  have HI := Lib.hid (index77 xs B A c x w hx h)
  clear h
  go_enter Tryd.func59, Tryd.ntmps59
  go_wp2_with (go_at_call 77; refine HI.out.mono ?_; rintro e w' ⟨⟨r, rfl, hr⟩, rfl⟩; have HR := Lib.hid hr; clear hr)
  go_ret
  exact ⟨congrArg (fun b => Ending.returned (Value.bool b)) (decide_eq_decide.2 HR.out), rfl⟩

theorem next2_any (x : CX) (p lb B : Nat) (l : Int) (w : World) (h : Blk w p 73 x.cells) (hl : w.cell? ⟨lb, 0, none⟩ = some (.int .i64 l)) (hr : Ints w B x.A x.lits) (hn : x.lits.length ≤ 1000000000) :
    Calls Tryd.prog 58 #[.pointer (some ⟨p, 0, none⟩), .pointer (some ⟨lb, 0, none⟩)] w fun e w' => e = .returned (.bool (!x.gone && decide (l ∈ x.lits))) ∧ ∃ q, w' = w.drewN q := by
  have h1 : w.cell? ⟨p, 1, none⟩ = some (.slice x.A x.lits.length x.c) := h.cell 1
  have h5 : w.cell? ⟨p, 5, none⟩ = some (.bool x.gone) := h.cell 5
  have HC := Lib.hid (fun q => contains59 x.lits B x.A x.c l (w.drewN q) (by omega) hr)
  obtain ⟨g, hg⟩ : ∃ g, g = x.gone := ⟨_, rfl⟩
  rw [← hg] at h5 ⊢
  clear h hr hg
  cases g with
  | true =>
    go_enter Tryd.func58, Tryd.ntmps58
    go_wp2
    go_quiet (fail)
    go_wp2
    go_ret
    exact ⟨rfl, _, rfl⟩
  | false =>
    go_enter Tryd.func58, Tryd.ntmps58
    go_wp2
    go_quiet ((go_at_call 59; with_reducible exact quiet_left (HC.out _)))
    go_wp2
    go_ret
    exact ⟨rfl, _, rfl⟩

set_option maxRecDepth 100000 in
/-- the first clause of a row that a quiet closure takes -/
theorem indexfunc7s (n c B g : Nat) (A : Option Addr) (f : Nat → Value) (lb : Array Value) (P : Nat → Bool) (w : World) (hn : n ≤ 1000000000) (h : Cells w B A n f)
    (hc : ∀ k q, k < n → Calls Tryd.prog g (#[f k] ++ lb) (w.drewN q) fun e w' => e = .returned (.bool (P k)) ∧ ∃ r, w' = (w.drewN q).drewN r) (eg : ∀ args w, (callFunc g args).run Tryd.prog w = .ok (.enter g args) w) :
    Calls Tryd.prog 57 #[.slice A n c, .func (.func g) #[] lb] w fun e w' =>
      ((e = .returned (.int .i64 (-1)) ∧ ∀ k, k < n → P k = false) ∨ ∃ i : Nat, e = .returned (.int .i64 i) ∧ i < n ∧ P i = true ∧ ∀ k, k < i → P k = false) ∧ ∃ r, w' = w.drewN r := by
  have H := Lib.hid h
  have HC := Lib.hid hc
  clear h hc
  go_enter Tryd.func57, Tryd.ntmps57
  go_wp2
  go_loopg [8] (n + 1) (fun gk i wr => ∃ k q : Nat, k ≤ n ∧ gk = n - k + 1 ∧ i = .int .i64 k ∧ wr = w.drewN q ∧ Hid (∀ j, j < k → P j = false))
  case atStart => exact ⟨0, 0, by omega, by omega, rfl, rfl, Lib.hid fun j hj => by omega⟩
  case round =>
    obtain ⟨k, q, hk, rfl, rfl, rfl, HP⟩ := hrel
    by_cases hlt : k < n
    · obtain ⟨b, off, rfl, _, hcell⟩ := Cells.at_ (H.out.drewN q) hlt
      have HCK := Lib.hid (HC.out k q hlt)
      obtain ⟨v, hv⟩ : ∃ v, v = f k := ⟨_, rfl⟩
      obtain ⟨r, hr⟩ : ∃ r, r = P k := ⟨_, rfl⟩
      rw [← hv] at hcell HCK
      rw [← hr] at HCK
      have HR := Lib.hid hr
      clear hv hr
      go_wp2_with fail
      refine HCK.out.mono ?_
      rintro e w2 ⟨rfl, q2, hq2⟩
      rw [World.drewN_drewN] at hq2
      subst hq2
      cases r with
      | true =>
        go_wp2
        go_ret
        exact ⟨.inr ⟨k, rfl, hlt, HR.out.symm, HP.out⟩, _, rfl⟩
      | false =>
        go_wp2
        go_roundg (n - k)
        case measure => omega
        case rel => exact ⟨k + 1, q + q2, by omega, by omega, by go_num, rfl, Lib.hid fun j hj => by
          rcases Nat.lt_or_ge j k with h | h
          · exact HP.out j h
          · rw [show j = k by omega]; exact HR.out.symm⟩
    · obtain rfl : k = n := by omega
      go_wp2
      go_ret
      exact ⟨.inl ⟨rfl, HP.out⟩, _, rfl⟩

end Go.Proofs.YtlkgicaajenhaaaDoor

namespace Go.Proofs.YtlkgicaajenhaaaDoor
open Go.RowKit
set_option linter.unusedVariables false
set_option linter.unusedSimpArgs false

theorem slice_back7 {P : Program} {t e e' : TypeId} {w : World} {base B n c i : Nat} {A : Option Addr} {xs : List Value} {f : Nat → Value} (ht : P.underlying t = some (.slice e)) (hz : ∀ w', (sizeOf e).run P w' = .ok 1 w') (h : w.ownsRow base e' 1 (.slice A n c) n xs) (hc : Cells w B A n f) (hi : i ≤ n) :
    ∃ A', (∀ w', (Instr.slice t (.slice A n c) (some (.int .i64 i)) none none).run P w' = .ok (.slice A' (n - i) (c - i)) w') ∧ Cells w B A' (n - i) fun k => f (i + k) := by
  rcases h.2 with ⟨hv, h0⟩ | ⟨g, cap, cur, hv, hb, hg, h1, _⟩
  · injection hv with hA _ hC
    subst hA hC
    subst h0
    obtain rfl : i = 0 := by omega
    exact ⟨none, fun w' => by simp [Instr.slice, run_underlying ht, Instr.sliceBounds, go_sem, hz, Result.andThen], fun h => by omega⟩
  · injection hv with hA _ hC
    subst hA hC
    refine ⟨if c = i then some ⟨g, 0, none⟩ else some ⟨g, 0 + i, none⟩, fun w' => run_back7 ht w' (hz w') g 0 n c i hi h1, fun hp => ?_⟩
    obtain ⟨b, off, e, hb, hc⟩ := hc (by omega)
    injection e with e
    injection e with e1 e2
    subst e1 e2
    rw [if_neg (by omega)]
    exact ⟨g, 0 + i, rfl, hb, fun j hj => by rw [Nat.add_assoc]; exact hc (i + j) (by omega)⟩

set_option maxRecDepth 100000 in
theorem next_any7 {W : World} {base : Nat} {X : SX} {fo : List Bool} (h : Rest7 W base X fo) (m : Nat) (l : Int) :
    Calls Tryd.prog 41 #[.pointer (some ⟨X.s, 0, none⟩), .int .i64 m, .int .i64 l] W fun e W' =>
      ((e = .returned (.pointer none) ∧ ∀ k, k < X.ps.length → m ≤ (X.C (X.ps.getD k 0)).num → (!(X.C (X.ps.getD k 0)).gone && decide (l ∈ (X.C (X.ps.getD k 0)).lits)) = false) ∨
       ∃ k : Nat, e = .returned (.pointer (some ⟨X.ps.getD k 0, 0, none⟩)) ∧ k < X.ps.length ∧ m ≤ (X.C (X.ps.getD k 0)).num ∧ (!(X.C (X.ps.getD k 0)).gone && decide (l ∈ (X.C (X.ps.getD k 0)).lits)) = true ∧
        ∀ j, j < k → m ≤ (X.C (X.ps.getD j 0)).num → (!(X.C (X.ps.getD j 0)).gone && decide (l ∈ (X.C (X.ps.getD j 0)).lits)) = false) ∧ Below W.heap.size W W' := by
  obtain ⟨i0, hi, hz0, hz1, hz2⟩ := info_parts (show (Tryd.prog.info? 74).map (fun i => (i.zero, i.size, i.bytes)) = some (some (.pointer none), 1, 8) by kernel_rfl)
  obtain ⟨Aa, ca, hva, hoa⟩ := h.sto.pil.each (2 * X.V) (by have := h.sto.num.1; omega)
  rw [h.shelf.all] at hva hoa
  have s3 : W.cell? ⟨X.s, 3, none⟩ = some (.slice Aa X.ps.length ca) := by rw [← hva]; exact h.sto.st.cell 3
  have hcl : Cells W W.heap.size Aa X.ps.length fun j => .pointer (some ⟨X.ps.getD j 0, 0, none⟩) := (cells_of_own hoa undef).congr fun j hj => by simp [ptrs7, List.getD, hj]
  have hsl := h.sto.st.lt
  have hps := h.wf.plen
  have HBL : Hid (∀ k, k < X.ps.length → Blk W (X.ps.getD k 0) 73 (X.C (X.ps.getD k 0)).cells ∧ Ints W W.heap.size (X.C (X.ps.getD k 0)).A (X.C (X.ps.getD k 0)).lits ∧ (X.C (X.ps.getD k 0)).lits.length ≤ 1000000000) := Lib.hid fun k hk => by
    have hm : X.ps.getD k 0 ∈ X.ps := by rw [show X.ps.getD k 0 = X.ps[k] by simp [List.getD, hk]]; exact List.getElem_mem hk
    obtain ⟨a1, _, a3, _⟩ := h.sto.cl _ hm
    exact ⟨a1, ints_of_own a3, (h.wf.cl _ hm).len⟩
  obtain ⟨W1, hW1⟩ : ∃ W1, W1 = W.alloc (Obj.cells #[.int .i64 l] 3) := ⟨_, rfl⟩
  have hb1 : Below W.heap.size W W1 := by rw [hW1]; exact (Below.refl _ _).alloc (Nat.le_refl _) _
  have hlb : W1.cell? ⟨W.heap.size, 0, none⟩ = some (.int .i64 l) := by rw [hW1]; exact (Blk.new W _ _).cell 0
  have hs1 : W.heap.size + 1 = W1.heap.size := by rw [hW1]; simp
  have HBS := Lib.hid (bsearch7 X.ps X.C m W.heap.size Aa ca W1 hps h.shelf.nums (fun p hp => (h.sto.cl p hp).1.below hb1 (h.sto.cl p hp).1.lt) (Cells.below hcl hb1))
  have hcl1 := Cells.below hcl hb1
  have hoa1 := own_below hoa hb1 fun g hg => (hoa.lt g hg).2
  have s31 : W1.cell? ⟨X.s, 3, none⟩ = some (.slice Aa X.ps.length ca) := by rw [hb1.cell (show X.s < _ from hsl)]; exact s3
  have HSL := Lib.hid (fun i (hi : i ≤ X.ps.length) => slice_back7 (P := Tryd.prog) (t := 62) Tryd.underlying62 (fun w' => by simp [sizeOf, typeInfo, ‹Tryd.prog.info? _ = some i0›, hz1]) hoa1 hcl1 hi)
  have s31a := s31
  rw [hW1] at s31a
  have HW1 := Lib.hid hW1
  have HB1 := Lib.hid hb1
  have HCL1 := Lib.hid hcl1
  have HLB := Lib.hid hlb
  clear hva hoa s3 hcl hb1 hcl1 hoa1 hW1 hlb h hi hz0 hz1 hz2
  go_enter Tryd.func41, Tryd.ntmps41
  go_wp2_with fail
  rw [← HW1.out]
  refine HBS.out.mono ?_
  rintro e w2 ⟨⟨i, b, rfl, hin, h1, h2⟩, rfl⟩
  obtain ⟨A', hrun, hcs⟩ := HSL.out i hin
  have HRUN := Lib.hid hrun
  have HIF := Lib.hid (indexfunc7s (X.ps.length - i) (ca - i) W.heap.size 58 A' _ #[.pointer (some ⟨W.heap.size, 0, none⟩)] (fun k => !(X.C (X.ps.getD (i + k) 0)).gone && decide (l ∈ (X.C (X.ps.getD (i + k) 0)).lits)) w2 (by omega) hcs
    (fun k q hk => by
      obtain ⟨a1, a2, a3⟩ := HBL.out (i + k) (by omega)
      exact next2_any (X.C (X.ps.getD (i + k) 0)) (X.ps.getD (i + k) 0) W.heap.size W.heap.size l (w2.drewN q) (a1.below (below_drewN HB1.out q) a1.lt) HLB.out (Cells.below a2 (below_drewN HB1.out q)) a3)
    (enters_of Tryd.func58 (by kernel_rfl) rfl))
  have HH1 := Lib.hid h1
  have HH2 := Lib.hid h2
  clear hrun hcs h1 h2 s31a HBS
  go_wp2_with (first
    | (refine wpList_slice7 rfl _ _ _ _ _ rfl (.slice Aa X.ps.length ca) (.slice A' (X.ps.length - i) (ca - i)) rfl (some (.int .i64 i)) none none rfl rfl rfl (HRUN.out _) (by kernel_rfl) ?_))
  refine HIF.out.mono ?_
  rintro e w3 ⟨hans, q, rfl⟩
  rcases hans with ⟨rfl, hno⟩ | ⟨j, rfl, hj, hyes, hno⟩
  · have HNO := Lib.hid hno
    clear hno
    go_wp2
    go_ret
    exact ⟨.inl ⟨rfl, fun k hk hmk => by
      rcases Nat.lt_or_ge k i with hki | hki
      · have := HH1.out k hki; omega
      · have := HNO.out (k - i) (by omega)
        rw [show i + (k - i) = k by omega] at this
        exact this⟩, below_drewN HB1.out q⟩
  · have HNO := Lib.hid hno
    have HYES := Lib.hid hyes
    obtain ⟨bq, oq, rfl, _, hcell⟩ := Cells.at_ (HCL1.out.drewN q) (show i + j < X.ps.length by omega)
    obtain ⟨k, hk⟩ : ∃ k, k = i + j := ⟨_, rfl⟩
    have hkk : (i : Int) + (j : Int) = (k : Int) := by omega
    have hki : i ≤ k := by omega
    have hkn : k < X.ps.length := by omega
    rw [← hk] at hcell HYES
    have HKD := Lib.hid hk
    obtain ⟨p, hp⟩ : ∃ p, p = X.ps.getD k 0 := ⟨_, rfl⟩
    rw [← hp] at hcell
    have HPP := Lib.hid hp
    clear hno hyes hk hp
    go_wp2
    go_ret
    exact ⟨.inr ⟨k, by rw [← HPP.out]; rfl, hkn, HH2.out k hki hkn, HYES.out, fun j' hj' hm' => by
      rcases Nat.lt_or_ge j' i with h | h
      · have := HH1.out j' h; omega
      · have := HNO.out (j' - i) (by have := HKD.out; omega)
        rw [show i + (j' - i) = j' by omega] at this
        exact this⟩, below_drewN HB1.out q⟩
end Go.Proofs.YtlkgicaajenhaaaDoor

namespace Go.Proofs.YtlkgicaajenhaaaDoor
open Go.RowKit
set_option linter.unusedVariables false

theorem filter_none7 {ps : List Nat} {Q : Nat → Bool} (h : ∀ k, k < ps.length → Q (ps.getD k 0) = false) : ps.filter Q = [] := by
  refine List.filter_eq_nil_iff.2 fun p hp => ?_
  obtain ⟨k, hk, rfl⟩ := List.mem_iff_getElem.1 hp
  have := h k hk
  simp [List.getD, hk] at this
  simp [this]
theorem filter_first7 {ps : List Nat} {Q : Nat → Bool} {k : Nat} (hk : k < ps.length) (hq : Q (ps.getD k 0) = true) (h : ∀ j, j < k → Q (ps.getD j 0) = false) : ∃ r, ps.filter Q = ps.getD k 0 :: r := by
  have e : ps = ps.take k ++ ps.getD k 0 :: ps.drop (k + 1) := by
    rw [show ps.getD k 0 = ps[k] by simp [List.getD, hk], ← List.drop_eq_getElem_cons hk, List.take_append_drop]
  have h0 : (ps.take k).filter Q = [] := filter_none7 fun j hj => by
    have hj2 : j < k := by simp at hj; omega
    have := h j hj2
    simpa [List.getD, List.getElem?_take, hj2] using this
  refine ⟨(ps.drop (k + 1)).filter Q, ?_⟩
  have e2 := congrArg (List.filter Q) e
  rw [List.filter_append, h0, List.nil_append, List.filter_cons, if_pos hq] at e2
  exact e2
theorem filter_behind7 {num : Nat → Nat} : ∀ {hs : List Nat} {k : Nat}, hs.Pairwise (fun p q => num p < num q) → k < hs.length → hs.filter (fun p => decide (num (hs.getD k 0) + 1 ≤ num p)) = hs.drop (k + 1)
  | p :: hs, 0, h, _ => by
    rw [List.pairwise_cons] at h
    simp only [List.getD_cons_zero, List.drop_succ_cons, List.drop_zero]
    rw [List.filter_cons, if_neg (by simp)]
    exact List.filter_eq_self.2 fun q hq => by have := h.1 q hq; simp; omega
  | p :: hs, k + 1, h, hk => by
    rw [List.pairwise_cons] at h
    have hk2 : k < hs.length := by simpa using hk
    have hm : hs.getD k 0 ∈ hs := by simp [List.getD, hk2]
    have := h.1 _ hm
    rw [List.getD_cons_succ, List.filter_cons, if_neg (by rw [decide_eq_true_eq]; omega)]
    exact filter_behind7 h.2 hk2
/-- the clauses that have a literal -/
def SX.hit (X : SX) (l : Int) (p : Nat) : Bool := !(X.C p).gone && decide (l ∈ (X.C p).lits)
def SX.hits (X : SX) (l : Int) : List Nat := X.ps.filter (X.hit l)
theorem SX.hits_cs (X : SX) (l : Int) : (X.hits l).map (fun p => (X.C p).lits) = X.cs.filter fun c => decide (l ∈ c) := by
  unfold SX.hits SX.cs SX.live
  rw [List.filter_map, List.filter_filter]
  congr 1
  apply List.filter_congr
  intro p _
  simp [SX.hit, Bool.and_comm]
/-- from which number on the next one is looked for, when k have been told -/
def SX.from_ (X : SX) (l : Int) (k : Nat) : Nat := match k with | 0 => 0 | k + 1 => (X.C ((X.hits l).getD k 0)).num + 1
theorem SX.hits_from {X : SX} {l : Int} {k : Nat} (hn : X.ps.Pairwise fun p q => (X.C p).num < (X.C q).num) (hk : k ≤ (X.hits l).length) : X.ps.filter (fun p => decide (X.from_ l k ≤ (X.C p).num) && X.hit l p) = (X.hits l).drop k := by
  have e : X.ps.filter (fun p => decide (X.from_ l k ≤ (X.C p).num) && X.hit l p) = (X.hits l).filter (fun p => decide (X.from_ l k ≤ (X.C p).num)) := by
    unfold SX.hits
    rw [List.filter_filter]
  rw [e]
  cases k with
  | zero => simp [SX.from_]
  | succ k => exact filter_behind7 (num := fun p => (X.C p).num) (hn.filter _) (by omega)
theorem hits_next {X : SX} {l : Int} {k i : Nat} (hn : X.ps.Pairwise fun p q => (X.C p).num < (X.C q).num) (hk : k ≤ (X.hits l).length) (hi : i < X.ps.length) (h1 : X.from_ l k ≤ (X.C (X.ps.getD i 0)).num) (h2 : X.hit l (X.ps.getD i 0) = true)
    (h3 : ∀ j, j < i → X.from_ l k ≤ (X.C (X.ps.getD j 0)).num → X.hit l (X.ps.getD j 0) = false) : k < (X.hits l).length ∧ (X.hits l).getD k 0 = X.ps.getD i 0 := by
  obtain ⟨r, hr⟩ := filter_first7 (Q := fun p => decide (X.from_ l k ≤ (X.C p).num) && X.hit l p) hi (by rw [Bool.and_eq_true, decide_eq_true_eq]; exact ⟨h1, h2⟩) fun j hj => by
    by_cases e : X.from_ l k ≤ (X.C (X.ps.getD j 0)).num
    · rw [h3 j hj e, Bool.and_false]
    · rw [decide_eq_false e, Bool.false_and]
  rw [SX.hits_from hn hk] at hr
  have hlt : k < (X.hits l).length := by
    rcases Nat.lt_or_ge k (X.hits l).length with h | h
    · exact h
    · rw [List.drop_eq_nil_of_le h] at hr; cases hr
  refine ⟨hlt, ?_⟩
  rw [List.drop_eq_getElem_cons hlt] at hr
  injection hr with hr
  simp [List.getD, hlt] at hr ⊢
  exact hr
theorem hits_end {X : SX} {l : Int} {k : Nat} (hn : X.ps.Pairwise fun p q => (X.C p).num < (X.C q).num) (hk : k ≤ (X.hits l).length)
    (h3 : ∀ j, j < X.ps.length → X.from_ l k ≤ (X.C (X.ps.getD j 0)).num → X.hit l (X.ps.getD j 0) = false) : k = (X.hits l).length := by
  have hr := filter_none7 (ps := X.ps) (Q := fun p => decide (X.from_ l k ≤ (X.C p).num) && X.hit l p) fun j hj => by
    by_cases e : X.from_ l k ≤ (X.C (X.ps.getD j 0)).num
    · rw [h3 j hj e, Bool.and_false]
    · rw [decide_eq_false e, Bool.false_and]
  rw [SX.hits_from hn hk] at hr
  have := List.drop_eq_nil_iff.1 hr
  omega
end Go.Proofs.YtlkgicaajenhaaaDoor
