/- A trail in memory; what it answers. What a trail answers: whether a literal may be put there, places, levels, reasons, phases. -/
import Derived.Test.YtbejjddkndcldaaTrlMath
import Derived.Test.YtbejjddkndcldaaLit
import Derived.Test.YtbejjddkndcldaaBoolBlk
import Derived.Deep.QuietTactic
import Derived.BigQuiet
namespace Go.Proofs.Ytbejjddkndcldaa
open Go.RowKit
set_option linter.unusedVariables false
set_option linter.unusedSimpArgs false

/-- the values of the variables -/
def Vals (w : World) (V n : Nat) (rs : List Rec) : Prop := ∃ cs, Blk w V 100 cs ∧ cs.size = n ∧ ∀ k, k < n → cs[k]? = some (.int .i8 (valT rs ((k : Int) + 1)))
/-- where each stands, and why -/
def Spots (w : World) (S n : Nat) (rs : List Rec) : Prop := ∃ cs, Blk w S 102 cs ∧ cs.size = n * 3 ∧ ∀ i r, rs[i]? = some r → cs[(r.l.natAbs - 1) * 3]? = some (.int .i64 (i : Nat)) ∧ cs[(r.l.natAbs - 1) * 3 + 1]? = some (.int .i64 (r.lev : Nat)) ∧ cs[(r.l.natAbs - 1) * 3 + 2]? = some (.int .i64 r.rs)
def litsV (rs : List Rec) : List Value := rs.map fun r => .int .i64 r.l
def startsV (ss : List Nat) : List Value := ss.map fun (s : Nat) => .int .i64 (s : Int)
/-- a trail: its struct in block g, its phases in block P -/
structure TrM (w : World) (base g P : Nat) (t : TS) : Prop where
  ex : ∃ (V S : Nat) (A D : Option Addr) (c d : Nat), Blk w g 97 #[.slice A t.recs.length c, .slice D t.starts.length d, .slice (some ⟨V, 0, none⟩) t.ph.length t.ph.length, .slice (some ⟨S, 0, none⟩) t.ph.length t.ph.length, .slice (some ⟨P, 0, none⟩) t.ph.length t.ph.length] ∧
    w.ownsRow base 3 1 (.slice A t.recs.length c) t.recs.length (litsV t.recs) ∧ w.ownsRow base 3 1 (.slice D t.starts.length d) t.starts.length (startsV t.starts) ∧
    (∀ q, (Value.slice A t.recs.length c).ownBlock = some q → (Value.slice D t.starts.length d).ownBlock = some q → False) ∧ Vals w V t.ph.length t.recs ∧ Spots w S t.ph.length t.recs ∧ base ≤ V ∧ base ≤ S
  phs : BlkB w P 4 t.ph
  hg : base ≤ g
  hP : base ≤ P
structure Tr (w : World) (base g P : Nat) (t : TS) : Prop extends TrM w base g P t where
  good : t.Good
theorem drewN2 (w : World) (m n : Nat) : ∃ k, (w.drewN m).drewN n = w.drewN k := ⟨m + n, by simp [World.drewN, Nat.add_assoc]⟩
theorem Tr.drewN {w : World} {base g P : Nat} {t : TS} (h : Tr w base g P t) (n : Nat) : Tr (w.drewN n) base g P t := ⟨⟨h.ex, h.phs, h.hg, h.hP⟩, h.good⟩
/-- the blocks of a trail stay -/
theorem TrM.keep {w w' : World} {base g P : Nat} {t : TS} (h : TrM w base g P t) (hk : ∀ q ty X, base ≤ q → Blk w q ty X → ty ∈ [3, 100, 102, 97] ∨ q = P → Blk w' q ty X) : TrM w' base g P t := by
  obtain ⟨V, S, A, D, c, d, h1, h2, h3, h4, ⟨cv, h5, h5'⟩, ⟨cp, h6, h6'⟩, h7, h8⟩ := h.ex
  have ko : ∀ {n : Nat} {v : Value} {xs : List Value}, w.ownsRow base 3 1 v n xs → w'.ownsRow base 3 1 v n xs := fun ho => by
    refine ⟨ho.1, ?_⟩
    rcases ho.2 with hn | ⟨q, cap, cur, hv, hq, hh, rest⟩
    · exact .inl hn
    · exact .inr ⟨q, cap, cur, hv, hq, hk q _ _ hq hh (.inl (by simp)), rest⟩
  exact ⟨⟨V, S, A, D, c, d, hk _ _ _ h.hg h1 (.inl (by simp)), ko h2, ko h3, h4, ⟨cv, hk _ _ _ h7 h5 (.inl (by simp)), h5'⟩, ⟨cp, hk _ _ _ h8 h6 (.inl (by simp)), h6'⟩, h7, h8⟩, hk _ _ _ h.hP h.phs (.inr rfl), h.hg, h.hP⟩
theorem Tr.keep {w w' : World} {base g P : Nat} {t : TS} (h : Tr w base g P t) (hk : ∀ q ty X, base ≤ q → Blk w q ty X → ty ∈ [3, 100, 102, 97] ∨ q = P → Blk w' q ty X) : Tr w' base g P t := ⟨h.toTrM.keep hk, h.good⟩
theorem Tr.below {w w' : World} {base g P : Nat} {t : TS} (h : Tr w base g P t) (hb : Below w.heap.size w w') : Tr w' base g P t := h.keep fun q ty X _ hq _ => hq.below hb hq.lt
theorem Tr.drewE {w w' : World} {base g P : Nat} {t : TS} (h : Tr w base g P t) (hd : ∃ m, w' = w.drewN m) : Tr w' base g P t := by
  obtain ⟨m, rfl⟩ := hd
  exact h.drewN m

section
variable {w : World} {base g P : Nat} {t : TS}
theorem level_any (h : Tr w base g P t) : Calls Try.prog 44 #[.pointer (some ⟨g, 0, none⟩)] w fun e w' => e = .returned (.int .i64 (t.starts.length : Nat)) ∧ w = w' := by
  obtain ⟨V, S, A, D, c, d, h1, _⟩ := h.ex
  have c1 := h1.cell 1
  simp at c1
  clear h h1
  go_enter Try.func44, Try.ntmps44
  go_wp2
  go_ret
  exact ⟨rfl, rfl⟩

theorem len_any (h : Tr w base g P t) : Calls Try.prog 35 #[.pointer (some ⟨g, 0, none⟩)] w fun e w' => e = .returned (.int .i64 (t.recs.length : Nat)) ∧ w = w' := by
  obtain ⟨V, S, A, D, c, d, h1, _⟩ := h.ex
  have c1 := h1.cell 0
  simp at c1
  clear h h1
  go_enter Try.func35, Try.ntmps35
  go_wp2
  go_ret
  exact ⟨rfl, rfl⟩

theorem at_any12 (h : Tr w base g P t) (i : Int) : Calls Try.prog 47 #[.pointer (some ⟨g, 0, none⟩), .int .i64 i] w fun e w' => e = .returned (.int .i64 (atT t.recs i)) ∧ ∃ m, w' = w.drewN m := by
  obtain ⟨V, S, A, D, c, d, h1, h2, _⟩ := h.ex
  have c0 := h1.cell 0
  simp at c0
  by_cases hi : 0 ≤ i ∧ i < t.recs.length
  · obtain ⟨k, rfl⟩ : ∃ k : Nat, i = k := ⟨i.toNat, by omega⟩
    have hk : k < t.recs.length := by omega
    have hv : atT t.recs k = (t.recs[k]).l := by simp [atT, hk]
    rw [hv]
    obtain ⟨q, rfl, _, _⟩ := own_addr h2 (by omega)
    have hc := World.ownsRow.cellAt h2 k (by omega)
    have e : (litsV t.recs)[k]? = some (.int .i64 (t.recs[k]).l) := by simp [litsV, hk]
    rw [e] at hc
    obtain ⟨x, hx⟩ : ∃ x, (t.recs[k]).l = x := ⟨_, rfl⟩
    rw [hx] at hc ⊢
    clear h h1 h2 hv e hx
    go_enter Try.func47, Try.ntmps47
    go_wp2
    all_goals go_ret
    all_goals first | exact ⟨rfl, 0, rfl⟩ | omega
  · have hv : atT t.recs i = 0 := by
      unfold atT
      split
      · rw [List.getElem?_eq_none (by omega)]; rfl
      · rfl
    rw [hv]
    have hi2 : i < 0 ∨ (t.recs.length : Int) ≤ i := by omega
    clear h h1 h2 hv hi
    go_enter Try.func47, Try.ntmps47
    rcases hi2 with hi | hi
    · go_wp2
      all_goals go_ret
      all_goals first | exact ⟨rfl, 0, rfl⟩ | omega
    · go_wp2
      all_goals go_ret
      all_goals first | exact ⟨rfl, 0, rfl⟩ | omega

theorem i64_ok {x : Int} (h : -1000000 ≤ x ∧ x ≤ 1000000) : IntKind.i64.wrap x = x := by
  unfold IntKind.wrap
  simp [IntKind.signed, IntKind.bits]
  omega

theorem value_no (h : Tr w base g P t) (l : Int) (h0 : -9223372036854775808 ≤ l ∧ l ≤ 9223372036854775807) (hl : litRight l t.ph.length = false) : Calls Try.prog 37 #[.pointer (some ⟨g, 0, none⟩), .int .i64 l] w fun e w' => e = .returned (.int .i64 0) ∧ ∃ m, w' = w.drewN m := by
  obtain ⟨V, S, A, D, c, d, h1, _⟩ := h.ex
  have c2 := h1.cell 2
  simp at c2
  have hf := h.good.few
  have HR := Lib.hid (fun w => hl ▸ right_any l t.ph.length w h0.1 h0.2 (by omega) (by omega))
  clear h h1 hl
  go_enter Try.func37, Try.ntmps37
  go_wp2_with fail
  refine (HR.out _).mono ?_
  rintro e w1 ⟨rfl, rfl⟩
  go_wp2
  go_ret
  exact ⟨rfl, 0, rfl⟩

set_option maxHeartbeats 1000000 in
theorem value_yes (h : Tr w base g P t) (l : Int) (hl : l ≠ 0 ∧ l.natAbs ≤ t.ph.length) : Calls Try.prog 37 #[.pointer (some ⟨g, 0, none⟩), .int .i64 l] w fun e w' => e = .returned (.int .i64 (valT t.recs l)) ∧ ∃ m, w' = w.drewN m := by
  obtain ⟨V, S, A, D, c, d, h1, _, _, _, ⟨cv, h5, h6, h7⟩, _⟩ := h.ex
  have c2 := h1.cell 2
  simp at c2
  have hf := h.good.few
  have hr : litRight l t.ph.length = true := (right_abs hf).2 hl
  have HR := Lib.hid (fun w => hr ▸ right_any l t.ph.length w (by omega) (by omega) (by omega) (by omega))
  have HV := Lib.hid (fun w => var_any l w (by omega) (by omega))
  obtain ⟨k, hk⟩ : ∃ k : Nat, litVar l = (k : Int) + 1 := ⟨l.natAbs - 1, by unfold litVar; split <;> omega⟩
  have hkn : k < t.ph.length := by unfold litVar at hk; split at hk <;> omega
  have hck := (h5.cell k).trans (h7 k hkn)
  have hvl := valT_le t.recs ((k : Int) + 1)
  have hneg : l < 0 → valT t.recs l = - valT t.recs ((k : Int) + 1) := fun h => by
    rw [litVar_neg h] at hk
    rw [← hk, ← valT_neg (by omega), Int.neg_neg]
  have hpos : ¬ l < 0 → valT t.recs l = valT t.recs ((k : Int) + 1) := fun h => by
    rw [litVar_pos (by omega)] at hk
    rw [← hk]
  rw [hk] at HV
  obtain ⟨z, hz⟩ : ∃ z, valT t.recs ((k : Int) + 1) = z := ⟨_, rfl⟩
  rw [hz] at hck hvl hneg hpos
  obtain ⟨n, hn⟩ : ∃ n, n = t.ph.length := ⟨_, rfl⟩
  rw [← hn] at HR c2 hkn
  have hz8 : IntKind.i64.wrap z = z := i64_ok (by omega)
  have hwk : IntKind.i64.wrap (k : Int) = (k : Int) := i64_ok (by omega)
  have hkk : (k : Int) < (n : Int) := by omega
  clear h h1 h5 h6 h7 hk hz hr hn hkn
  by_cases hl0 : l < 0
  · rw [hneg hl0]
    clear hneg hpos
    go_enter Try.func37, Try.ntmps37
    go_wp2_with fail
    refine (HR.out _).mono ?_
    rintro e w1 ⟨rfl, rfl⟩
    go_wp2_with fail
    go_quiet ((go_at_call 68; with_reducible exact quiet_left (HV.out _)))
    go_wp2
    all_goals go_ret
    all_goals exact ⟨rfl, _, rfl⟩
  · rw [hpos hl0]
    clear hneg hpos
    go_enter Try.func37, Try.ntmps37
    go_wp2_with fail
    refine (HR.out _).mono ?_
    rintro e w1 ⟨rfl, rfl⟩
    go_wp2_with fail
    go_quiet ((go_at_call 68; with_reducible exact quiet_left (HV.out _)))
    go_wp2
    all_goals go_ret
    all_goals exact ⟨rfl, _, rfl⟩

theorem value_any (h : Tr w base g P t) (l : Int) (h0 : -9223372036854775808 ≤ l ∧ l ≤ 9223372036854775807) : Calls Try.prog 37 #[.pointer (some ⟨g, 0, none⟩), .int .i64 l] w fun e w' => e = .returned (.int .i64 (valT t.recs l)) ∧ ∃ m, w' = w.drewN m := by
  by_cases hl : l ≠ 0 ∧ l.natAbs ≤ t.ph.length
  · exact value_yes h l hl
  · have hr : litRight l t.ph.length = false := by rw [Bool.eq_false_iff]; exact fun e => hl ((right_abs h.good.few).1 e)
    have hv : valT t.recs l = 0 := valT_none.2 (find_none.2 fun r hr ho => by
      have := h.good.lit r hr
      rw [Rec.of_abs] at ho
      omega)
    rw [hv]
    exact value_no h l h0 hr
end

end Go.Proofs.Ytbejjddkndcldaa

namespace Go.Proofs.Ytbejjddkndcldaa
open Go.RowKit
set_option linter.unusedVariables false
set_option linter.unusedSimpArgs false

theorem quiet_add_of {P : Program} {f : FuncId} {args : Array Value} {w : World} {a n : Nat} {v : Value} (h : Calls P f args (w.drewN (a + n)) fun e w' => e = .returned v ∧ ∃ j, w' = (w.drewN (a + n)).drewN j) :
    Calls P f args (w.drewN (a + n)) fun e w'' => e = .returned v ∧ ∃ m, w'' = w.drewN (a + m) :=
  h.mono fun _ _ ⟨he, j, hj⟩ => ⟨he, n + j, by rw [hj, World.drewN_drewN, Nat.add_assoc]⟩
section
variable {w : World} {base g P : Nat} {t : TS}
theorem takes_any (h : Tr w base g P t) (l : Int) (h0 : -9223372036854775808 ≤ l ∧ l ≤ 9223372036854775807) : Calls Try.prog 65 #[.pointer (some ⟨g, 0, none⟩), .int .i64 l] w fun e w' => e = .returned (.bool (t.takes l)) ∧ ∃ m, w' = w.drewN m := by
  obtain ⟨V, S, A, D, c, d, h1, _⟩ := h.ex
  have c2 := h1.cell 2
  simp at c2
  have hf := h.good.few
  have hu : t.takes l = (litRight l t.ph.length && decide (valT t.recs l = 0)) := rfl
  rw [hu]
  have HR := Lib.hid (fun w => right_any l t.ph.length w h0.1 h0.2 (by omega) (by omega))
  have HV := Lib.hid (value_any h l h0)
  obtain ⟨r, hr⟩ : ∃ r, litRight l t.ph.length = r := ⟨_, rfl⟩
  obtain ⟨z, hz⟩ : ∃ z, valT t.recs l = z := ⟨_, rfl⟩
  obtain ⟨n, hn⟩ : ∃ n, t.ph.length = n := ⟨_, rfl⟩
  rw [hr] at HR ⊢
  rw [hz] at HV ⊢
  rw [hn] at HR c2
  clear h h1 hr hz hn hf hu
  cases r
  · go_enter Try.func65, Try.ntmps65
    go_wp2_with fail
    refine (HR.out _).mono ?_
    rintro e w1 ⟨rfl, rfl⟩
    go_wp2
    go_ret
    exact ⟨rfl, 0, rfl⟩
  · by_cases hz : z = 0
    · subst hz
      go_enter Try.func65, Try.ntmps65
      go_wp2_with fail
      refine (HR.out _).mono ?_
      rintro e w1 ⟨rfl, rfl⟩
      go_wp2_with fail
      refine HV.out.mono ?_
      rintro e w1 ⟨rfl, m, rfl⟩
      go_wp2
      go_ret
      exact ⟨rfl, m, rfl⟩
    · have hd : (z == 0) = false := by simpa using hz
      rw [show decide (z = 0) = false by simpa using hz]
      clear hz
      go_enter Try.func65, Try.ntmps65
      go_wp2_with fail
      refine (HR.out _).mono ?_
      rintro e w1 ⟨rfl, rfl⟩
      go_wp2_with fail
      refine HV.out.mono ?_
      rintro e w1 ⟨rfl, m, rfl⟩
      go_wp2
      go_ret
      exact ⟨rfl, m, rfl⟩

set_option maxHeartbeats 1000000 in
theorem reason_any (h : Tr w base g P t) (l : Int) (h0 : -9223372036854775808 ≤ l ∧ l ≤ 9223372036854775807) : Calls Try.prog 38 #[.pointer (some ⟨g, 0, none⟩), .int .i64 l] w fun e w' => e = .returned (.int .i64 (whyT t.recs l)) ∧ ∃ m, w' = w.drewN m := by
  obtain ⟨V, S, A, D, c, d, h1, _, _, _, _, ⟨cp, h5, h6, h7⟩, _⟩ := h.ex
  have c3 := h1.cell 3
  simp at c3
  have hf := h.good.few
  have HV := Lib.hid (value_any h l h0)
  rcases hfd : find t.recs l with _ | ⟨i, r⟩
  · have hv : valT t.recs l = 0 := valT_none.2 hfd
    have ha : whyT t.recs l = -1 := by unfold whyT; rw [hfd]
    rw [ha]
    rw [hv] at HV
    clear h h1 hfd hv ha h7
    go_enter Try.func38, Try.ntmps38
    go_wp2_with fail
    refine HV.out.mono ?_
    rintro e w1 ⟨rfl, m, rfl⟩
    go_wp2
    go_ret
    exact ⟨rfl, m, rfl⟩
  · have hv : valT t.recs l ≠ 0 := fun e => by rw [valT_none.1 e] at hfd; cases hfd
    have ha : whyT t.recs l = r.rs := by unfold whyT; rw [hfd]
    rw [ha]
    obtain ⟨hr, ho⟩ := find_some hfd
    rw [Rec.of_abs] at ho
    have hb := h.good.lit r (List.mem_of_getElem? hr)
    obtain ⟨k, hk⟩ : ∃ k : Nat, litVar l = (k : Int) + 1 := ⟨l.natAbs - 1, by unfold litVar; split <;> omega⟩
    have hk2 : r.l.natAbs - 1 = k := by unfold litVar at hk; split at hk <;> omega
    have hkn : k < t.ph.length := by omega
    obtain ⟨q0, q1, q2⟩ := h7 i r hr
    rw [hk2] at q0 q1 q2
    have s0 := (h5.cell _).trans q2
    have HL := Lib.hid (fun w => hk ▸ var_any l w (by omega) (by omega))
    have hd : (valT t.recs l == 0) = false := by simpa using hv
    obtain ⟨z, hz⟩ : ∃ z, valT t.recs l = z := ⟨_, rfl⟩
    obtain ⟨n, hn⟩ : ∃ n, t.ph.length = n := ⟨_, rfl⟩
    obtain ⟨x, hx⟩ : ∃ x : Int, r.rs = x := ⟨_, rfl⟩
    rw [hz] at HV hd
    rw [hn] at c3 hkn
    rw [hx] at s0 ⊢
    have hkk : (k : Int) < (n : Int) := by omega
    have hwk : IntKind.i64.wrap (k : Int) = (k : Int) := i64_ok (by omega)
    clear h h1 hfd hv ha h7 q0 q1 q2 hr ho hb hk hk2 hz hn hx h6 h5 hkn
    go_enter Try.func38, Try.ntmps38
    go_wp2_with fail
    refine HV.out.mono ?_
    rintro e w1 ⟨rfl, m, rfl⟩
    go_wp2_with fail
    go_quiet ((go_at_call 68; first | with_reducible exact quiet_left (HL.out _) | with_reducible exact quiet_add_left (HL.out _) | exact quiet_left (HL.out _)))
    go_wp2
    go_ret
    exact ⟨rfl, drewN2 _ _ _⟩

end

end Go.Proofs.Ytbejjddkndcldaa
