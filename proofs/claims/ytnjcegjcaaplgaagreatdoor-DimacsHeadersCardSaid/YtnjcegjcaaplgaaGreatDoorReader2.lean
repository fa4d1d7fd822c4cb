/- The lines of a text, taken one by one. -/
import Derived.Test.YtnjcegjcaaplgaaGreatDoorReader
namespace Go.Proofs.YtnjcegjcaaplgaaGreatDoor
open Go.RowKit
set_option linter.unusedSimpArgs false
set_option linter.unusedVariables false
set_option linter.unnecessarySimpa false

/-- the words that are left, of a first word and what is behind it -/
def wordsLeft (p : List UInt8 × List UInt8) : List (List UInt8) := if p.1.isEmpty then [] else p.1 :: wordsFrom [] p.2
theorem wordsLeft_cut (l : List UInt8) : wordsLeft (cutFrom [] l) = wordsOf l := (words_cut l []).symm

set_option maxRecDepth 100000 in
set_option maxHeartbeats 4000000 in
theorem takeBody_any (r : Rd) (l : List UInt8) (base b : Nat) (w : World) (hr : RdAt w base b r) (hb0 : b < base) (hs : r.size + l.length ≤ 1099511627776) :
    Calls Tryz.prog 30 #[.pointer (some ⟨b, 0, none⟩), .string ⟨l.toArray⟩] w (ItemPost base b (takeBody r (wordsOf l)) w) := by
  have HR := Lib.hid hr
  have C1 := cutL_any l w (by omega)
  have L1 := cutFrom_len l []
  have W1 := wordsLeft_cut l
  generalize cutFrom [] l = p at C1 L1 W1
  have HW1 := Lib.hid W1
  have hrl := hr.lt
  simp only [List.length_nil, Nat.zero_add] at L1
  clear hr W1
  go_enter Tryz.func30, Tryz.ntmps30
  go_wp2_with (go_at_call 42; refine C1.mono ?_; rintro e w1 ⟨A1, c1, rs1, rfl, hw1, hc1, hb1, hcap1⟩; clear C1)
  have HRR := Lib.hid (HR.out.below hb1 (Nat.le_refl _))
  have HBB := Lib.hid (hb1.mono (Nat.le_of_lt hrl))
  have HWW := Lib.hid hw1
  have HCC := Lib.hid hc1
  clear hb1 hw1 hc1 HR
  go_loopg [5, 6] (p.1.length + p.2.length + 1) (fun gk s5 s6 wr => ∃ (r' : Rd) (q : List UInt8 × List UInt8) (A : Option Addr) (c : Nat) (rs : List Int), gk = q.1.length + q.2.length + 1 ∧ s5 = .slice A rs.length c ∧ s6 = .string ⟨q.2.toArray⟩ ∧
      Word q.1 rs ∧ Cells wr wr.heap.size A rs.length (fun j => .int .i32 (rs.getD j 0)) ∧ RdAt wr base b r' ∧ Below b w wr ∧ rs.length ≤ c ∧ r'.size + (q.1.length + q.2.length) ≤ 1099511627776 ∧
      takeBody r (wordsOf l) = takeBody r' (wordsLeft q))
  case atStart => exact ⟨r, p, A1, c1, rs1, rfl, rfl, rfl, HWW.out, HCC.out, HRR.out, HBB.out, hcap1, by omega, by rw [HW1.out]⟩
  case round =>
    obtain ⟨r', q, A, c, rs, rfl, rfl, rfl, hw, hc, hr, hb, hcap, hsz, he⟩ := hrel
    obtain ⟨wo, rfl⟩ : ∃ wo : World, wo = wr := ⟨_, rfl⟩
    have hwl := hw.len
    have HW := Lib.hid hw
    have HC := Lib.hid hc
    have HR := Lib.hid hr
    have HB := Lib.hid hb
    have HE := Lib.hid he
    have hrl2 := hr.lt
    clear hw hc hr hb he HRR HBB HWW HCC HW1 hcap1 L1
    by_cases h0 : 0 < rs.length
    · have hq : q.1 ≠ [] := fun e => by have h7 := hwl.2.1; rw [e] at h7; simp at h7; rw [h7] at h0; simp at h0
      have hql : 0 < q.1.length := by cases hh : q.1 <;> simp_all
      have hit := item_any rs wo.heap.size A c wo (by omega) h0 hcap HC.out
      rw [HW.out.item hq] at hit
      have HE2 : Hid (takeBody r (wordsOf l) = takeBody r' (q.1 :: wordsFrom [] q.2)) := by
        have := HE.out
        unfold wordsLeft at this
        rw [if_neg (by cases hh : q.1 <;> simp_all)] at this
        exact this
      have HIT := Lib.hid hit
      clear hit HE hq hwl
      rcases ho : itemOf q.1 with _ | n
      · have HE3 : Hid (takeBody r (wordsOf l) = (r', 3)) := by have := HE2.out; rw [this, takeBody, ho]; exact (rfl : _ = _)
        rw [ho] at HIT
        clear ho HE2
        go_wp2_with (go_at_call 43; refine HIT.out.mono ?_; rintro e w' ⟨rfl, rfl⟩; clear HIT; rw [show pairOf none = .tuple #[.int .i64 0, .bool false] from rfl])
        go_ret
        rw [HE3.out]
        exact ⟨rfl, HR.out, HB.out⟩
      · have hbd : -999999999 ≤ n ∧ n ≤ 999999999 := by
          have := HW.out.item (fun e => by rw [e] at hql; simp at hql)
          rw [ho] at this
          exact itemR_bd this
        obtain ⟨n1, n2⟩ := hbd
        have HT := Lib.hid (takeItem_any r' n base b wo HR.out hb0 (by omega) n1 n2)
        have hsz2 := takeItem_size r' n
        have HE3 : Hid (takeBody r (wordsOf l) = if (takeItem r' n).2 = 0 then takeBody (takeItem r' n).1 (wordsFrom [] q.2) else takeItem r' n) := by have := HE2.out; rw [this, takeBody, ho]; exact (rfl : _ = _)
        rw [ho] at HIT
        generalize takeItem r' n = t at HT hsz2 HE3
        clear ho HE2 HW HC
        go_wp2_with (go_at_call 43; refine HIT.out.mono ?_; rintro e w' ⟨rfl, rfl⟩; clear HIT; rw [show pairOf (some n) = .tuple #[.int .i64 n, .bool true] from rfl])
        by_cases ht0 : t.2 = 0
        · have HE4 : Hid (takeBody r (wordsOf l) = takeBody t.1 (wordsFrom [] q.2)) := by have := HE3.out; rw [if_pos ht0] at this; exact this
          have HT2 : Hid (Calls Tryz.prog 44 #[.pointer (some ⟨b, 0, none⟩), .int .i64 n] wo (ItemPost base b (t.1, 0) wo)) := by have := HT.out; rw [← ht0]; exact this
          clear ht0 HE3 HT
          have C2 := fun w => cutL_any q.2 w (by omega)
          have L2 := cutFrom_len q.2 []
          have W2 := Lib.hid (wordsLeft_cut q.2)
          generalize cutFrom [] q.2 = q' at C2 L2 W2
          simp only [List.length_nil, Nat.zero_add] at L2
          go_wp2_with (go_at_call 44; refine HT2.out.mono ?_; rintro e w2 ⟨rfl, hr2, hb2⟩; clear HT2)
          have HR2 := Lib.hid hr2
          have HB2 := Lib.hid hb2
          have hrl3 := hr2.lt
          clear hr2 hb2
          go_wp2_with (go_at_call 42; refine (C2 _).mono ?_; rintro e w3 ⟨A3, c3, rs3, rfl, hw3, hc3, hb3, hcap3⟩; clear C2)
          have HW3 := Lib.hid hw3
          have HC3 := Lib.hid hc3
          have HR3 := Lib.hid (HR2.out.below hb3 (Nat.le_refl _))
          have HB3 := Lib.hid ((HB.out.trans HB2.out).trans (hb3.mono (Nat.le_of_lt hrl3)))
          clear hw3 hc3 hb3
          go_roundg (q'.1.length + q'.2.length + 1)
          case measure => omega
          case rel => exact ⟨t.1, q', A3, c3, rs3, rfl, rfl, rfl, HW3.out, HC3.out, HR3.out, HB3.out, hcap3, by omega, by rw [HE4.out]; exact congrArg _ W2.out.symm⟩
        · have HE4 : Hid (takeBody r (wordsOf l) = t) := by have := HE3.out; rw [if_neg ht0] at this; exact this
          have hne : (t.2 == 0) = false := beq_false_of_ne ht0
          have hne2 : (t.2 != 0) = true := by rw [bne, hne]; rfl
          clear HE3
          go_wp2_with (go_at_call 44; refine HT.out.mono ?_; rintro e w2 ⟨rfl, hr2, hb2⟩; clear HT)
          have HR2 := Lib.hid hr2
          have HB2 := Lib.hid hb2
          clear hr2 hb2
          go_wp2
          go_ret
          rw [HE4.out]
          exact ⟨rfl, HR2.out, HB.out.trans HB2.out⟩
    · have hq : q.1 = [] := List.eq_nil_of_length_eq_zero (hwl.2.2 (by omega))
      have HE3 : Hid (takeBody r (wordsOf l) = (r', 0)) := by have := HE.out; rw [this]; unfold wordsLeft; rw [hq]; rfl
      clear hq HE hwl
      go_wp2
      go_ret
      rw [HE3.out]
      exact ⟨rfl, HR.out, HB.out⟩
end Go.Proofs.YtnjcegjcaaplgaaGreatDoor
