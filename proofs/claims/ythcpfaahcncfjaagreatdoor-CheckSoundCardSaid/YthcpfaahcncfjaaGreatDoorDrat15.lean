/- Literals as numbers, numbers as bytes: what the functions of the package of proofs answer. A proof's bytes. The tail of a slice: s[m:], s nil or not. No program is named here. A number at the front of bytes. A step at the front of bytes, and a proof out of bytes. A proof out of bytes. -/
import Derived.Test.YthcpfaahcncfjaaGreatDoorDratMem
import Derived.Test.YthcpfaahcncfjaaGreatDoorLit
import Derived.Test.YthcpfaahcncfjaaGreatDoorOwn
import Derived.Deep.LoopGhost
import Derived.Deep.QuietTactic
import Derived.BigQuiet
import Derived.IntWalk
namespace Go.Proofs.YthcpfaahcncfjaaGreatDoor
open Go.RowKit
set_option linter.unusedSimpArgs false
set_option linter.unusedVariables false

theorem isLiteral_any (l : Int) (w : World) (h1 : -9223372036854775808 ≤ l) (h2 : l ≤ 9223372036854775807) :
    Calls Tryz.prog 78 #[.int .i64 l] w fun e w' => e = .returned (.bool (isLit l)) ∧ w = w' := by
  have R := Lib.hid (right_any l 100000 w h1 h2 (by omega) (by omega))
  clear h1 h2
  go_enter Tryz.func78, Tryz.ntmps78
  go_wp2_with (go_at_call 57; refine R.out.mono ?_; rintro e w' ⟨rfl, rfl⟩)
  go_ret
  exact ⟨rfl, rfl⟩

theorem numberOf_any (l : Int) (w : World) (h1 : -4611686018427387000 ≤ l) (h2 : l ≤ 4611686018427387000) :
    Calls Tryz.prog 40 #[.int .i64 l] w fun e w' => e = .returned (.int .i64 (litNum l)) ∧ w = w' := by
  by_cases h : l < 0
  · have hv : litVar l = -l := litVar_neg h
    have hn : litNum l = 2 * -l + 1 := by unfold litNum; rw [hv, if_pos h]
    rw [hn]
    go_enter Tryz.func40, Tryz.ntmps40
    go_wp2_with (go_at_call 65; refine (var_any _ _ (by omega) (by omega)).mono ?_; rintro e w' ⟨rfl, rfl⟩; rw [hv])
    go_ret
    exact ⟨rfl, rfl⟩
  · have hv : litVar l = l := litVar_pos (by omega)
    have hn : litNum l = 2 * l := by unfold litNum; rw [hv, if_neg h]; omega
    rw [hn]
    go_enter Tryz.func40, Tryz.ntmps40
    go_wp2_with (go_at_call 65; refine (var_any _ _ (by omega) (by omega)).mono ?_; rintro e w' ⟨rfl, rfl⟩; rw [hv])
    go_ret
    exact ⟨rfl, rfl⟩

theorem literalOf_any (n : Int) (w : World) (h1 : 0 ≤ n) (h2 : n ≤ 4611686018427387000) :
    Calls Tryz.prog 77 #[.int .i64 n] w fun e w' => e = .returned (.int .i64 (numLit n)) ∧ w = w' := by
  by_cases h : n % 2 = 1
  · have hn : numLit n = -(n / 2) := by unfold numLit; rw [if_pos h]
    rw [hn]
    clear hn
    have hq : (n % 2 == 1) = true := by simpa using h
    clear h
    go_enter Tryz.func77, Tryz.ntmps77
    go_wp2
    go_ret
    exact ⟨rfl, rfl⟩
  · have hn : numLit n = n / 2 := by unfold numLit; rw [if_neg h]
    rw [hn]
    clear hn
    have hq : (n % 2 == 1) = false := by simpa using h
    clear h
    go_enter Tryz.func77, Tryz.ntmps77
    go_wp2
    go_ret
    exact ⟨rfl, rfl⟩

theorem Tryz.infoByte : (Tryz.prog.info? 5).map (fun i => (i.zero, i.size, i.bytes)) = some (some (.int .u8 0), 1, 1) := by kernel_rfl

/-- bytes in a row of one's own, from a block on -/
def OwnBytes (base : Nat) (xs : List UInt8) (w : World) (e : Ending) (w' : World) : Prop :=
  ∃ A c, e = .returned (.slice A xs.length c) ∧ w'.ownsRow base 5 1 (.slice A xs.length c) xs.length (Lib.byteCells xs) ∧ Below base w w'

set_option maxRecDepth 100000 in
set_option maxHeartbeats 1600000 in
theorem appendNumber_any (N B c : Nat) (A : Option Addr) (xs : List UInt8) (w : World) (hN : N < 2097152) (hown : w.ownsRow B 5 1 (.slice A xs.length c) xs.length (Lib.byteCells xs)) (hB : B ≤ w.heap.size)
    (hlen : xs.length ≤ 1099511627776) :
    Calls Tryz.prog 39 #[.slice A xs.length c, .int .i64 N] w (OwnBytes B (xs ++ nb N) w) := by
  obtain ⟨i0, hi, hz0, hz1, hz2⟩ := info_parts Tryz.infoByte
  have HOW := Lib.hid hown
  have HNL := Lib.hid (nb_len hN)
  clear hown
  go_enter Tryz.func39, Tryz.ntmps39
  go_wp2
  go_loopg [0, 1] (N + 1) (fun gk s i wr => ∃ (pre : List UInt8) (m : Nat) (A2 : Option Addr) (c2 : Nat), nb N = pre ++ nb m ∧ m < 2097152 ∧ gk = m + 1 ∧ i = .int .i64 m ∧ s = .slice A2 (xs ++ pre).length c2 ∧
    wr.ownsRow B 5 1 (.slice A2 (xs ++ pre).length c2) (xs ++ pre).length (Lib.byteCells (xs ++ pre)) ∧ Below B w wr)
  case atStart => exact ⟨[], N, A, c, rfl, hN, rfl, rfl, by simp, by simpa using HOW.out, Below.refl _ _⟩
  case round =>
    obtain ⟨pre, m, A2, c2, hpre, hm, rfl, rfl, rfl, hown, hb⟩ := hrel
    have hl3 : pre.length + (nb m).length ≤ 3 := by have := HNL.out; rw [hpre, List.length_append] at this; exact this
    obtain ⟨ys, hys⟩ : ∃ ys, ys = xs ++ pre := ⟨_, rfl⟩
    have hyl : ys.length ≤ 1099511627779 := by rw [hys, List.length_append]; omega
    rw [← hys] at hown ⊢
    have HOW2 := Lib.hid hown
    have HB2 := Lib.hid hb
    have HPRE := Lib.hid hpre
    have HYS := Lib.hid hys
    have hsz := hb.size
    clear hown hb hpre hl3 hys
    by_cases hlt : m < 128
    · have hnb := nb_low hlt
      have HNB := Lib.hid hnb
      clear hnb
      go_wp2_with (at_builtin; refine wpList_append1 _ rfl _ _ 47 rfl B 5 i0 (.int .u8 0) 1 Tryz.underlying47 hi hz0 hz1 hz2 rfl _ _ _ rfl (HOW2.out.alloc _) (.int .u8 m) wr.heap.size rfl (by go_cell) rfl (by unfold maxLen; omega) (by omega) (by simp; omega) ?_)
      intro v' w3 hown3 hg3 hob3
      obtain ⟨A3, c3, hv3, _⟩ := own_slice hown3
      subst hv3
      have HO3 := Lib.hid hown3
      have HB3 := Lib.hid ((HB2.out.alloc (by omega) _).grown hg3 (by simp; omega) (fun g hg => (HOW2.out.lt g hg).1))
      clear hown3 hg3 hob3
      go_wp2
      go_ret
      have e : xs ++ nb N = ys ++ [UInt8.ofNat m] := by rw [HPRE.out, HNB.out, HYS.out, List.append_assoc]
      have h3 := HO3.out
      refine ⟨A3, c3, ?_, ?_, HB3.out⟩
      · rw [e]; simp
      · rw [e, byteCells_append, byteCells_one, u8_low (by omega)]
        simpa using h3
    · have hnb := nb_high hlt
      have HNB := Lib.hid hnb
      clear hnb
      go_wp2_with (at_builtin; refine wpList_append1 _ rfl _ _ 47 rfl B 5 i0 (.int .u8 0) 1 Tryz.underlying47 hi hz0 hz1 hz2 rfl _ _ _ rfl (HOW2.out.alloc _) (.int .u8 (m % 128 + 128)) wr.heap.size rfl (by go_cell) rfl (by unfold maxLen; omega) (by omega) (by simp; omega) ?_)
      intro v' w3 hown3 hg3 hob3
      obtain ⟨A3, c3, hv3, _⟩ := own_slice hown3
      subst hv3
      have HO3 := Lib.hid hown3
      have HB3 := Lib.hid ((HB2.out.alloc (by omega) _).grown hg3 (by simp; omega) (fun g hg => (HOW2.out.lt g hg).1))
      clear hown3 hg3 hob3
      go_wp2
      go_roundg (m / 128 + 1)
      case measure => omega
      case rel =>
        have e : xs ++ (pre ++ [UInt8.ofNat (m % 128 + 128)]) = ys ++ [UInt8.ofNat (m % 128 + 128)] := by rw [HYS.out, List.append_assoc]
        have h3 := HO3.out
        refine ⟨pre ++ [UInt8.ofNat (m % 128 + 128)], m / 128, A3, c3, ?_, by omega, rfl, by go_num, ?_, ?_, HB3.out⟩
        · rw [HPRE.out, HNB.out]; simp
        · rw [e]; simp
        · rw [e, byteCells_append, byteCells_one, u8_low (by omega)]
          simpa using h3
end Go.Proofs.YthcpfaahcncfjaaGreatDoor

namespace Go.Proofs.YthcpfaahcncfjaaGreatDoor
open Go.RowKit
set_option linter.unusedSimpArgs false
set_option linter.unusedVariables false

theorem binOf_take {ps : List Stp} {k : Nat} (hk : k < ps.length) : binOf (ps.take (k + 1)) = binOf (ps.take k) ++ stpBin (ps.getD k stp0) := by
  rw [List.take_succ_eq_append_getElem hk, binOf_append]
  simp [List.getD, hk, binOf]
theorem lbs_take {c : List Int} {k : Nat} (hk : k < c.length) : lbs (c.take (k + 1)) = lbs (c.take k) ++ lb (c.getD k 0) := by
  rw [List.take_succ_eq_append_getElem hk, lbs_append]
  simp [List.getD, hk, lbs]
theorem binOf_split_at (ps : List Stp) (k : Nat) : binOf ps = binOf (ps.take k) ++ binOf (ps.drop k) := by rw [← binOf_append, List.take_append_drop]
theorem lbs_split_at (c : List Int) (k : Nat) : lbs c = lbs (c.take k) ++ lbs (c.drop k) := by rw [← lbs_append, List.take_append_drop]
theorem lb_len {l : Int} : 1 ≤ (lb l).length := by
  unfold lb
  by_cases hh : (litNum l).toNat < 128
  · rw [nb_low hh]; simp
  · rw [nb_high hh]; simp
/-- what is written so far leaves room for what is to come -/
theorem bin_room {ps : List Stp} {k j : Nat} (hk : k < ps.length) : (binOf (ps.take k)).length + 1 + (lbs ((ps.getD k stp0).2.take j)).length + 1 ≤ (binOf ps).length := by
  have h1 := congrArg List.length (binOf_split_at ps k)
  have h2 : binOf (ps.drop k) = stpBin (ps.getD k stp0) ++ binOf (ps.drop (k + 1)) := by
    rw [List.drop_eq_getElem_cons hk, binOf_cons]; simp [List.getD, hk]
  rw [h2] at h1
  have h3 := congrArg List.length (lbs_split_at (ps.getD k stp0).2 j)
  unfold stpBin at h1
  simp only [List.length_append, List.length_cons, List.length_nil] at h1 h3
  omega
theorem lbs_len (ls : List Int) : ls.length ≤ (lbs ls).length := by
  induction ls with
  | nil => simp
  | cons l ls ih => rw [lbs_cons, List.length_append]; have := lb_len (l := l); simp; omega
theorem binOf_len {ps : List Stp} {k : Nat} (hk : k < ps.length) : (ps.getD k stp0).2.length ≤ (binOf ps).length ∧ ps.length ≤ (binOf ps).length := by
  constructor
  · have := bin_room (j := (ps.getD k stp0).2.length) hk
    rw [List.take_length] at this
    have := lbs_len (ps.getD k stp0).2
    omega
  · clear hk
    induction ps with
    | nil => simp
    | cons p ps ih => rw [binOf_cons, List.length_append]; simp [stpBin]; omega
theorem getD_mem {xs : List Int} {j : Nat} (hj : j < xs.length) : xs.getD j 0 ∈ xs := by
  simp only [List.getD, List.getElem?_eq_getElem hj, Option.getD_some]; exact List.getElem_mem hj
theorem right_getD {ps : List Stp} (h : stpsRight ps = true) (k j : Nat) (hk : k < ps.length) (hj : j < (ps.getD k stp0).2.length) : isLit ((ps.getD k stp0).2.getD j 0) = true := by
  have h1 : ps.getD k stp0 ∈ ps := by simp [List.getD, hk]
  have h2 := stpRight_mem (stpsRight_mem h _ h1)
  exact h2 _ (getD_mem hj)

set_option maxRecDepth 100000 in
set_option maxHeartbeats 4000000 in
theorem binary_any (ps : List Stp) (B c : Nat) (A : Option Addr) (w : World) (h : Steps w B A ps) (hB : B ≤ w.heap.size) (hr : stpsRight ps = true) (hpl : ps.length ≤ 1099511627776) (hlen : (binOf ps).length ≤ 1099511627776) :
    Calls Tryz.prog 20 #[.slice A ps.length c] w (OwnBytes w.heap.size (binOf ps) w) := by
  obtain ⟨i0, hi, hz0, hz1, hz2⟩ := info_parts Tryz.infoByte
  have H := Lib.hid h
  have HR := Lib.hid hr
  have HL := Lib.hid hlen
  clear h hr hlen
  go_enter Tryz.func20, Tryz.ntmps20
  go_wp2
  go_loopg [3, 11] (ps.length + 1) (fun gk s i wr => ∃ (k : Nat) (A2 : Option Addr) (c2 : Nat), k ≤ ps.length ∧ gk = ps.length - k + 1 ∧ i = .int .i64 k ∧ s = .slice A2 (binOf (ps.take k)).length c2 ∧
    wr.ownsRow w.heap.size 5 1 (.slice A2 (binOf (ps.take k)).length c2) (binOf (ps.take k)).length (Lib.byteCells (binOf (ps.take k))) ∧ Below w.heap.size w wr)
  case atStart => exact ⟨0, none, 0, by omega, by omega, rfl, rfl, World.ownsRow_nil _ _ _ _, Below.refl _ _⟩
  case round =>
    obtain ⟨k, A2, c2, hk, rfl, rfl, rfl, hown, hb⟩ := hrel
    obtain ⟨wo, rfl⟩ : ∃ wo : World, wo = wr := ⟨_, rfl⟩
    by_cases hlt : k < ps.length
    · obtain ⟨b, off, Ak, ck, rfl, hbB, h1', h2', h3⟩ := H.out.at_ hlt
      have h1 := (hb.cell (p := ⟨b, off + k * 2, none⟩) (by simp; omega)).trans h1'
      have h2 := (hb.cell (p := ⟨b, off + k * 2 + 1, none⟩) (by simp; omega)).trans h2'
      clear h1' h2'
      have hroom := fun j => bin_room (j := j) hlt
      have hright := fun j => right_getD HR.out k j hlt
      have htk := binOf_take hlt
      have hsz := hb.size
      obtain ⟨⟨d, cs⟩, hp⟩ : ∃ p, p = ps.getD k stp0 := ⟨_, rfl⟩
      obtain ⟨ys, hys⟩ : ∃ ys, ys = binOf (ps.take k) := ⟨_, rfl⟩
      rw [← hp] at h1 h2 h3 htk
      simp only [← hp] at hroom hright
      rw [← hys] at hown htk ⊢
      simp only [← hys] at hroom
      clear hp hys
      have hly : ys.length ≤ 1099511627776 := by have := hroom 0; have := HL.out; omega
      have hlc : cs.length ≤ 1099511627776 := by
        have := hroom cs.length
        rw [List.take_length] at this
        have := lbs_len cs; have := HL.out; omega
      have HO := Lib.hid hown
      have HB0 := Lib.hid hb
      have HI := Lib.hid h3
      have HRM := Lib.hid hroom
      have HRT := Lib.hid hright
      have HTK := Lib.hid htk
      clear hown hb h3 hroom hright htk
      have hnB : w.heap.size ≤ wo.heap.size := hsz
      rcases d with _ | _
      · go_wp2_with (at_builtin; refine wpList_append1 _ rfl _ _ 47 rfl w.heap.size 5 i0 (.int .u8 0) 1 Tryz.underlying47 hi hz0 hz1 hz2 rfl _ _ _ rfl ((HO.out.alloc _).alloc _) (.int .u8 97) (wo.heap.size + 1) rfl (by go_cell) rfl (by unfold maxLen; omega) (by omega) (by simp; omega) ?_)
        intro v' w3 hown3 hg3 hob3
        obtain ⟨A3, c3, hv3, _⟩ := own_slice hown3
        subst hv3
        have hbk := blk_kept hg3 (HO.out.alloc _) (Blk.new _ _ _) (by decide)
        have C1 := hbk.cell 1
        simp at C1
        have HB3 := Lib.hid ((((HB0.out.alloc (by omega) _).alloc (by simp; omega) _).grown hg3 (by simp; omega) (fun g hg => (HO.out.lt g hg).1)))
        have hown4 : w3.ownsRow w.heap.size 5 1 (.slice A3 (ys ++ [mark false]).length c3) (ys ++ [mark false]).length (Lib.byteCells (ys ++ [mark false])) := by
          rw [byteCells_append, byteCells_one, List.length_append]; exact hown3
        have hs3 : wo.heap.size + 2 ≤ w3.heap.size := by have := hg3.size; simpa using this
        have hl4 : (ys ++ [mark false]).length = ys.length + 1 := by simp
        have HL4 := Lib.hid hl4
        rw [hl4] at hown4
        have HO4 := Lib.hid hown4
        clear hown3 hg3 hob3 hbk hown4 hl4
        go_wp2
        clear C1
        have HZ0 : Hid (Lib.byteCells (ys ++ [mark false]) = Lib.byteCells (ys ++ mark false :: lbs (cs.take 0))) := Lib.hid rfl
        go_loopg [3, 24] (cs.length + 1) (fun gk s i wr => ∃ (j : Nat) (A4 : Option Addr) (c4 : Nat), j ≤ cs.length ∧ gk = cs.length - j + 1 ∧ i = .int .i64 j ∧ s = .slice A4 (ys ++ mark false :: lbs (cs.take j)).length c4 ∧
          wr.ownsRow w.heap.size 5 1 (.slice A4 (ys ++ mark false :: lbs (cs.take j)).length c4) (ys ++ mark false :: lbs (cs.take j)).length (Lib.byteCells (ys ++ mark false :: lbs (cs.take j))) ∧ Below w.heap.size w wr)
        case atStart =>
          have e : (ys ++ mark false :: lbs (cs.take 0)).length = ys.length + 1 := by simp [lbs]
          refine ⟨0, A3, c3, by omega, by omega, rfl, by rw [e], ?_, HB3.out⟩
          rw [e, ← HZ0.out]; exact HO4.out
        case round =>
          obtain ⟨j, A4, c4, hj, rfl, rfl, rfl, hown5, hb5⟩ := hrel
          obtain ⟨wi, rfl⟩ : ∃ wi : World, wi = wr := ⟨_, rfl⟩
          have hrm := HRM.out j
          have hlj : (ys ++ mark false :: lbs (cs.take j)).length = ys.length + 1 + (lbs (cs.take j)).length := by simp; omega
          have hcl := congrArg List.length (lbs_split_at cs j)
          rw [List.length_append] at hcl
          have htot := HL.out
          by_cases hjl : j < cs.length
          · obtain ⟨b2, off2, rfl, hb2B, hcj⟩ := (HI.out.below (hb5.mono hB)).at_ hjl
            have hlit := HRT.out j hjl
            have htj := lbs_take hjl
            obtain ⟨l, hl⟩ : ∃ l, l = cs.getD j 0 := ⟨_, rfl⟩
            rw [← hl] at hcj hlit htj
            have hn := litNum_pos hlit
            have hlb := isLit_iff.1 hlit
            obtain ⟨zs, hzs⟩ : ∃ zs, zs = ys ++ mark false :: lbs (cs.take j) := ⟨_, rfl⟩
            rw [← hzs] at hown5 hlj ⊢
            have HTJ := Lib.hid htj
            have HZS := Lib.hid hzs
            have NA := Lib.hid (numberOf_any l wi (by omega) (by omega))
            obtain ⟨N, hN⟩ : ∃ N : Nat, litNum l = N := ⟨(litNum l).toNat, by omega⟩
            rw [hN] at NA hn
            have hlbl : lb l = nb N := by unfold lb; rw [hN]; simp
            have HLB := Lib.hid hlbl
            have AA := Lib.hid (appendNumber_any N w.heap.size c4 A4 zs wi (by omega) hown5 hb5.size (by omega))
            have HB5 := Lib.hid hb5
            clear hl hlit htj hzs hN hlbl hown5 hrm hcl htot hlb hlj hn
            go_wp2_with (go_at_call 40; refine NA.out.mono ?_; rintro e w' ⟨rfl, rfl⟩)
            refine AA.out.mono ?_
            rintro e w6 ⟨A6, c6, rfl, hown6, hb6⟩
            have HO6 := Lib.hid hown6
            have HB6 := Lib.hid (HB5.out.trans hb6)
            clear hown6 hb6 hcj AA NA
            go_wp2
            go_roundg (cs.length - j)
            case measure => omega
            case rel =>
              have e : ys ++ mark false :: lbs (cs.take (j + 1)) = zs ++ nb N := by rw [HTJ.out, HZS.out, HLB.out]; simp
              refine ⟨j + 1, A6, c6, by omega, by omega, by go_num, by rw [e, List.length_append], ?_, HB6.out⟩
              rw [e]; exact HO6.out
          · have htj : cs.take j = cs := List.take_of_length_le (by omega)
            have hrj := HRM.out j
            rw [htj] at hown5 hlj hrj ⊢
            obtain ⟨zs, hzs⟩ : ∃ zs, zs = ys ++ mark false :: lbs cs := ⟨_, rfl⟩
            rw [← hzs] at hown5 hlj ⊢
            have hzl : zs.length ≤ 1099511627776 := by omega
            have HZS := Lib.hid hzs
            have HO5 := Lib.hid hown5
            have HB5 := Lib.hid hb5
            have hs5 := hb5.size
            clear htj hzs hown5 hb5 hrm hcl htot hlj hrj
            go_wp2_with (at_builtin; refine wpList_append1 _ rfl _ _ 47 rfl w.heap.size 5 i0 (.int .u8 0) 1 Tryz.underlying47 hi hz0 hz1 hz2 rfl _ _ _ rfl (HO5.out.alloc _) (.int .u8 0) wi.heap.size rfl (by go_cell) rfl (by unfold maxLen; omega) (by omega) (by simp; omega) ?_)
            intro v' w7 hown7 hg7 hob7
            obtain ⟨A7, c7, hv7, _⟩ := own_slice hown7
            subst hv7
            have HB7 := Lib.hid ((HB5.out.alloc (by omega) _).grown hg7 (by simp; omega) (fun g hg => (HO5.out.lt g hg).1))
            have HO7 := Lib.hid hown7
            clear hown7 hg7 hob7
            go_wp2
            go_roundg (ps.length - k)
            case measure => omega
            case rel =>
              have e : binOf (ps.take (k + 1)) = zs ++ [0] := by rw [HTK.out, HZS.out]; simp [stpBin]
              have h7 := HO7.out
              refine ⟨k + 1, A7, c7, by omega, by omega, by go_num, ?_, ?_, HB7.out⟩
              · rw [e]; simp
              · rw [e, byteCells_append, byteCells_one]; simpa using h7
      · go_wp2_with (at_builtin; refine wpList_append1 _ rfl _ _ 47 rfl w.heap.size 5 i0 (.int .u8 0) 1 Tryz.underlying47 hi hz0 hz1 hz2 rfl _ _ _ rfl ((HO.out.alloc _).alloc _) (.int .u8 100) (wo.heap.size + 1) rfl (by go_cell) rfl (by unfold maxLen; omega) (by omega) (by simp; omega) ?_)
        intro v' w3 hown3 hg3 hob3
        obtain ⟨A3, c3, hv3, _⟩ := own_slice hown3
        subst hv3
        have hbk := blk_kept hg3 (HO.out.alloc _) (Blk.new _ _ _) (by decide)
        have C1 := hbk.cell 1
        simp at C1
        have HB3 := Lib.hid ((((HB0.out.alloc (by omega) _).alloc (by simp; omega) _).grown hg3 (by simp; omega) (fun g hg => (HO.out.lt g hg).1)))
        have hown4 : w3.ownsRow w.heap.size 5 1 (.slice A3 (ys ++ [mark true]).length c3) (ys ++ [mark true]).length (Lib.byteCells (ys ++ [mark true])) := by
          rw [byteCells_append, byteCells_one, List.length_append]; exact hown3
        have hs3 : wo.heap.size + 2 ≤ w3.heap.size := by have := hg3.size; simpa using this
        have hl4 : (ys ++ [mark true]).length = ys.length + 1 := by simp
        have HL4 := Lib.hid hl4
        rw [hl4] at hown4
        have HO4 := Lib.hid hown4
        clear hown3 hg3 hob3 hbk hown4 hl4
        go_wp2
        clear C1
        have HZ0 : Hid (Lib.byteCells (ys ++ [mark true]) = Lib.byteCells (ys ++ mark true :: lbs (cs.take 0))) := Lib.hid rfl
        go_loopg [3, 24] (cs.length + 1) (fun gk s i wr => ∃ (j : Nat) (A4 : Option Addr) (c4 : Nat), j ≤ cs.length ∧ gk = cs.length - j + 1 ∧ i = .int .i64 j ∧ s = .slice A4 (ys ++ mark true :: lbs (cs.take j)).length c4 ∧
          wr.ownsRow w.heap.size 5 1 (.slice A4 (ys ++ mark true :: lbs (cs.take j)).length c4) (ys ++ mark true :: lbs (cs.take j)).length (Lib.byteCells (ys ++ mark true :: lbs (cs.take j))) ∧ Below w.heap.size w wr)
        case atStart =>
          have e : (ys ++ mark true :: lbs (cs.take 0)).length = ys.length + 1 := by simp [lbs]
          refine ⟨0, A3, c3, by omega, by omega, rfl, by rw [e], ?_, HB3.out⟩
          rw [e, ← HZ0.out]; exact HO4.out
        case round =>
          obtain ⟨j, A4, c4, hj, rfl, rfl, rfl, hown5, hb5⟩ := hrel
          obtain ⟨wi, rfl⟩ : ∃ wi : World, wi = wr := ⟨_, rfl⟩
          have hrm := HRM.out j
          have hlj : (ys ++ mark true :: lbs (cs.take j)).length = ys.length + 1 + (lbs (cs.take j)).length := by simp; omega
          have hcl := congrArg List.length (lbs_split_at cs j)
          rw [List.length_append] at hcl
          have htot := HL.out
          by_cases hjl : j < cs.length
          · obtain ⟨b2, off2, rfl, hb2B, hcj⟩ := (HI.out.below (hb5.mono hB)).at_ hjl
            have hlit := HRT.out j hjl
            have htj := lbs_take hjl
            obtain ⟨l, hl⟩ : ∃ l, l = cs.getD j 0 := ⟨_, rfl⟩
            rw [← hl] at hcj hlit htj
            have hn := litNum_pos hlit
            have hlb := isLit_iff.1 hlit
            obtain ⟨zs, hzs⟩ : ∃ zs, zs = ys ++ mark true :: lbs (cs.take j) := ⟨_, rfl⟩
            rw [← hzs] at hown5 hlj ⊢
            have HTJ := Lib.hid htj
            have HZS := Lib.hid hzs
            have NA := Lib.hid (numberOf_any l wi (by omega) (by omega))
            obtain ⟨N, hN⟩ : ∃ N : Nat, litNum l = N := ⟨(litNum l).toNat, by omega⟩
            rw [hN] at NA hn
            have hlbl : lb l = nb N := by unfold lb; rw [hN]; simp
            have HLB := Lib.hid hlbl
            have AA := Lib.hid (appendNumber_any N w.heap.size c4 A4 zs wi (by omega) hown5 hb5.size (by omega))
            have HB5 := Lib.hid hb5
            clear hl hlit htj hzs hN hlbl hown5 hrm hcl htot hlb hlj hn
            go_wp2_with (go_at_call 40; refine NA.out.mono ?_; rintro e w' ⟨rfl, rfl⟩)
            refine AA.out.mono ?_
            rintro e w6 ⟨A6, c6, rfl, hown6, hb6⟩
            have HO6 := Lib.hid hown6
            have HB6 := Lib.hid (HB5.out.trans hb6)
            clear hown6 hb6 hcj AA NA
            go_wp2
            go_roundg (cs.length - j)
            case measure => omega
            case rel =>
              have e : ys ++ mark true :: lbs (cs.take (j + 1)) = zs ++ nb N := by rw [HTJ.out, HZS.out, HLB.out]; simp
              refine ⟨j + 1, A6, c6, by omega, by omega, by go_num, by rw [e, List.length_append], ?_, HB6.out⟩
              rw [e]; exact HO6.out
          · have htj : cs.take j = cs := List.take_of_length_le (by omega)
            have hrj := HRM.out j
            rw [htj] at hown5 hlj hrj ⊢
            obtain ⟨zs, hzs⟩ : ∃ zs, zs = ys ++ mark true :: lbs cs := ⟨_, rfl⟩
            rw [← hzs] at hown5 hlj ⊢
            have hzl : zs.length ≤ 1099511627776 := by omega
            have HZS := Lib.hid hzs
            have HO5 := Lib.hid hown5
            have HB5 := Lib.hid hb5
            have hs5 := hb5.size
            clear htj hzs hown5 hb5 hrm hcl htot hlj hrj
            go_wp2_with (at_builtin; refine wpList_append1 _ rfl _ _ 47 rfl w.heap.size 5 i0 (.int .u8 0) 1 Tryz.underlying47 hi hz0 hz1 hz2 rfl _ _ _ rfl (HO5.out.alloc _) (.int .u8 0) wi.heap.size rfl (by go_cell) rfl (by unfold maxLen; omega) (by omega) (by simp; omega) ?_)
            intro v' w7 hown7 hg7 hob7
            obtain ⟨A7, c7, hv7, _⟩ := own_slice hown7
            subst hv7
            have HB7 := Lib.hid ((HB5.out.alloc (by omega) _).grown hg7 (by simp; omega) (fun g hg => (HO5.out.lt g hg).1))
            have HO7 := Lib.hid hown7
            clear hown7 hg7 hob7
            go_wp2
            go_roundg (ps.length - k)
            case measure => omega
            case rel =>
              have e : binOf (ps.take (k + 1)) = zs ++ [0] := by rw [HTK.out, HZS.out]; simp [stpBin]
              have h7 := HO7.out
              refine ⟨k + 1, A7, c7, by omega, by omega, by go_num, ?_, ?_, HB7.out⟩
              · rw [e]; simp
              · rw [e, byteCells_append, byteCells_one]; simpa using h7
    · have htk : ps.take k = ps := List.take_of_length_le (by omega)
      rw [htk] at hown
      have HO := Lib.hid hown
      have HB0 := Lib.hid hb
      have HTK := Lib.hid htk
      clear hown hb htk
      go_wp2
      go_ret
      refine ⟨A2, c2, ?_, HO.out, HB0.out⟩
      show Ending.returned (.slice A2 (binOf (ps.take k)).length c2) = _
      rw [HTK.out]
end Go.Proofs.YthcpfaahcncfjaaGreatDoor

namespace Go.Proofs.YthcpfaahcncfjaaGreatDoor
open Go.RowKit
set_option linter.unusedSimpArgs false
set_option linter.unusedVariables false

/-- where s[m:] begins -/
def tailAddr (a : Option Addr) (c m : Nat) : Option Addr := if c = m then a else a.map (·.add m)
theorem run_slice_tail {P : Program} (t e : TypeId) (i : TypeInfo) (ht : P.underlying t = some (.slice e)) (hi : P.info? e = some i) (hsz : i.size = 1) (a : Option Addr) (n c m : Nat) (j : Int) (hj : j = m) (h1 : m ≤ n) (w : World) :
    (Instr.slice t (.slice a n c) (some (.int .i64 j)) none none).run P w = .ok (.slice (tailAddr a c m) (n - m) (c - m)) w := by
  subst hj
  have e2 : ∀ code, (Instr.sliceBound (.int .i64 (m : Int)) n code).run P w = .ok m w := fun code => by
    have h1 : (0 : Int) ≤ m ∧ (m : Int) ≤ n := by omega
    simp [Instr.sliceBound, asIntOf, h1, go_sem]
    try omega
  unfold tailAddr
  by_cases hc : c = m <;> simp [Instr.slice, run_underlying ht, Instr.sliceBounds, e2, sizeOf, typeInfo, hi, hsz, hc, go_sem]
theorem Cells.tail {w : World} {B n c m : Nat} {A : Option Addr} {f : Nat → Value} (h : Cells w B A n f) (hm : m ≤ n) (hc : n ≤ c) : Cells w B (tailAddr A c m) (n - m) (fun j => f (m + j)) := fun hn => by
  obtain ⟨b, off, rfl, hb, hcell⟩ := h (by omega)
  refine ⟨b, off + m, ?_, hb, fun j hj => ?_⟩
  · unfold tailAddr; rw [if_neg (by omega)]; simp [Addr.add]
  · rw [Nat.add_assoc]; exact hcell (m + j) (by omega)
theorem Bytes.tail {w : World} {B c m : Nat} {A : Option Addr} {bs : List UInt8} (h : Bytes w B A bs) (hm : m ≤ bs.length) (hc : bs.length ≤ c) : Bytes w B (tailAddr A c m) (bs.drop m) := by
  have := Cells.tail h hm hc
  unfold Bytes
  rw [List.length_drop]
  refine this.congr fun j hj => ?_
  simp [List.getD]
end Go.Proofs.YthcpfaahcncfjaaGreatDoor

namespace Go.Proofs.YthcpfaahcncfjaaGreatDoor
open Go.RowKit
set_option linter.unusedSimpArgs false
set_option linter.unusedVariables false

theorem num_ok {bs pre r : List UInt8} {x : UInt8} (hb : bs = pre ++ x :: r) (hp : ∀ y ∈ pre, 128 ≤ y.toNat) (hx : x.toNat < 128) (h0 : x ≠ 0 ∨ pre = []) (hl : pre.length ≤ 2) : NumIs bs (some (grp (pre ++ [x]), r), 0) := by
  refine .ok _ _ ?_ ?_
  · have := grp_lt (pre ++ [x])
    have h3 : 128 ^ (pre ++ [x]).length ≤ 128 ^ 3 := Nat.pow_le_pow_right (by decide) (by simp; omega)
    omega
  · rw [nb_grp pre x hp hx h0, hb]; simp
theorem num_zero {bs pre r : List UInt8} (hb : bs = pre ++ 0 :: r) (hp : ∀ y ∈ pre, 128 ≤ y.toNat) (h0 : pre ≠ []) : NumIs bs (none, 9) :=
  .form fun n q e _ hh => nb_pad pre n q (r ++ e) hp h0 (by rw [hh, hb]; simp)
theorem num_three {bs pre r : List UInt8} {x : UInt8} (hb : bs = pre ++ x :: r) (hp : ∀ y ∈ pre, 128 ≤ y.toNat) (hx : 128 ≤ x.toNat) (hl : pre.length = 2) : NumIs bs (none, 9) :=
  .form fun n q e hn hh => nb_three (b := pre ++ [x]) (n := n) (r := q) (q := r ++ e) (fun y hy => by
    rcases List.mem_append.1 hy with h | h
    · exact hp y h
    · rw [List.mem_singleton.1 h]; exact hx) (by simp; omega) hn (by rw [hh, hb]; simp)
theorem take_cons {bs : List UInt8} {k : Nat} (h : k < bs.length) : bs = bs.take k ++ bs.getD k 0 :: bs.drop (k + 1) := by
  have h1 : bs.getD k 0 = bs[k] := by simp [List.getD, h]
  rw [h1]
  conv => lhs; rw [← List.take_append_drop k bs, List.drop_eq_getElem_cons h]

/-- what the cutter of a number answers -/
def CutNum (bs : List UInt8) (B : Nat) (w : World) (e : Ending) (w' : World) : Prop :=
  (∃ n, w' = w.drewN n) ∧ ((∃ (N : Nat) (r : List UInt8) (A2 : Option Addr) (c2 : Nat), e = .returned (.tuple #[.int .i64 N, .slice A2 r.length c2, .int .i64 0]) ∧ NumIs bs (some (N, r), 0) ∧ Bytes w B A2 r ∧ r.length ≤ c2) ∨
    (∃ k : Int, e = .returned (.tuple #[.int .i64 0, .slice none 0 0, .int .i64 k]) ∧ NumIs bs (none, k) ∧ k ≠ 0))

set_option maxRecDepth 100000 in
set_option maxHeartbeats 4000000 in
theorem cutNumber_any (bs : List UInt8) (B c : Nat) (A : Option Addr) (w : World) (h : Bytes w B A bs) (hc : bs.length ≤ c) (hl : bs.length ≤ 1099511627776) :
    Calls Tryz.prog 76 #[.slice A bs.length c] w (CutNum bs B w) := by
  have H := Lib.hid h
  clear h
  obtain ⟨i0, hi, hz0, hz1, hz2⟩ := info_parts Tryz.infoByte
  go_enter Tryz.func76, Tryz.ntmps76
  go_wp2
  go_loopg [5, 6, 11] (bs.length + 1) (fun gk n u i wr => ∃ (k U : Nat), k ≤ bs.length ∧ k ≤ 2 ∧ gk = bs.length - k + 1 ∧ i = .int .i64 k ∧ u = .int .i64 U ∧ U = 128 ^ k ∧ n = .int .i64 (grp (bs.take k)) ∧ (∀ x ∈ bs.take k, 128 ≤ x.toNat) ∧ w = wr)
  case atStart => exact ⟨0, 1, by omega, by omega, by omega, rfl, rfl, rfl, rfl, by simp, rfl⟩
  case round =>
    obtain ⟨k, U, hk, hk2, rfl, rfl, rfl, hU, rfl, hge, rfl⟩ := hrel
    have HGE := Lib.hid hge
    have hU1 : 1 ≤ U ∧ U ≤ 16384 := by
      rw [hU]
      match k, hk2 with
      | 0, _ => decide
      | 1, _ => decide
      | 2, _ => decide
    have hg := grp_lt (bs.take k)
    rw [List.length_take, Nat.min_eq_left hk, ← hU] at hg
    have HU := Lib.hid hU
    clear hge hU
    obtain ⟨g, hgg⟩ : ∃ g, g = grp (bs.take k) := ⟨_, rfl⟩
    rw [← hgg] at hg ⊢
    have HG := Lib.hid hgg
    clear hgg
    by_cases hlt : k < bs.length
    · obtain ⟨b, off, rfl, hbB, hcell⟩ := H.out.at_ hlt
      obtain ⟨x, hx⟩ : ∃ x, x = bs.getD k 0 := ⟨_, rfl⟩
      rw [← hx] at hcell
      have hx2 := x.toNat_lt
      have HXX := Lib.hid hx
      have htc := take_cons hlt
      rw [← hx] at htc
      have HTC := Lib.hid htc
      clear hx htc
      obtain ⟨X, hX⟩ : ∃ X : Nat, X = x.toNat := ⟨_, rfl⟩
      rw [← hX] at hcell hx2
      have HX := Lib.hid hX
      clear hX
      have hp0 : 0 ≤ (U : Int) * ((X : Int) % 128) := Int.mul_nonneg (by omega) (by omega)
      have hp1 : (U : Int) * ((X : Int) % 128) ≤ 16384 * 127 := Int.mul_le_mul (by omega) (by omega) (by omega) (by omega)
      have hST := fun w' => run_slice_tail (P := Tryz.prog) 47 5 i0 Tryz.underlying47 hi hz1 (some ⟨b, off, none⟩) bs.length c (k + 1) ((k : Int) + 1) rfl hlt w'
      have HTL := Lib.hid (H.out.tail (m := k + 1) hlt hc)
      have htk : bs.take (k + 1) = bs.take k ++ [x] := by rw [List.take_succ_eq_append_getElem hlt, HXX.out]; simp [List.getD, hlt]
      have HTK := Lib.hid htk
      clear htk
      generalize hA2 : tailAddr (some ⟨b, off, none⟩) c (k + 1) = A2 at hST HTL
      clear hA2
      by_cases hlow : X < 128
      · by_cases hz : X = 0
        · have hq : ((X : Int) == 0) = true := by simp; omega
          have HZ := Lib.hid hz
          clear hz
          by_cases hk0 : k ≤ 0
          · go_wp2
            go_quiet (fail)
            go_wp2
            go_ret3
            have hcase : x ≠ 0 ∨ bs.take k = [] := Or.inr (by rw [show k = 0 by omega]; rfl)
            have hno := num_ok HTC.out HGE.out (by have := HX.out; omega) hcase (by simp; omega)
            have hgs := grp_snoc (bs.take k) x
            rw [List.length_take, Nat.min_eq_left hk, ← HG.out, ← HU.out, ← HX.out] at hgs
            refine ⟨⟨_, rfl⟩, Or.inl ⟨grp (bs.take k ++ [x]), bs.drop (k + 1), A2, c - (k + 1), ?_, hno, HTL.out, by simp; omega⟩⟩
            show Ending.returned (.tuple #[.int .i64 ((g : Int) + (U : Int) * ((X : Int) % 128)), .slice A2 (bs.length - (k + 1)) (c - (k + 1)), .int .i64 0]) = _
            rw [hgs, List.length_drop]
            push_cast
            rfl
          · clear hST
            go_wp2
            go_ret3
            have hx0 : x = 0 := by
              rw [← UInt8.toNat_inj, ← HX.out, HZ.out]; rfl
            have hb := HTC.out
            rw [hx0] at hb
            refine ⟨⟨0, rfl⟩, Or.inr ⟨9, rfl, num_zero hb HGE.out (fun h => ?_), by decide⟩⟩
            have := congrArg List.length h
            rw [List.length_take, Nat.min_eq_left hk] at this
            have h2 : ([] : List UInt8).length = 0 := rfl
            omega
        · have hq : ((X : Int) == 0) = false := by simp; omega
          go_wp2
          go_quiet (fail)
          go_wp2
          go_ret3
          have hcase : x ≠ 0 ∨ bs.take k = [] := Or.inl (fun h => by have := HX.out; rw [h] at this; simp at this; simp [this] at hq)
          have hno := num_ok HTC.out HGE.out (by have := HX.out; omega) hcase (by simp; omega)
          have hgs := grp_snoc (bs.take k) x
          rw [List.length_take, Nat.min_eq_left hk, ← HG.out, ← HU.out, ← HX.out] at hgs
          refine ⟨⟨_, rfl⟩, Or.inl ⟨grp (bs.take k ++ [x]), bs.drop (k + 1), A2, c - (k + 1), ?_, hno, HTL.out, by simp; omega⟩⟩
          show Ending.returned (.tuple #[.int .i64 ((g : Int) + (U : Int) * ((X : Int) % 128)), .slice A2 (bs.length - (k + 1)) (c - (k + 1)), .int .i64 0]) = _
          rw [hgs, List.length_drop]
          push_cast
          rfl
      · clear hST
        by_cases hk2 : k = 2
        · have hq : ((k : Int) + 1 == 3) = true := by simp; omega
          have HK2 := Lib.hid hk2
          clear hk2
          go_wp2
          go_ret3
          exact ⟨⟨0, rfl⟩, Or.inr ⟨9, rfl, num_three HTC.out HGE.out (by have := HX.out; omega) (by simp; have := HK2.out; omega), by decide⟩⟩
        · have hq : ((k : Int) + 1 == 3) = false := by simp; omega
          go_wp2
          go_roundg (bs.length - k)
          case measure => omega
          case rel =>
            have hgs := grp_snoc (bs.take k) x
            rw [List.length_take, Nat.min_eq_left hk, ← HG.out, ← HU.out, ← HX.out] at hgs
            refine ⟨k + 1, U * 128, by omega, by omega, by omega, by go_num, by go_num, by rw [HU.out, Nat.pow_succ], ?_, ?_, rfl⟩
            · rw [HTK.out, hgs]
              push_cast
              rfl
            · rw [HTK.out]
              intro y hy
              rcases List.mem_append.1 hy with h | h
              · exact HGE.out y h
              · rw [List.mem_singleton.1 h]; have := HX.out; omega
    · have htk : bs.take k = bs := List.take_of_length_le (by omega)
      have HTK := Lib.hid htk
      clear htk
      go_wp2
      go_ret3
      refine ⟨⟨0, rfl⟩, Or.inr ⟨10, rfl, .short (by omega) (fun x hx => HGE.out x (by rw [HTK.out]; exact hx)), by decide⟩⟩
end Go.Proofs.YthcpfaahcncfjaaGreatDoor

namespace Go.Proofs.YthcpfaahcncfjaaGreatDoor
open Go.RowKit
set_option linter.unusedSimpArgs false
set_option linter.unusedVariables false

theorem Tryz.infoInt3 : (Tryz.prog.info? 3).map (fun i => (i.zero, i.size, i.bytes)) = some (some (.int .i64 0), 1, 8) := by kernel_rfl

theorem results_cell2 {P : Program} {fn : Func} {c a b : Tmp} {T : TypeId} (h : fn.results = #[.cell c T, .tmp a, .tmp b]) {tmps : Array Value} {w : World} {v0 va vb : Value} {ad : Addr} (hc : tmps.getD c undef = .pointer (some ad)) (ha : tmps.getD a undef = va) (hb : tmps.getD b undef = vb)
    (hl : (loadVar T ad).run P w = .ok v0 w) : (results fn tmps).run P w = .ok (.tuple #[v0, va, vb]) w := by
  rw [Array.getD_eq_getD_getElem?] at hc ha hb
  simp [results, h, hc, ha, hb, hl, asAddr]
theorem results_cell1 {P : Program} {fn : Func} {c a : Tmp} {T : TypeId} (h : fn.results = #[.cell c T, .tmp a]) {tmps : Array Value} {w : World} {v0 va : Value} {ad : Addr} (hc : tmps.getD c undef = .pointer (some ad)) (ha : tmps.getD a undef = va)
    (hl : (loadVar T ad).run P w = .ok v0 w) : (results fn tmps).run P w = .ok (.tuple #[v0, va]) w := by
  rw [Array.getD_eq_getD_getElem?] at hc ha
  simp [results, h, hc, ha, hl, asAddr]
theorem load_step {b : Nat} {x y : Value} {w : World} (h0 : w.cell? ⟨b, 0, none⟩ = some x) (h1 : w.cell? ⟨b, 1, none⟩ = some y) : (loadVar 60 ⟨b, 0, none⟩).run Tryz.prog w = .ok (.agg #[x, y]) w := by
  simp [go_sem, h0, h1]

/-- what the cutter of a step answers -/
def CutStep (bs : List UInt8) (B : Nat) (w : World) (e : Ending) (w' : World) : Prop :=
  Below w.heap.size w w' ∧ ((∃ (s : Stp) (r : List UInt8) (A1 A2 : Option Addr) (c1 c2 : Nat), e = .returned (.tuple #[.agg #[.bool s.1, .slice A1 s.2.length c1], .slice A2 r.length c2, .int .i64 0]) ∧ StpIs bs (some (s, r), 0) ∧
      w'.ownsRow w.heap.size 3 1 (.slice A1 s.2.length c1) s.2.length (s.2.map (Value.int .i64)) ∧ Bytes w B A2 r ∧ r.length ≤ c2) ∨
    (∃ k : Int, e = .returned (.tuple #[.agg #[.bool false, .slice none 0 0], .slice none 0 0, .int .i64 k]) ∧ StpIs bs (none, k) ∧ k ≠ 0))

set_option maxRecDepth 100000 in
set_option maxHeartbeats 4000000 in
theorem cutStep_any (bs : List UInt8) (B c : Nat) (A : Option Addr) (w : World) (h : Bytes w B A bs) (hB : B ≤ w.heap.size) (h0 : 0 < bs.length) (hc : bs.length ≤ c) (hl : bs.length ≤ 1099511627776) :
    Calls Tryz.prog 51 #[.slice A bs.length c] w (CutStep bs B w) := by
  obtain ⟨i0, hi, hz0, hz1, hz2⟩ := info_parts Tryz.infoByte
  obtain ⟨j0, hj, hy0, hy1, hy2⟩ := info_parts Tryz.infoInt3
  obtain ⟨b, off, rfl, hbB, hcell⟩ := h.at_ h0
  rw [Nat.add_zero] at hcell
  have hST := fun w' => run_slice_tail (P := Tryz.prog) 47 5 i0 Tryz.underlying47 hi hz1 (some ⟨b, off, none⟩) bs.length c 1 1 rfl h0 w'
  have htl := h.tail (m := 1) h0 hc
  generalize hA2 : tailAddr (some ⟨b, off, none⟩) c 1 = A2 at hST htl
  have htc := take_cons h0
  rw [show bs.take 0 = [] from rfl, List.nil_append] at htc
  generalize hbs1 : bs.drop (0 + 1) = bs1 at htc
  have hbs1' : bs.drop 1 = bs1 := hbs1
  rw [hbs1'] at htl
  have hl1 : bs1.length = bs.length - 1 := by rw [← hbs1']; simp
  obtain ⟨x, hx⟩ : ∃ x, x = bs.getD 0 0 := ⟨_, rfl⟩
  rw [← hx] at hcell htc
  have hx2 := x.toNat_lt
  have HTC := Lib.hid htc
  have HTL := Lib.hid htl
  have HL1 := Lib.hid hl1
  obtain ⟨X, hX⟩ : ∃ X : Nat, X = x.toNat := ⟨_, rfl⟩
  rw [← hX] at hcell hx2
  have HX := Lib.hid hX
  have hc0 := hcell
  clear h htl hA2 htc hbs1 hbs1' hl1 hx hX hcell
  by_cases hbad : X ≠ 97 ∧ X ≠ 100
  · obtain ⟨q1, q2⟩ := hbad
    have hq1 : ((X : Int) == 97) = false := by simp; omega
    have hq2 : ((X : Int) == 100) = false := by simp; omega
    have hq3 : ((X : Int) != 97) = true := by simp; omega
    have hq4 : ((X : Int) != 100) = true := by simp; omega
    go_enter Tryz.func51, Tryz.ntmps51
    go_wp2
    have hc1 : (w.alloc (.cells #[.bool false, .slice none 0 0] 60)).cell? ⟨b, off, none⟩ = some (.int .u8 X) := (World.cell?_alloc_lt w _ ⟨b, off, none⟩ (by simp; omega)).trans hc0
    go_quiet (fail)
    have hbk := ((Blk.new w 60 #[.bool false, .slice none 0 0]).drewN nq)
    have CF := hbk.frozen
    go_wp2
    have hb2 := (hbk.set_ 0 (.bool false)).set_ 1 (.slice none 0 0)
    have d0 := hb2.cell 0
    have d1 := hb2.cell 1
    simp at d0 d1
    (try simp only [Exit.inBlock, Exit.then])
    refine bodyPost_ret (results_cell2 rfl rfl rfl rfl (load_step d0 d1)) rfl ?_
    refine ⟨((below_drewN ((Below.refl _ w).alloc (Nat.le_refl _) _) nq).setCell (by simp) _).setCell (by simp) _, Or.inr ⟨9, rfl, ?_, by decide⟩⟩
    rw [HTC.out]
    refine stp_mark (fun h => ?_) (fun h => ?_)
    · have := HX.out; rw [h] at this; exact q1 this
    · have := HX.out; rw [h] at this; exact q2 this
  · have hm97 : X = 97 ∨ X = 100 := by omega
    clear hbad
    rcases hm97 with rfl | rfl
    · have hxm : x = mark false := by
        rw [← UInt8.toNat_inj, ← HX.out]; rfl
      have htc2 := HTC.out
      rw [hxm] at htc2
      have HTC2 := Lib.hid htc2
      clear htc2 hxm HTC HX
      go_enter Tryz.func51, Tryz.ntmps51
      go_wp2
      have hc1 : (w.alloc (.cells #[.bool false, .slice none 0 0] 60)).cell? ⟨b, off, none⟩ = some (.int .u8 97) := (World.cell?_alloc_lt w _ ⟨b, off, none⟩ (by simp; omega)).trans hc0
      go_quiet (fail)
      go_wp2
      obtain ⟨w1, hw1⟩ : ∃ w1, w1 = ((w.alloc (.cells #[.bool false, .slice none 0 0] 60)).drewN nq).alloc (.cells #[.bool false, .slice none 0 0] 60) := ⟨_, rfl⟩
      have hres : Blk w1 w.heap.size 60 #[.bool false, .slice none 0 0] := by rw [hw1]; exact ((Blk.new w _ _).drewN nq).alloc _
      have hstp : Blk w1 (w.heap.size + 1) 60 #[.bool false, .slice none 0 0] := by
        have := Blk.new ((w.alloc (.cells #[.bool false, .slice none 0 0] 60)).drewN nq) 60 #[.bool false, .slice none 0 0]
        rw [hw1]; simpa using this
      have hbel : Below w.heap.size w w1 := by rw [hw1]; exact (below_drewN ((Below.refl _ w).alloc (Nat.le_refl _) _) nq).alloc (by simp) _
      have hsz1 : w1.heap.size = w.heap.size + 2 := by rw [hw1]; simp
      try rw [← hw1]
      clear hw1 hc1 hc0 hST
      have HRES := Lib.hid hres
      have HSTP := Lib.hid hstp
      have HBEL := Lib.hid hbel
      have HSZ := Lib.hid hsz1
      clear hres hstp hbel hsz1
      go_loopg [0] (bs.length + 1) (fun gk s wr => ∃ (ls : List Int) (r : List UInt8) (Al Ar : Option Addr) (cl cr : Nat), s = .slice Ar r.length cr ∧ r.length < gk ∧ r.length ≤ bs.length ∧ r.length ≤ cr ∧ Bytes wr B Ar r ∧ (∀ l ∈ ls, isLit l = true) ∧ bs = mark false :: (lbs ls ++ r) ∧
        Blk wr w.heap.size 60 #[.bool false, .slice none 0 0] ∧ Blk wr (w.heap.size + 1) 60 #[.bool false, .slice Al ls.length cl] ∧ wr.ownsRow w.heap.size 3 1 (.slice Al ls.length cl) ls.length (ls.map (Value.int .i64)) ∧ Below w.heap.size w wr)
      case atStart =>
        have hl1 := HL1.out
        refine ⟨[], bs1, none, A2, 0, c - 1, by rw [hl1], by omega, by omega, by omega, HTL.out.below (HBEL.out.mono hB), by simp, HTC2.out, HRES.out, HSTP.out, World.ownsRow_nil _ _ _ _, HBEL.out⟩
      case round =>
        obtain ⟨ls, r, Al, Ar, cl, cr, rfl, hgk, hrl, hrc, hby, hls, hbs, hres, hstp, hown, hb⟩ := hrel
        obtain ⟨wo, rfl⟩ : ∃ wo : World, wo = wr := ⟨_, rfl⟩
        have hls9 : ls.length ≤ 1099511627776 := by
          have := congrArg List.length hbs
          have h9 := lbs_len ls
          simp at this
          omega
        have CN := Lib.hid (cutNumber_any r B cr Ar wo hby hrc (by omega))
        have HBY := Lib.hid hby
        have HLS := Lib.hid hls
        have HBS := Lib.hid hbs
        have HRES1 := Lib.hid hres
        have HSTP1 := Lib.hid hstp
        have HOWN := Lib.hid hown
        have HB0 := Lib.hid hb
        clear hby hls hbs hres hstp hown hb
        go_wp2_with fail
        refine CN.out.mono ?_
        rintro e w2 ⟨⟨n, hw2⟩, hcase⟩
        have hres2 : Blk w2 w.heap.size 60 #[.bool false, .slice none 0 0] := by rw [hw2]; exact HRES1.out.drewN n
        have hstp2 : Blk w2 (w.heap.size + 1) 60 #[.bool false, .slice Al ls.length cl] := by rw [hw2]; exact HSTP1.out.drewN n
        have hown2 : w2.ownsRow w.heap.size 3 1 (.slice Al ls.length cl) ls.length (ls.map (Value.int .i64)) := by rw [hw2]; exact HOWN.out
        have hb2 : Below w.heap.size w w2 := by rw [hw2]; exact below_drewN HB0.out n
        have hbyB : ∀ A3 r3, Bytes wo B A3 r3 → Bytes w2 B A3 r3 := fun A3 r3 h => by rw [hw2]; exact h
        have HRES2 := Lib.hid hres2
        have HSTP2 := Lib.hid hstp2
        have HOWN2 := Lib.hid hown2
        have HB2 := Lib.hid hb2
        have HBYB := Lib.hid hbyB
        clear hw2 hres2 hstp2 hown2 hb2 hbyB CN HRES1 HSTP1 HOWN HB0
        have F0 := HRES2.out.frozen
        have F1 := HSTP2.out.frozen
        have C0 := HSTP2.out.cell 0
        have C1 := HSTP2.out.cell 1
        have R0 := HRES2.out.cell 0
        have R1 := HRES2.out.cell 1
        simp at C0 C1 R0 R1
        have hs2 := HB2.out.size
        have hs3 : w.heap.size + 1 < w2.heap.size := HSTP2.out.lt
        rcases hcase with ⟨N, r2, A3, c3, rfl, hnum, hby2, hrc2⟩ | ⟨k, rfl, hnum, hk0⟩
        · have HNUM := Lib.hid hnum
          have HBY2 := Lib.hid hby2
          have hNlt : N < 2097152 ∧ r2.length < r.length := by
            rcases hnum with ⟨_, _, h1, h2⟩
            refine ⟨h1, ?_⟩
            have := congrArg List.length h2
            rw [List.length_append] at this
            have h3 : 1 ≤ (nb N).length := by
              by_cases hh : N < 128
              · rw [nb_low hh]; simp
              · rw [nb_high hh]; simp
            omega
          obtain ⟨hNl, hrlt⟩ := hNlt
          clear hnum hby2
          by_cases hN0 : N = 0
          · have hq : ((N : Int) == 0) = true := by simp; omega
            have HN0 := Lib.hid hN0
            clear hN0
            go_wp2
            have hb3 := (HRES2.out.set_ 0 (.bool false)).set_ 1 (.slice Al ls.length cl)
            have d0 := hb3.cell 0
            have d1 := hb3.cell 1
            simp at d0 d1
            (try simp only [Exit.inBlock, Exit.then])
            refine bodyPost_ret (results_cell2 rfl rfl rfl rfl (load_step d0 d1)) rfl ?_
            refine ⟨(HB2.out.setCell (by simp) _).setCell (by simp) _, Or.inl ⟨(false, ls), r2, Al, A3, cl, c3, rfl, ?_, ?_, ?_, hrc2⟩⟩
            · have h9 := HNUM.out
              rw [HN0.out] at h9
              exact stp_end HLS.out HBS.out h9
            · have hne := own_blk_ne HOWN2.out HRES2.out (by decide)
              exact own_setCell (own_setCell HOWN2.out _ hne) _ hne
            · exact Cells.keep (HBYB.out _ _ HBY2.out) (fun p hp => (HB2.out.cell (p := p) (by omega)).symm)
          · have hq : ((N : Int) == 0) = false := by simp; omega
            have LA := Lib.hid (literalOf_any N w2 (by omega) (by omega))
            obtain ⟨l, hl⟩ : ∃ l, l = numLit N := ⟨_, rfl⟩
            have hlb : -1048577 ≤ l ∧ l ≤ 1048577 := by rw [hl]; unfold numLit; split <;> omega
            rw [← hl] at LA
            have IA := Lib.hid (isLiteral_any l w2 (by omega) (by omega))
            have HLL := Lib.hid hl
            have HN0 := Lib.hid hN0
            clear hl hN0
            rcases hlit : isLit l with _ | _
            · rw [hlit] at IA
              have HLIT := Lib.hid hlit
              clear hlit
              go_wp2_with fail
              refine LA.out.mono ?_
              rintro e w3 ⟨rfl, rfl⟩
              go_wp2_with fail
              refine IA.out.mono ?_
              rintro e w3 ⟨rfl, rfl⟩
              go_wp2
              have hb3 := (HRES2.out.set_ 0 (.bool false)).set_ 1 (.slice none 0 0)
              have d0 := hb3.cell 0
              have d1 := hb3.cell 1
              simp at d0 d1
              (try simp only [Exit.inBlock, Exit.then])
              refine bodyPost_ret (results_cell2 rfl rfl rfl rfl (load_step d0 d1)) rfl ?_
              refine ⟨(HB2.out.setCell (by simp) _).setCell (by simp) _, Or.inr ⟨9, rfl, ?_, by decide⟩⟩
              exact stp_none HLS.out HBS.out HNUM.out HN0.out (by rw [← HLL.out]; exact HLIT.out)
            · rw [hlit] at IA
              have HLIT := Lib.hid hlit
              clear hlit
              go_wp2_with fail
              refine LA.out.mono ?_
              rintro e w3 ⟨rfl, rfl⟩
              go_wp2_with fail
              refine IA.out.mono ?_
              rintro e w3 ⟨rfl, rfl⟩
              go_wp2_with (at_builtin; refine wpList_append1 _ rfl _ _ 55 rfl w.heap.size 3 j0 (.int .i64 0) 8 Tryz.underlying55 hj hy0 hy1 hy2 rfl _ _ _ rfl (HOWN2.out.alloc _) (.int .i64 l) w2.heap.size rfl (by go_cell) rfl (by unfold maxLen; omega) (by omega) (by simp; omega) ?_)
              intro v' w4 hown4 hg4 hob4
              obtain ⟨A4, c4, hv4, _⟩ := own_slice hown4
              subst hv4
              have hr4 := blk_kept hg4 HOWN2.out HRES2.out (by decide)
              have hs4 := blk_kept hg4 HOWN2.out HSTP2.out (by decide)
              have HB4 := Lib.hid ((HB2.out.alloc (by omega) _).grown hg4 (by simp; omega) (fun g hg => (HOWN2.out.lt g hg).1))
              have HR4 := Lib.hid hr4
              have HS4 := Lib.hid hs4
              have HO4 := Lib.hid hown4
              have F4 := hs4.frozen
              have C4 := hs4.cell 1
              simp at C4
              have hby4 : Bytes w4 B A3 r2 := Cells.keep (HBYB.out _ _ HBY2.out) (fun p hp => (HB4.out.cell (p := p) (by omega)).trans (HB2.out.cell (p := p) (by omega)).symm)
              have HBY4 := Lib.hid hby4
              clear hby4
              clear hown4 hg4 hob4 hr4 hs4 C0 C1 F0 F1 R0 R1
              go_wp2
              clear C4 F4
              go_roundg (r.length)
              case measure => omega
              case rel =>
                have hmore := stp_more HLS.out HBS.out HNUM.out (by rw [← HLL.out]; exact HLIT.out)
                rw [← HLL.out] at hmore
                refine ⟨ls ++ [l], r2, A4, A3, c4, c3, rfl, by omega, by omega, hrc2, ?_, hmore.1, hmore.2.1, ?_, ?_, ?_, HB4.out.setCell (by simp) _⟩
                · exact Cells.setCell HBY4.out (show B ≤ w.heap.size + 1 by omega) _
                · exact HR4.out.far (by simp) _
                · have h9 := HS4.out.set_ 1 (.slice A4 (ls ++ [l]).length c4)
                  simpa using h9
                · have h9 := own_setCell HO4.out (p := ⟨w.heap.size + 1, 1, none⟩) (.slice A4 (ls.length + 1) c4) (own_blk_ne HO4.out HS4.out (by decide))
                  simpa using h9
        · have hq : (k == 0) = false := by simpa using hk0
          have hq2 : (k != 0) = true := by simpa using hk0
          have HNUM := Lib.hid hnum
          clear hnum
          go_wp2
          have hb3 := (HRES2.out.set_ 0 (.bool false)).set_ 1 (.slice none 0 0)
          have d0 := hb3.cell 0
          have d1 := hb3.cell 1
          simp at d0 d1
          (try simp only [Exit.inBlock, Exit.then])
          refine bodyPost_ret (results_cell2 rfl rfl rfl rfl (load_step d0 d1)) rfl ?_
          refine ⟨(HB2.out.setCell (by simp) _).setCell (by simp) _, Or.inr ⟨k, rfl, ?_, hk0⟩⟩
          have h9 := HNUM.out
          rcases h9 with _ | ⟨h1, h2⟩ | h1
          · exact stp_short HLS.out HBS.out (.short h1 h2)
          · exact stp_form HLS.out HBS.out (.form h1)
    · have hxm : x = mark true := by
        rw [← UInt8.toNat_inj, ← HX.out]; rfl
      have htc2 := HTC.out
      rw [hxm] at htc2
      have HTC2 := Lib.hid htc2
      clear htc2 hxm HTC HX
      go_enter Tryz.func51, Tryz.ntmps51
      go_wp2
      have hc1 : (w.alloc (.cells #[.bool false, .slice none 0 0] 60)).cell? ⟨b, off, none⟩ = some (.int .u8 100) := (World.cell?_alloc_lt w _ ⟨b, off, none⟩ (by simp; omega)).trans hc0
      go_quiet (fail)
      go_wp2
      obtain ⟨w1, hw1⟩ : ∃ w1, w1 = ((w.alloc (.cells #[.bool false, .slice none 0 0] 60)).drewN nq).alloc (.cells #[.bool true, .slice none 0 0] 60) := ⟨_, rfl⟩
      have hres : Blk w1 w.heap.size 60 #[.bool false, .slice none 0 0] := by rw [hw1]; exact ((Blk.new w _ _).drewN nq).alloc _
      have hstp : Blk w1 (w.heap.size + 1) 60 #[.bool true, .slice none 0 0] := by
        have := Blk.new ((w.alloc (.cells #[.bool false, .slice none 0 0] 60)).drewN nq) 60 #[.bool true, .slice none 0 0]
        rw [hw1]; simpa using this
      have hbel : Below w.heap.size w w1 := by rw [hw1]; exact (below_drewN ((Below.refl _ w).alloc (Nat.le_refl _) _) nq).alloc (by simp) _
      have hsz1 : w1.heap.size = w.heap.size + 2 := by rw [hw1]; simp
      try rw [← hw1]
      clear hw1 hc1 hc0 hST
      have HRES := Lib.hid hres
      have HSTP := Lib.hid hstp
      have HBEL := Lib.hid hbel
      have HSZ := Lib.hid hsz1
      clear hres hstp hbel hsz1
      go_loopg [0] (bs.length + 1) (fun gk s wr => ∃ (ls : List Int) (r : List UInt8) (Al Ar : Option Addr) (cl cr : Nat), s = .slice Ar r.length cr ∧ r.length < gk ∧ r.length ≤ bs.length ∧ r.length ≤ cr ∧ Bytes wr B Ar r ∧ (∀ l ∈ ls, isLit l = true) ∧ bs = mark true :: (lbs ls ++ r) ∧
        Blk wr w.heap.size 60 #[.bool false, .slice none 0 0] ∧ Blk wr (w.heap.size + 1) 60 #[.bool true, .slice Al ls.length cl] ∧ wr.ownsRow w.heap.size 3 1 (.slice Al ls.length cl) ls.length (ls.map (Value.int .i64)) ∧ Below w.heap.size w wr)
      case atStart =>
        have hl1 := HL1.out
        refine ⟨[], bs1, none, A2, 0, c - 1, by rw [hl1], by omega, by omega, by omega, HTL.out.below (HBEL.out.mono hB), by simp, HTC2.out, HRES.out, HSTP.out, World.ownsRow_nil _ _ _ _, HBEL.out⟩
      case round =>
        obtain ⟨ls, r, Al, Ar, cl, cr, rfl, hgk, hrl, hrc, hby, hls, hbs, hres, hstp, hown, hb⟩ := hrel
        obtain ⟨wo, rfl⟩ : ∃ wo : World, wo = wr := ⟨_, rfl⟩
        have hls9 : ls.length ≤ 1099511627776 := by
          have := congrArg List.length hbs
          have h9 := lbs_len ls
          simp at this
          omega
        have CN := Lib.hid (cutNumber_any r B cr Ar wo hby hrc (by omega))
        have HBY := Lib.hid hby
        have HLS := Lib.hid hls
        have HBS := Lib.hid hbs
        have HRES1 := Lib.hid hres
        have HSTP1 := Lib.hid hstp
        have HOWN := Lib.hid hown
        have HB0 := Lib.hid hb
        clear hby hls hbs hres hstp hown hb
        go_wp2_with fail
        refine CN.out.mono ?_
        rintro e w2 ⟨⟨n, hw2⟩, hcase⟩
        have hres2 : Blk w2 w.heap.size 60 #[.bool false, .slice none 0 0] := by rw [hw2]; exact HRES1.out.drewN n
        have hstp2 : Blk w2 (w.heap.size + 1) 60 #[.bool true, .slice Al ls.length cl] := by rw [hw2]; exact HSTP1.out.drewN n
        have hown2 : w2.ownsRow w.heap.size 3 1 (.slice Al ls.length cl) ls.length (ls.map (Value.int .i64)) := by rw [hw2]; exact HOWN.out
        have hb2 : Below w.heap.size w w2 := by rw [hw2]; exact below_drewN HB0.out n
        have hbyB : ∀ A3 r3, Bytes wo B A3 r3 → Bytes w2 B A3 r3 := fun A3 r3 h => by rw [hw2]; exact h
        have HRES2 := Lib.hid hres2
        have HSTP2 := Lib.hid hstp2
        have HOWN2 := Lib.hid hown2
        have HB2 := Lib.hid hb2
        have HBYB := Lib.hid hbyB
        clear hw2 hres2 hstp2 hown2 hb2 hbyB CN HRES1 HSTP1 HOWN HB0
        have F0 := HRES2.out.frozen
        have F1 := HSTP2.out.frozen
        have C0 := HSTP2.out.cell 0
        have C1 := HSTP2.out.cell 1
        have R0 := HRES2.out.cell 0
        have R1 := HRES2.out.cell 1
        simp at C0 C1 R0 R1
        have hs2 := HB2.out.size
        have hs3 : w.heap.size + 1 < w2.heap.size := HSTP2.out.lt
        rcases hcase with ⟨N, r2, A3, c3, rfl, hnum, hby2, hrc2⟩ | ⟨k, rfl, hnum, hk0⟩
        · have HNUM := Lib.hid hnum
          have HBY2 := Lib.hid hby2
          have hNlt : N < 2097152 ∧ r2.length < r.length := by
            rcases hnum with ⟨_, _, h1, h2⟩
            refine ⟨h1, ?_⟩
            have := congrArg List.length h2
            rw [List.length_append] at this
            have h3 : 1 ≤ (nb N).length := by
              by_cases hh : N < 128
              · rw [nb_low hh]; simp
              · rw [nb_high hh]; simp
            omega
          obtain ⟨hNl, hrlt⟩ := hNlt
          clear hnum hby2
          by_cases hN0 : N = 0
          · have hq : ((N : Int) == 0) = true := by simp; omega
            have HN0 := Lib.hid hN0
            clear hN0
            go_wp2
            have hb3 := (HRES2.out.set_ 0 (.bool true)).set_ 1 (.slice Al ls.length cl)
            have d0 := hb3.cell 0
            have d1 := hb3.cell 1
            simp at d0 d1
            (try simp only [Exit.inBlock, Exit.then])
            refine bodyPost_ret (results_cell2 rfl rfl rfl rfl (load_step d0 d1)) rfl ?_
            refine ⟨(HB2.out.setCell (by simp) _).setCell (by simp) _, Or.inl ⟨(true, ls), r2, Al, A3, cl, c3, rfl, ?_, ?_, ?_, hrc2⟩⟩
            · have h9 := HNUM.out
              rw [HN0.out] at h9
              exact stp_end HLS.out HBS.out h9
            · have hne := own_blk_ne HOWN2.out HRES2.out (by decide)
              exact own_setCell (own_setCell HOWN2.out _ hne) _ hne
            · exact Cells.keep (HBYB.out _ _ HBY2.out) (fun p hp => (HB2.out.cell (p := p) (by omega)).symm)
          · have hq : ((N : Int) == 0) = false := by simp; omega
            have LA := Lib.hid (literalOf_any N w2 (by omega) (by omega))
            obtain ⟨l, hl⟩ : ∃ l, l = numLit N := ⟨_, rfl⟩
            have hlb : -1048577 ≤ l ∧ l ≤ 1048577 := by rw [hl]; unfold numLit; split <;> omega
            rw [← hl] at LA
            have IA := Lib.hid (isLiteral_any l w2 (by omega) (by omega))
            have HLL := Lib.hid hl
            have HN0 := Lib.hid hN0
            clear hl hN0
            rcases hlit : isLit l with _ | _
            · rw [hlit] at IA
              have HLIT := Lib.hid hlit
              clear hlit
              go_wp2_with fail
              refine LA.out.mono ?_
              rintro e w3 ⟨rfl, rfl⟩
              go_wp2_with fail
              refine IA.out.mono ?_
              rintro e w3 ⟨rfl, rfl⟩
              go_wp2
              have hb3 := (HRES2.out.set_ 0 (.bool false)).set_ 1 (.slice none 0 0)
              have d0 := hb3.cell 0
              have d1 := hb3.cell 1
              simp at d0 d1
              (try simp only [Exit.inBlock, Exit.then])
              refine bodyPost_ret (results_cell2 rfl rfl rfl rfl (load_step d0 d1)) rfl ?_
              refine ⟨(HB2.out.setCell (by simp) _).setCell (by simp) _, Or.inr ⟨9, rfl, ?_, by decide⟩⟩
              exact stp_none HLS.out HBS.out HNUM.out HN0.out (by rw [← HLL.out]; exact HLIT.out)
            · rw [hlit] at IA
              have HLIT := Lib.hid hlit
              clear hlit
              go_wp2_with fail
              refine LA.out.mono ?_
              rintro e w3 ⟨rfl, rfl⟩
              go_wp2_with fail
              refine IA.out.mono ?_
              rintro e w3 ⟨rfl, rfl⟩
              go_wp2_with (at_builtin; refine wpList_append1 _ rfl _ _ 55 rfl w.heap.size 3 j0 (.int .i64 0) 8 Tryz.underlying55 hj hy0 hy1 hy2 rfl _ _ _ rfl (HOWN2.out.alloc _) (.int .i64 l) w2.heap.size rfl (by go_cell) rfl (by unfold maxLen; omega) (by omega) (by simp; omega) ?_)
              intro v' w4 hown4 hg4 hob4
              obtain ⟨A4, c4, hv4, _⟩ := own_slice hown4
              subst hv4
              have hr4 := blk_kept hg4 HOWN2.out HRES2.out (by decide)
              have hs4 := blk_kept hg4 HOWN2.out HSTP2.out (by decide)
              have HB4 := Lib.hid ((HB2.out.alloc (by omega) _).grown hg4 (by simp; omega) (fun g hg => (HOWN2.out.lt g hg).1))
              have HR4 := Lib.hid hr4
              have HS4 := Lib.hid hs4
              have HO4 := Lib.hid hown4
              have F4 := hs4.frozen
              have C4 := hs4.cell 1
              simp at C4
              have hby4 : Bytes w4 B A3 r2 := Cells.keep (HBYB.out _ _ HBY2.out) (fun p hp => (HB4.out.cell (p := p) (by omega)).trans (HB2.out.cell (p := p) (by omega)).symm)
              have HBY4 := Lib.hid hby4
              clear hby4
              clear hown4 hg4 hob4 hr4 hs4 C0 C1 F0 F1 R0 R1
              go_wp2
              clear C4 F4
              go_roundg (r.length)
              case measure => omega
              case rel =>
                have hmore := stp_more HLS.out HBS.out HNUM.out (by rw [← HLL.out]; exact HLIT.out)
                rw [← HLL.out] at hmore
                refine ⟨ls ++ [l], r2, A4, A3, c4, c3, rfl, by omega, by omega, hrc2, ?_, hmore.1, hmore.2.1, ?_, ?_, ?_, HB4.out.setCell (by simp) _⟩
                · exact Cells.setCell HBY4.out (show B ≤ w.heap.size + 1 by omega) _
                · exact HR4.out.far (by simp) _
                · have h9 := HS4.out.set_ 1 (.slice A4 (ls ++ [l]).length c4)
                  simpa using h9
                · have h9 := own_setCell HO4.out (p := ⟨w.heap.size + 1, 1, none⟩) (.slice A4 (ls.length + 1) c4) (own_blk_ne HO4.out HS4.out (by decide))
                  simpa using h9
        · have hq : (k == 0) = false := by simpa using hk0
          have hq2 : (k != 0) = true := by simpa using hk0
          have HNUM := Lib.hid hnum
          clear hnum
          go_wp2
          have hb3 := (HRES2.out.set_ 0 (.bool false)).set_ 1 (.slice none 0 0)
          have d0 := hb3.cell 0
          have d1 := hb3.cell 1
          simp at d0 d1
          (try simp only [Exit.inBlock, Exit.then])
          refine bodyPost_ret (results_cell2 rfl rfl rfl rfl (load_step d0 d1)) rfl ?_
          refine ⟨(HB2.out.setCell (by simp) _).setCell (by simp) _, Or.inr ⟨k, rfl, ?_, hk0⟩⟩
          have h9 := HNUM.out
          rcases h9 with _ | ⟨h1, h2⟩ | h1
          · exact stp_short HLS.out HBS.out (.short h1 h2)
          · exact stp_form HLS.out HBS.out (.form h1)
end Go.Proofs.YthcpfaahcncfjaaGreatDoor

namespace Go.Proofs.YthcpfaahcncfjaaGreatDoor
open Go.RowKit
set_option linter.unusedSimpArgs false
set_option linter.unusedVariables false

theorem Tryz.infoStep : (Tryz.prog.info? 60).map (fun i => (i.zero, i.size, i.bytes)) = some (some (.agg #[.bool false, .slice none 0 0]), 2, 32) := by kernel_rfl

/-- steps in rows of one's own, from a block on -/
def OwnSteps (w : World) (base : Nat) (A : Option Addr) (c : Nat) (ps : List Stp) : Prop :=
  ∃ vs, w.ownsRow base 60 2 (.slice A ps.length c) ps.length vs ∧ StpRows w base 3 vs ps
theorem OwnSteps.nil_ (w : World) (base : Nat) : OwnSteps w base none 0 [] := ⟨[], World.ownsRow_nil _ _ _ _, StpRows.nil_⟩
theorem OwnSteps.below {w w' : World} {base B c : Nat} {A : Option Addr} {ps : List Stp} (h : OwnSteps w base A c ps) (hb : Below B w w') (hB : w.heap.size ≤ B) : OwnSteps w' base A c ps := by
  obtain ⟨vs, h1, h2⟩ := h
  exact ⟨vs, own_belowK h1 hb hB, h2.below hb hB⟩
theorem OwnSteps.steps {w : World} {base c : Nat} {A : Option Addr} {ps : List Stp} (h : OwnSteps w base A c ps) : Steps w w.heap.size A ps := by
  obtain ⟨vs, h1, h2⟩ := h
  exact h2.steps h1

/-- what the parser of bytes answers -/
def ParseBin (bs : List UInt8) (w : World) (e : Ending) (w' : World) : Prop :=
  Below w.heap.size w w' ∧ ((∃ (ps : List Stp) (A : Option Addr) (c : Nat), e = .returned (.tuple #[.slice A ps.length c, .int .i64 0]) ∧ BinIs bs (some ps, 0) ∧ OwnSteps w' w.heap.size A c ps) ∨
    (∃ k : Int, e = .returned (.tuple #[.slice none 0 0, .int .i64 k]) ∧ BinIs bs (none, k) ∧ k ≠ 0))

set_option maxRecDepth 100000 in
set_option maxHeartbeats 4000000 in
theorem parseBinary_any (bs : List UInt8) (B c : Nat) (A : Option Addr) (w : World) (h : Bytes w B A bs) (hB : B ≤ w.heap.size) (hc : bs.length ≤ c) (hl : bs.length ≤ 1099511627776) :
    Calls Tryz.prog 29 #[.slice A bs.length c] w (ParseBin bs w) := by
  obtain ⟨i0, hi, hz0, hz1, hz2⟩ := info_parts Tryz.infoStep
  have H := Lib.hid h
  clear h
  go_enter Tryz.func29, Tryz.ntmps29
  go_wp2
  go_loopg [0, 4] (bs.length + 1) (fun gk s t wr => ∃ (ps : List Stp) (r : List UInt8) (As Ar : Option Addr) (cs cr : Nat), s = .slice Ar r.length cr ∧ t = .slice As ps.length cs ∧ r.length < gk ∧ r.length ≤ bs.length ∧ r.length ≤ cr ∧ Bytes wr B Ar r ∧
    stpsRight ps = true ∧ bs = binOf ps ++ r ∧ OwnSteps wr w.heap.size As cs ps ∧ Below w.heap.size w wr)
  case atStart => exact ⟨[], bs, none, A, 0, c, rfl, rfl, by omega, by omega, hc, H.out, rfl, rfl, OwnSteps.nil_ _ _, Below.refl _ _⟩
  case round =>
    obtain ⟨ps, r, As, Ar, cs, cr, rfl, rfl, hgk, hrl, hrc, hby, hps, hbs, hown, hb⟩ := hrel
    obtain ⟨wo, rfl⟩ : ∃ wo : World, wo = wr := ⟨_, rfl⟩
    have hpl : ps.length ≤ 1099511627776 := by
      have h1 := congrArg List.length hbs
      rw [List.length_append] at h1
      have h2 : ps.length ≤ (binOf ps).length := by
        clear h1 hown hbs hps
        induction ps with
        | nil => simp
        | cons p ps ih => rw [binOf_cons, List.length_append]; simp [stpBin]; omega
      omega
    have hs0 := hb.size
    by_cases h0 : 0 < r.length
    · have hne : r ≠ [] := by intro h; rw [h] at h0; simp at h0
      have CS := Lib.hid (cutStep_any r B cr Ar wo hby (by omega) h0 hrc (by omega))
      have HPS := Lib.hid hps
      have HBS := Lib.hid hbs
      have HO := Lib.hid hown
      have HB0 := Lib.hid hb
      have HNE := Lib.hid hne
      clear hby hps hbs hown hb hne
      go_wp2_with fail
      refine CS.out.mono ?_
      rintro e w2 ⟨hb2, hcase⟩
      have HB2 := Lib.hid hb2
      have hs2 := hb2.size
      clear hb2 CS
      rcases hcase with ⟨s, r2, A1, A2, c1, c2, rfl, hst, hown1, hby2, hrc2⟩ | ⟨k, rfl, hst, hk0⟩
      · obtain ⟨hp2, hbs2, hsr, hlt2⟩ := bin_step_ok HPS.out HBS.out hst
        obtain ⟨d, ls⟩ := s
        obtain ⟨vs, ho1, hrows⟩ := HO.out
        have ho2 := own_belowK ho1 HB2.out (Nat.le_refl _)
        have hb02 := HB0.out.trans (HB2.out.mono hs0)
        have hr2 := (hrows.below HB2.out (Nat.le_refl _)).snoc (d := d) ho1.1 (own_more hown1 hs0)
        have HR2 := Lib.hid hr2
        have HO2 := Lib.hid ho2
        have HB02 := Lib.hid hb02
        have HBY2 := Lib.hid hby2
        have HPS2 := Lib.hid hp2
        have HBS2 := Lib.hid hbs2
        have hs02 := hb02.size
        clear hp2 hbs2 hsr hst hown1 hby2 ho1 hrows ho2 hb02 hr2
        have hlt3 : r2.length < r.length := hlt2
        clear hlt2
        have hOA : ∀ o o2, ((w2.alloc o).alloc o2).ownsRow w.heap.size 60 2 (.slice As ps.length cs) ps.length vs := fun o o2 => (HO2.out.alloc o).alloc o2
        go_wp2_with (at_builtin; refine wpList_append_el _ rfl _ _ 33 rfl w.heap.size 60 i0 (.agg #[.bool false, .slice none 0 0]) 2 32 Tryz.underlying33 hi hz0 hz1 hz2 rfl (by decide) _ _ _ rfl (hOA _ _) [.bool d, .slice A1 ls.length c1] rfl (w2.heap.size + 1) rfl (two_cells (by have := Blk.new (w2.alloc (.cells #[.bool d, .slice A1 ls.length c1] 60)) 60 #[.bool d, .slice A1 ls.length c1]; simpa using this)) (by simp [Value.oneCell']) (by unfold maxLen; omega) (by omega) (by simp; omega) ?_)
        intro v' w3 hown3 hg3 hob3
        have hsl : ∃ A3 c3, v' = .slice A3 (ps.length + 1) c3 := by
          rcases hown3.2 with ⟨_, h⟩ | ⟨g, cap, cur, h, _⟩
          · omega
          · exact ⟨_, _, h⟩
        obtain ⟨A3, c3, rfl⟩ := hsl
        have hrA := HR2.out.below ((Below.refl w2.heap.size w2).alloc (Nat.le_refl _) (.cells #[.bool d, .slice A1 ls.length c1] 60) |>.alloc (by simp) (.cells #[.bool d, .slice A1 ls.length c1] 60)) (Nat.le_refl _)
        have hr3 := hrA.outer (hOA _ _) (by decide) hg3
        have HB3 := Lib.hid (((HB02.out.alloc (by omega) _).alloc (by simp; omega) _).grown hg3 (by simp; omega) (fun g hg => (HO2.out.lt g hg).1))
        have HO3 := Lib.hid hown3
        have HR3 := Lib.hid hr3
        clear hown3 hg3 hob3 hrA hr3 hOA
        go_wp2
        go_roundg (r.length)
        case measure => omega
        case rel =>
          exact ⟨ps ++ [(d, ls)], r2, A3, A2, c3, c2, rfl, by simp, by omega, by omega, hrc2, Cells.keep HBY2.out (fun p hp => (HB3.out.cell (p := p) (by omega)).trans (HB0.out.cell (p := p) (by omega)).symm), HPS2.out, HBS2.out, ⟨_, by simpa using HO3.out, HR3.out⟩, HB3.out⟩
      · have hq : (k == 0) = false := by simpa using hk0
        have hq2 : (k != 0) = true := by simpa using hk0
        have HST := Lib.hid hst
        clear hst
        go_wp2
        go_ret2
        refine ⟨(HB0.out.trans (HB2.out.mono hs0)).alloc (by omega) _, Or.inr ⟨k, rfl, ?_, hk0⟩⟩
        have h9 := HST.out
        rcases h9 with _ | ⟨h1, h2⟩ | h1
        · exact bin_step_short HPS.out HBS.out HNE.out (.short h1 h2)
        · exact bin_step_form HPS.out HBS.out HNE.out (.form h1)
    · have hr0 : r = [] := List.eq_nil_of_length_eq_zero (by omega)
      have hbs2 := hbs
      rw [hr0, List.append_nil] at hbs2
      have HPS := Lib.hid hps
      have HBS := Lib.hid hbs2
      have HO := Lib.hid hown
      have HB0 := Lib.hid hb
      clear hby hps hbs hbs2 hown hb hr0
      go_wp2
      go_ret2
      exact ⟨HB0.out, Or.inl ⟨ps, As, cs, rfl, .ok ps HPS.out HBS.out.symm, HO.out⟩⟩
end Go.Proofs.YthcpfaahcncfjaaGreatDoor
