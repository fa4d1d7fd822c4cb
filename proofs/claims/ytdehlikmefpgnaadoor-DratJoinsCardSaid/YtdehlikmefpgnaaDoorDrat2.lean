/- A proof's bytes. -/
import Derived.Test.YtdehlikmefpgnaaDoorDrat1
namespace Go.Proofs.YtdehlikmefpgnaaDoor
open Go.RowKit
set_option linter.unusedSimpArgs false
set_option linter.unusedVariables false

theorem binOf_take {ps : List Stp} {k : Nat} (hk : k < ps.length) : binOf (ps.take (k + 1)) = binOf (ps.take k) ++ stpBin (ps.getD k stp0) := by
  rw [List.take_succ_eq_append_getElem hk, binOf_append]
  simp [List.getD, hk, binOf]
theorem lbs_take {c : List Int} {k : Nat} (hk : k < c.length) : lbs (c.take (k + 1)) = lbs (c.take k) ++ lb (c.getD k 0) := by
  rw [List.take_succ_eq_append_getElem hk, lbs_append]
  simp [List.getD, hk, lbs]
theorem binOf_split_at (ps : List Stp) (k : Nat) : binOf ps = binOf (ps.take k) ++ binOf (ps.drop k) := by rw [← binOf_append, List.take_append_drop]
theorem lbs_split_at (c : List Int) (k : Nat) : lbs c = lbs (c.take k) ++ lbs (c.drop k) := by rw [← lbs_append, List.take_append_drop]
theorem lb_len {l : Int} : 1 ≤ (lb l).length := by
  unfold lb
  by_cases hh : (litNum l).toNat < 128
  · rw [nb_low hh]; simp
  · rw [nb_high hh]; simp
/-- what is written so far leaves room for what is to come -/
theorem bin_room {ps : List Stp} {k j : Nat} (hk : k < ps.length) : (binOf (ps.take k)).length + 1 + (lbs ((ps.getD k stp0).2.take j)).length + 1 ≤ (binOf ps).length := by
  have h1 := congrArg List.length (binOf_split_at ps k)
  have h2 : binOf (ps.drop k) = stpBin (ps.getD k stp0) ++ binOf (ps.drop (k + 1)) := by
    rw [List.drop_eq_getElem_cons hk, binOf_cons]; simp [List.getD, hk]
  rw [h2] at h1
  have h3 := congrArg List.length (lbs_split_at (ps.getD k stp0).2 j)
  unfold stpBin at h1
  simp only [List.length_append, List.length_cons, List.length_nil] at h1 h3
  omega
theorem lbs_len (ls : List Int) : ls.length ≤ (lbs ls).length := by
  induction ls with
  | nil => simp
  | cons l ls ih => rw [lbs_cons, List.length_append]; have := lb_len (l := l); simp; omega
theorem binOf_len {ps : List Stp} {k : Nat} (hk : k < ps.length) : (ps.getD k stp0).2.length ≤ (binOf ps).length ∧ ps.length ≤ (binOf ps).length := by
  constructor
  · have := bin_room (j := (ps.getD k stp0).2.length) hk
    rw [List.take_length] at this
    have := lbs_len (ps.getD k stp0).2
    omega
  · clear hk
    induction ps with
    | nil => simp
    | cons p ps ih => rw [binOf_cons, List.length_append]; simp [stpBin]; omega
theorem getD_mem {xs : List Int} {j : Nat} (hj : j < xs.length) : xs.getD j 0 ∈ xs := by
  simp only [List.getD, List.getElem?_eq_getElem hj, Option.getD_some]; exact List.getElem_mem hj
theorem right_getD {ps : List Stp} (h : stpsRight ps = true) (k j : Nat) (hk : k < ps.length) (hj : j < (ps.getD k stp0).2.length) : isLit ((ps.getD k stp0).2.getD j 0) = true := by
  have h1 : ps.getD k stp0 ∈ ps := by simp [List.getD, hk]
  have h2 := stpRight_mem (stpsRight_mem h _ h1)
  exact h2 _ (getD_mem hj)

set_option maxRecDepth 100000 in
set_option maxHeartbeats 4000000 in
theorem binary_any (ps : List Stp) (B c : Nat) (A : Option Addr) (w : World) (h : Steps w B A ps) (hB : B ≤ w.heap.size) (hr : stpsRight ps = true) (hpl : ps.length ≤ 1099511627776) (hlen : (binOf ps).length ≤ 1099511627776) :
    Calls Tryd.prog 14 #[.slice A ps.length c] w (OwnBytes w.heap.size (binOf ps) w) := by
  obtain ⟨i0, hi, hz0, hz1, hz2⟩ := info_parts Tryd.infoByte
  have H := Lib.hid h
  have HR := Lib.hid hr
  have HL := Lib.hid hlen
  clear h hr hlen
  go_enter Tryd.func14, Tryd.ntmps14
  go_wp2
  go_loopg [3, 11] (ps.length + 1) (fun gk s i wr => ∃ (k : Nat) (A2 : Option Addr) (c2 : Nat), k ≤ ps.length ∧ gk = ps.length - k + 1 ∧ i = .int .i64 k ∧ s = .slice A2 (binOf (ps.take k)).length c2 ∧
    wr.ownsRow w.heap.size 5 1 (.slice A2 (binOf (ps.take k)).length c2) (binOf (ps.take k)).length (Lib.byteCells (binOf (ps.take k))) ∧ Below w.heap.size w wr)
  case atStart => exact ⟨0, none, 0, by omega, by omega, rfl, rfl, World.ownsRow_nil _ _ _ _, Below.refl _ _⟩
  case round =>
    obtain ⟨k, A2, c2, hk, rfl, rfl, rfl, hown, hb⟩ := hrel
    obtain ⟨wo, rfl⟩ : ∃ wo : World, wo = wr := ⟨_, rfl⟩
    by_cases hlt : k < ps.length
    · obtain ⟨b, off, Ak, ck, rfl, hbB, h1', h2', h3⟩ := H.out.at_ hlt
      have h1 := (hb.cell (p := ⟨b, off + k * 2, none⟩) (by simp; omega)).trans h1'
      have h2 := (hb.cell (p := ⟨b, off + k * 2 + 1, none⟩) (by simp; omega)).trans h2'
      clear h1' h2'
      have hroom := fun j => bin_room (j := j) hlt
      have hright := fun j => right_getD HR.out k j hlt
      have htk := binOf_take hlt
      have hsz := hb.size
      obtain ⟨⟨d, cs⟩, hp⟩ : ∃ p, p = ps.getD k stp0 := ⟨_, rfl⟩
      obtain ⟨ys, hys⟩ : ∃ ys, ys = binOf (ps.take k) := ⟨_, rfl⟩
      rw [← hp] at h1 h2 h3 htk
      simp only [← hp] at hroom hright
      rw [← hys] at hown htk ⊢
      simp only [← hys] at hroom
      clear hp hys
      have hly : ys.length ≤ 1099511627776 := by have := hroom 0; have := HL.out; omega
      have hlc : cs.length ≤ 1099511627776 := by
        have := hroom cs.length
        rw [List.take_length] at this
        have := lbs_len cs; have := HL.out; omega
      have HO := Lib.hid hown
      have HB0 := Lib.hid hb
      have HI := Lib.hid h3
      have HRM := Lib.hid hroom
      have HRT := Lib.hid hright
      have HTK := Lib.hid htk
      clear hown hb h3 hroom hright htk
      have hnB : w.heap.size ≤ wo.heap.size := hsz
      rcases d with _ | _
      · go_wp2_with (at_builtin; refine wpList_append1 _ rfl _ _ 28 rfl w.heap.size 5 i0 (.int .u8 0) 1 Tryd.underlying28 hi hz0 hz1 hz2 rfl _ _ _ rfl ((HO.out.alloc _).alloc _) (.int .u8 97) (wo.heap.size + 1) rfl (by go_cell) rfl (by unfold maxLen; omega) (by omega) (by simp; omega) ?_)
        intro v' w3 hown3 hg3 hob3
        obtain ⟨A3, c3, hv3, _⟩ := own_slice hown3
        subst hv3
        have hbk := blk_kept hg3 (HO.out.alloc _) (Blk.new _ _ _) (by decide)
        have C1 := hbk.cell 1
        simp at C1
        have HB3 := Lib.hid ((((HB0.out.alloc (by omega) _).alloc (by simp; omega) _).grown hg3 (by simp; omega) (fun g hg => (HO.out.lt g hg).1)))
        have hown4 : w3.ownsRow w.heap.size 5 1 (.slice A3 (ys ++ [mark false]).length c3) (ys ++ [mark false]).length (Lib.byteCells (ys ++ [mark false])) := by
          rw [byteCells_append, byteCells_one, List.length_append]; exact hown3
        have hs3 : wo.heap.size + 2 ≤ w3.heap.size := by have := hg3.size; simpa using this
        have hl4 : (ys ++ [mark false]).length = ys.length + 1 := by simp
        have HL4 := Lib.hid hl4
        rw [hl4] at hown4
        have HO4 := Lib.hid hown4
        clear hown3 hg3 hob3 hbk hown4 hl4
        go_wp2
        clear C1
        have HZ0 : Hid (Lib.byteCells (ys ++ [mark false]) = Lib.byteCells (ys ++ mark false :: lbs (cs.take 0))) := Lib.hid rfl
        go_loopg [3, 24] (cs.length + 1) (fun gk s i wr => ∃ (j : Nat) (A4 : Option Addr) (c4 : Nat), j ≤ cs.length ∧ gk = cs.length - j + 1 ∧ i = .int .i64 j ∧ s = .slice A4 (ys ++ mark false :: lbs (cs.take j)).length c4 ∧
          wr.ownsRow w.heap.size 5 1 (.slice A4 (ys ++ mark false :: lbs (cs.take j)).length c4) (ys ++ mark false :: lbs (cs.take j)).length (Lib.byteCells (ys ++ mark false :: lbs (cs.take j))) ∧ Below w.heap.size w wr)
        case atStart =>
          have e : (ys ++ mark false :: lbs (cs.take 0)).length = ys.length + 1 := by simp [lbs]
          refine ⟨0, A3, c3, by omega, by omega, rfl, by rw [e], ?_, HB3.out⟩
          rw [e, ← HZ0.out]; exact HO4.out
        case round =>
          obtain ⟨j, A4, c4, hj, rfl, rfl, rfl, hown5, hb5⟩ := hrel
          obtain ⟨wi, rfl⟩ : ∃ wi : World, wi = wr := ⟨_, rfl⟩
          have hrm := HRM.out j
          have hlj : (ys ++ mark false :: lbs (cs.take j)).length = ys.length + 1 + (lbs (cs.take j)).length := by simp; omega
          have hcl := congrArg List.length (lbs_split_at cs j)
          rw [List.length_append] at hcl
          have htot := HL.out
          by_cases hjl : j < cs.length
          · obtain ⟨b2, off2, rfl, hb2B, hcj⟩ := (HI.out.below (hb5.mono hB)).at_ hjl
            have hlit := HRT.out j hjl
            have htj := lbs_take hjl
            obtain ⟨l, hl⟩ : ∃ l, l = cs.getD j 0 := ⟨_, rfl⟩
            rw [← hl] at hcj hlit htj
            have hn := litNum_pos hlit
            have hlb := isLit_iff.1 hlit
            obtain ⟨zs, hzs⟩ : ∃ zs, zs = ys ++ mark false :: lbs (cs.take j) := ⟨_, rfl⟩
            rw [← hzs] at hown5 hlj ⊢
            have HTJ := Lib.hid htj
            have HZS := Lib.hid hzs
            have NA := Lib.hid (numberOf_any l wi (by omega) (by omega))
            obtain ⟨N, hN⟩ : ∃ N : Nat, litNum l = N := ⟨(litNum l).toNat, by omega⟩
            rw [hN] at NA hn
            have hlbl : lb l = nb N := by unfold lb; rw [hN]; simp
            have HLB := Lib.hid hlbl
            have AA := Lib.hid (appendNumber_any N w.heap.size c4 A4 zs wi (by omega) hown5 hb5.size (by omega))
            have HB5 := Lib.hid hb5
            clear hl hlit htj hzs hN hlbl hown5 hrm hcl htot hlb hlj hn
            go_wp2_with (go_at_call 29; refine NA.out.mono ?_; rintro e w' ⟨rfl, rfl⟩)
            refine AA.out.mono ?_
            rintro e w6 ⟨A6, c6, rfl, hown6, hb6⟩
            have HO6 := Lib.hid hown6
            have HB6 := Lib.hid (HB5.out.trans hb6)
            clear hown6 hb6 hcj AA NA
            go_wp2
            go_roundg (cs.length - j)
            case measure => omega
            case rel =>
              have e : ys ++ mark false :: lbs (cs.take (j + 1)) = zs ++ nb N := by rw [HTJ.out, HZS.out, HLB.out]; simp
              refine ⟨j + 1, A6, c6, by omega, by omega, by go_num, by rw [e, List.length_append], ?_, HB6.out⟩
              rw [e]; exact HO6.out
          · have htj : cs.take j = cs := List.take_of_length_le (by omega)
            have hrj := HRM.out j
            rw [htj] at hown5 hlj hrj ⊢
            obtain ⟨zs, hzs⟩ : ∃ zs, zs = ys ++ mark false :: lbs cs := ⟨_, rfl⟩
            rw [← hzs] at hown5 hlj ⊢
            have hzl : zs.length ≤ 1099511627776 := by omega
            have HZS := Lib.hid hzs
            have HO5 := Lib.hid hown5
            have HB5 := Lib.hid hb5
            have hs5 := hb5.size
            clear htj hzs hown5 hb5 hrm hcl htot hlj hrj
            go_wp2_with (at_builtin; refine wpList_append1 _ rfl _ _ 28 rfl w.heap.size 5 i0 (.int .u8 0) 1 Tryd.underlying28 hi hz0 hz1 hz2 rfl _ _ _ rfl (HO5.out.alloc _) (.int .u8 0) wi.heap.size rfl (by go_cell) rfl (by unfold maxLen; omega) (by omega) (by simp; omega) ?_)
            intro v' w7 hown7 hg7 hob7
            obtain ⟨A7, c7, hv7, _⟩ := own_slice hown7
            subst hv7
            have HB7 := Lib.hid ((HB5.out.alloc (by omega) _).grown hg7 (by simp; omega) (fun g hg => (HO5.out.lt g hg).1))
            have HO7 := Lib.hid hown7
            clear hown7 hg7 hob7
            go_wp2
            go_roundg (ps.length - k)
            case measure => omega
            case rel =>
              have e : binOf (ps.take (k + 1)) = zs ++ [0] := by rw [HTK.out, HZS.out]; simp [stpBin]
              have h7 := HO7.out
              refine ⟨k + 1, A7, c7, by omega, by omega, by go_num, ?_, ?_, HB7.out⟩
              · rw [e]; simp
              · rw [e, byteCells_append, byteCells_one]; simpa using h7
      · go_wp2_with (at_builtin; refine wpList_append1 _ rfl _ _ 28 rfl w.heap.size 5 i0 (.int .u8 0) 1 Tryd.underlying28 hi hz0 hz1 hz2 rfl _ _ _ rfl ((HO.out.alloc _).alloc _) (.int .u8 100) (wo.heap.size + 1) rfl (by go_cell) rfl (by unfold maxLen; omega) (by omega) (by simp; omega) ?_)
        intro v' w3 hown3 hg3 hob3
        obtain ⟨A3, c3, hv3, _⟩ := own_slice hown3
        subst hv3
        have hbk := blk_kept hg3 (HO.out.alloc _) (Blk.new _ _ _) (by decide)
        have C1 := hbk.cell 1
        simp at C1
        have HB3 := Lib.hid ((((HB0.out.alloc (by omega) _).alloc (by simp; omega) _).grown hg3 (by simp; omega) (fun g hg => (HO.out.lt g hg).1)))
        have hown4 : w3.ownsRow w.heap.size 5 1 (.slice A3 (ys ++ [mark true]).length c3) (ys ++ [mark true]).length (Lib.byteCells (ys ++ [mark true])) := by
          rw [byteCells_append, byteCells_one, List.length_append]; exact hown3
        have hs3 : wo.heap.size + 2 ≤ w3.heap.size := by have := hg3.size; simpa using this
        have hl4 : (ys ++ [mark true]).length = ys.length + 1 := by simp
        have HL4 := Lib.hid hl4
        rw [hl4] at hown4
        have HO4 := Lib.hid hown4
        clear hown3 hg3 hob3 hbk hown4 hl4
        go_wp2
        clear C1
        have HZ0 : Hid (Lib.byteCells (ys ++ [mark true]) = Lib.byteCells (ys ++ mark true :: lbs (cs.take 0))) := Lib.hid rfl
        go_loopg [3, 24] (cs.length + 1) (fun gk s i wr => ∃ (j : Nat) (A4 : Option Addr) (c4 : Nat), j ≤ cs.length ∧ gk = cs.length - j + 1 ∧ i = .int .i64 j ∧ s = .slice A4 (ys ++ mark true :: lbs (cs.take j)).length c4 ∧
          wr.ownsRow w.heap.size 5 1 (.slice A4 (ys ++ mark true :: lbs (cs.take j)).length c4) (ys ++ mark true :: lbs (cs.take j)).length (Lib.byteCells (ys ++ mark true :: lbs (cs.take j))) ∧ Below w.heap.size w wr)
        case atStart =>
          have e : (ys ++ mark true :: lbs (cs.take 0)).length = ys.length + 1 := by simp [lbs]
          refine ⟨0, A3, c3, by omega, by omega, rfl, by rw [e], ?_, HB3.out⟩
          rw [e, ← HZ0.out]; exact HO4.out
        case round =>
          obtain ⟨j, A4, c4, hj, rfl, rfl, rfl, hown5, hb5⟩ := hrel
          obtain ⟨wi, rfl⟩ : ∃ wi : World, wi = wr := ⟨_, rfl⟩
          have hrm := HRM.out j
          have hlj : (ys ++ mark true :: lbs (cs.take j)).length = ys.length + 1 + (lbs (cs.take j)).length := by simp; omega
          have hcl := congrArg List.length (lbs_split_at cs j)
          rw [List.length_append] at hcl
          have htot := HL.out
          by_cases hjl : j < cs.length
          · obtain ⟨b2, off2, rfl, hb2B, hcj⟩ := (HI.out.below (hb5.mono hB)).at_ hjl
            have hlit := HRT.out j hjl
            have htj := lbs_take hjl
            obtain ⟨l, hl⟩ : ∃ l, l = cs.getD j 0 := ⟨_, rfl⟩
            rw [← hl] at hcj hlit htj
            have hn := litNum_pos hlit
            have hlb := isLit_iff.1 hlit
            obtain ⟨zs, hzs⟩ : ∃ zs, zs = ys ++ mark true :: lbs (cs.take j) := ⟨_, rfl⟩
            rw [← hzs] at hown5 hlj ⊢
            have HTJ := Lib.hid htj
            have HZS := Lib.hid hzs
            have NA := Lib.hid (numberOf_any l wi (by omega) (by omega))
            obtain ⟨N, hN⟩ : ∃ N : Nat, litNum l = N := ⟨(litNum l).toNat, by omega⟩
            rw [hN] at NA hn
            have hlbl : lb l = nb N := by unfold lb; rw [hN]; simp
            have HLB := Lib.hid hlbl
            have AA := Lib.hid (appendNumber_any N w.heap.size c4 A4 zs wi (by omega) hown5 hb5.size (by omega))
            have HB5 := Lib.hid hb5
            clear hl hlit htj hzs hN hlbl hown5 hrm hcl htot hlb hlj hn
            go_wp2_with (go_at_call 29; refine NA.out.mono ?_; rintro e w' ⟨rfl, rfl⟩)
            refine AA.out.mono ?_
            rintro e w6 ⟨A6, c6, rfl, hown6, hb6⟩
            have HO6 := Lib.hid hown6
            have HB6 := Lib.hid (HB5.out.trans hb6)
            clear hown6 hb6 hcj AA NA
            go_wp2
            go_roundg (cs.length - j)
            case measure => omega
            case rel =>
              have e : ys ++ mark true :: lbs (cs.take (j + 1)) = zs ++ nb N := by rw [HTJ.out, HZS.out, HLB.out]; simp
              refine ⟨j + 1, A6, c6, by omega, by omega, by go_num, by rw [e, List.length_append], ?_, HB6.out⟩
              rw [e]; exact HO6.out
          · have htj : cs.take j = cs := List.take_of_length_le (by omega)
            have hrj := HRM.out j
            rw [htj] at hown5 hlj hrj ⊢
            obtain ⟨zs, hzs⟩ : ∃ zs, zs = ys ++ mark true :: lbs cs := ⟨_, rfl⟩
            rw [← hzs] at hown5 hlj ⊢
            have hzl : zs.length ≤ 1099511627776 := by omega
            have HZS := Lib.hid hzs
            have HO5 := Lib.hid hown5
            have HB5 := Lib.hid hb5
            have hs5 := hb5.size
            clear htj hzs hown5 hb5 hrm hcl htot hlj hrj
            go_wp2_with (at_builtin; refine wpList_append1 _ rfl _ _ 28 rfl w.heap.size 5 i0 (.int .u8 0) 1 Tryd.underlying28 hi hz0 hz1 hz2 rfl _ _ _ rfl (HO5.out.alloc _) (.int .u8 0) wi.heap.size rfl (by go_cell) rfl (by unfold maxLen; omega) (by omega) (by simp; omega) ?_)
            intro v' w7 hown7 hg7 hob7
            obtain ⟨A7, c7, hv7, _⟩ := own_slice hown7
            subst hv7
            have HB7 := Lib.hid ((HB5.out.alloc (by omega) _).grown hg7 (by simp; omega) (fun g hg => (HO5.out.lt g hg).1))
            have HO7 := Lib.hid hown7
            clear hown7 hg7 hob7
            go_wp2
            go_roundg (ps.length - k)
            case measure => omega
            case rel =>
              have e : binOf (ps.take (k + 1)) = zs ++ [0] := by rw [HTK.out, HZS.out]; simp [stpBin]
              have h7 := HO7.out
              refine ⟨k + 1, A7, c7, by omega, by omega, by go_num, ?_, ?_, HB7.out⟩
              · rw [e]; simp
              · rw [e, byteCells_append, byteCells_one]; simpa using h7
    · have htk : ps.take k = ps := List.take_of_length_le (by omega)
      rw [htk] at hown
      have HO := Lib.hid hown
      have HB0 := Lib.hid hb
      have HTK := Lib.hid htk
      clear hown hb htk
      go_wp2
      go_ret
      refine ⟨A2, c2, ?_, HO.out, HB0.out⟩
      show Ending.returned (.slice A2 (binOf (ps.take k)).length c2) = _
      rw [HTK.out]
end Go.Proofs.YtdehlikmefpgnaaDoor
