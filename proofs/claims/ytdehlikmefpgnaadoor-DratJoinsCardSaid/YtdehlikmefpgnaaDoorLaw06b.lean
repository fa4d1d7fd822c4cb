/- What the sixth layer's statements themselves reckon: a proof's bytes. -/
import Derived.Test.YtdehlikmefpgnaaDoorLaw06a
import Derived.Laws.IdiomStrings
import Derived.Lib.BufferRead
namespace Go.Proofs.YtdehlikmefpgnaaDoor
open Go.RowKit
set_option linter.unusedSimpArgs false
set_option linter.unusedVariables false
set_option linter.unnecessarySimpa false

/-- 'string(b)' of bytes that read as a list -/
theorem run_bytes_string {w : World} {B : Nat} {A : Option Addr} {bs : List UInt8} (h : Bytes w B A bs) (c : Nat) : (convert 28 9 (.slice A bs.length c)).run Tryd.prog w = .ok (.string ⟨bs.toArray⟩) w := by
  by_cases h0 : 0 < bs.length
  · obtain ⟨b, off, rfl, _, _⟩ := h.at_ h0
    refine run_convert_bytes_back w 28 9 5 ⟨b, off, none⟩ c bs Tryd.underlying28 Tryd.underlying5 Tryd.underlying9 (fun j hj => ?_)
    obtain ⟨b', off', e, _, hc⟩ := h.at_ hj
    injection e with e
    injection e with e1 e2 _
    subst e1 e2
    rw [Lib.add_plain b off j, hc]
    simp [List.getD, hj]
  · have hb : bs = [] := List.eq_nil_of_length_eq_zero (by omega)
    subst hb
    cases A with
    | none => exact Lib.run_convert_nil_bytes w 28 9 5 c Tryd.underlying28 Tryd.underlying5 Tryd.underlying9
    | some a => exact run_convert_bytes_back w 28 9 5 a c [] Tryd.underlying28 Tryd.underlying5 Tryd.underlying9 (fun j hj => absurd hj (by simp))
/-- of one byte, just laid -/
theorem run_byte_string (w : World) (n : Nat) (hn : n < 256) (i : Int) (hi : i = n) : (convert 28 9 (.slice (some ⟨w.heap.size, 0, none⟩) 1 1)).run Tryd.prog (w.alloc (.cells #[.int .u8 i] 5)) = .ok (.string ⟨[UInt8.ofNat n].toArray⟩) (w.alloc (.cells #[.int .u8 i] 5)) := by
  have hb : Bytes (w.alloc (.cells #[.int .u8 i] 5)) (w.heap.size + 1) (some ⟨w.heap.size, 0, none⟩) [UInt8.ofNat n] := fun _ => by
    refine ⟨w.heap.size, 0, rfl, by omega, fun j hj => ?_⟩
    have : j = 0 := by simp at hj; omega
    subst this
    rw [hi]
    have := (Blk.new w 5 #[.int .u8 (n : Int)]).cell 0
    rw [Nat.zero_add]
    rw [this]
    simp [List.getD, u8_low hn]
  exact run_bytes_string hb 1
theorem bin_take_le (ps : List Stp) (k : Nat) : (binOf (ps.take k)).length ≤ (binOf ps).length := by
  conv => rhs; rw [binOf_split_at ps k]
  simp
theorem lbs_take_le (c : List Int) (k : Nat) : (lbs (c.take k)).length ≤ (lbs c).length := by
  conv => rhs; rw [lbs_split_at c k]
  simp
theorem lbs_le {ps : List Stp} {k : Nat} (hk : k < ps.length) : (lbs (ps.getD k stp0).2).length ≤ (binOf ps).length := by
  have h1 := bin_take_le ps (k + 1)
  rw [binOf_take hk] at h1
  unfold stpBin at h1
  simp at h1 ⊢
  omega
theorem bin_lens {ps : List Stp} : ps.length ≤ (binOf ps).length ∧ ∀ j, (ps.getD j stp0).2.length ≤ (binOf ps).length := by
  refine ⟨?_, fun j => ?_⟩
  · induction ps with
    | nil => simp
    | cons p ps ih => rw [binOf_cons, List.length_append]; simp [stpBin]; omega
  · by_cases hj : j < ps.length
    · have := lbs_le hj
      have h2 := lbs_len (ps.getD j stp0).2
      omega
    · simp only [List.getD, List.getElem?_eq_none (Nat.le_of_not_lt hj), Option.getD_none]; exact Nat.zero_le _

set_option maxRecDepth 100000 in
set_option maxHeartbeats 4000000 in
theorem binary6_any (ps : List Stp) (B c : Nat) (A : Option Addr) (w : World) (h : Steps w B A ps) (hB : B ≤ w.heap.size) (hr : stpsRight ps = true) (hlen : (binOf ps).length ≤ 100000) :
    Calls Tryd.prog 18 #[.slice A ps.length c] w fun e w' => e = .returned (.string ⟨(binOf ps).toArray⟩) ∧ Below w.heap.size w w' := by
  have H := Lib.hid h
  have HR := Lib.hid hr
  have hpl : ps.length ≤ 100000 := by have := (bin_lens (ps := ps)).1; omega
  have HL := Lib.hid (show ∀ j, (ps.getD j stp0).2.length ≤ 100000 from fun j => by have := (bin_lens (ps := ps)).2 j; omega)
  have HT := Lib.hid (show ∀ k, (binOf (ps.take k)).length ≤ 100000 from fun k => by have := bin_take_le ps k; omega)
  have HW := Lib.hid (show ∀ k j, k < ps.length → (lbs ((ps.getD k stp0).2.take j)).length ≤ 100000 from fun k j hk => by
    have h1 := lbs_take_le (ps.getD k stp0).2 j
    have h2 := lbs_le hk
    omega)
  clear h hr hlen
  go_enter Tryd.func18, Tryd.ntmps18
  go_wp2
  go_loopg [3, 11] (ps.length + 1) (fun gk s i wr => ∃ k : Nat, k ≤ ps.length ∧ gk = ps.length - k + 1 ∧ i = .int .i64 k ∧ s = .string ⟨(binOf (ps.take k)).toArray⟩ ∧ Below w.heap.size w wr)
  case atStart => exact ⟨0, by omega, by omega, rfl, rfl, Below.refl _ _⟩
  case round =>
    obtain ⟨k, hk, rfl, rfl, rfl, hb⟩ := hrel
    obtain ⟨wo, rfl⟩ : ∃ wo : World, wo = wr := ⟨_, rfl⟩
    have HBk := Lib.hid hb
    have hso := hb.size
    clear hb
    by_cases hlt : k < ps.length
    · obtain ⟨b, off, Ak, ck, rfl, hbB, hd, hcell, hint⟩ := (H.out.below (HBk.out.mono hB)).at_ hlt
      have hxl := HL.out k
      have htk := binOf_take hlt
      have hlk := HT.out k
      have hwk := fun j => HW.out k j hlt
      have hrk := fun j hj => right_getD HR.out k j hlt hj
      obtain ⟨⟨d, ls⟩, hs⟩ : ∃ s, s = ps.getD k stp0 := ⟨_, rfl⟩
      rw [← hs] at hd hcell hint hxl htk hwk hrk
      clear hs
      simp only at hd hcell hint hxl hwk hrk
      have htk2 : binOf (ps.take (k + 1)) = ((binOf (ps.take k) ++ [mark d]) ++ lbs ls) ++ [0] := by rw [htk]; simp [stpBin]
      generalize binOf (ps.take k) = ta at htk2 hlk
      have HTK := Lib.hid htk2
      have HWK := Lib.hid hwk
      have HRK := Lib.hid hrk
      have hb2 := HBk.out.alloc (by omega) (.cells #[.bool d, .slice Ak ls.length ck] 42)
      have HB2 := Lib.hid hb2
      have HIN := Lib.hid (Cells.alloc hint (by omega) (.cells #[.bool d, .slice Ak ls.length ck] 42))
      clear htk htk2 hwk hrk hint hb2
      cases d with
      | true =>
        have q0 := add_str (P := Tryd.prog) ta [100] (ta ++ [mark true]) rfl (by omega) (by decide)
        go_wp2
        obtain ⟨w5, hw5⟩ : ∃ w5, w5 = wo.alloc (.cells #[.bool true, .slice Ak ls.length ck] 42) := ⟨_, rfl⟩
        rw [← hw5] at HB2 HIN ⊢
        clear hw5 hd hcell q0
        generalize hta2 : ta ++ [mark true] = ta2 at HTK
        have hl2 : ta2.length ≤ 100002 := by rw [← hta2, List.length_append]; simp; omega
        clear hta2
        go_loopg [3, 24] (ls.length + 1) (fun gk s i wr => ∃ j : Nat, j ≤ ls.length ∧ gk = ls.length - j + 1 ∧ i = .int .i64 j ∧ s = .string ⟨(ta2 ++ lbs (ls.take j)).toArray⟩ ∧ Below w.heap.size w wr ∧ Below w5.heap.size w5 wr)
        case atStart => exact ⟨0, by omega, by omega, rfl, by simp [lbs], HB2.out, Below.refl _ _⟩
        case round =>
          obtain ⟨j, hj, rfl, rfl, rfl, hbb, hb5⟩ := hrel
          obtain ⟨wi, rfl⟩ : ∃ wi : World, wi = wr := ⟨_, rfl⟩
          have HBBj := Lib.hid hbb
          have HB5j := Lib.hid hb5
          have hrj := HWK.out j
          have hrj1 := HWK.out (j + 1)
          have hsi := hbb.size
          have hsi5 := hb5.size
          clear hbb hb5
          by_cases hlj : j < ls.length
          · obtain ⟨b2, off2, rfl, hb2, hcj1⟩ := HIN.out.at_ hlj
            have hcj := (HB5j.out.cell (p := ⟨b2, off2 + j, none⟩) (by have := HB2.out.size; simp; omega)).trans hcj1
            have hlit := HRK.out j hlj
            have hlt1 := lbs_take hlj
            obtain ⟨l, hl⟩ : ∃ l, l = ls.getD j 0 := ⟨_, rfl⟩
            rw [← hl] at hcj hlt1 hlit
            have hnp := litNum_pos hlit
            rw [isLit_iff] at hlit
            obtain ⟨N, hN⟩ : ∃ N : Nat, N = (litNum l).toNat := ⟨_, rfl⟩
            have hNN : (N : Int) = 2 * litVar l + (if l < 0 then 1 else 0) := by rw [hN]; unfold litNum at hnp ⊢; omega
            have hN2 : N ≤ 200001 := by omega
            unfold lb at hlt1
            rw [← hN] at hlt1
            have htg : ta2 ++ lbs (ls.take (j + 1)) = (ta2 ++ lbs (ls.take j)) ++ nb N := by rw [hlt1]; simp
            have htl : (ta2 ++ lbs (ls.take (j + 1))).length ≤ 200002 := by rw [List.length_append]; omega
            generalize hTGT : ta2 ++ lbs (ls.take (j + 1)) = tgt at htg htl
            generalize ta2 ++ lbs (ls.take j) = tb at htg
            unfold litVar at hNN
            have HTG := Lib.hid htg
            have HTGT := Lib.hid hTGT
            clear hTGT
            clear hl hlt1 hcj1 hnp hN htg
            rcases Int.lt_or_le l 0 with hneg | hneg
            · rw [if_pos hneg] at hNN
              have hv : (N : Int) = -2 * l + 1 := by split at hNN <;> omega
              have HV := Lib.hid hv
              clear hNN hv
              go_wp2
              clear hcj
              go_loopg [3, 8] (N + 1) (fun gk s i wr => ∃ (t : List UInt8) (M : Nat), gk = M + 1 ∧ s = .string ⟨t.toArray⟩ ∧ i = .int .i64 M ∧ M ≤ 200001 ∧ tgt = t ++ nb M ∧ Below w.heap.size w wr ∧ Below w5.heap.size w5 wr)
              case atStart => exact ⟨tb, N, rfl, rfl, by rw [HV.out], hN2, HTG.out, HBBj.out, HB5j.out⟩
              case round =>
                obtain ⟨t, M, rfl, rfl, rfl, hM, htg, hbb, hb5⟩ := hrel
                obtain ⟨wx, rfl⟩ : ∃ wx : World, wx = wr := ⟨_, rfl⟩
                have HBX := Lib.hid hbb
                have HB5X := Lib.hid hb5
                have HTX := Lib.hid htg
                have hsx := hbb.size
                have hsx5 := hb5.size
                have htl2 : t.length ≤ 200002 := by
                  have := congrArg List.length htg
                  rw [List.length_append] at this
                  omega
                clear hbb hb5 htg
                by_cases hlow : M < 128
                · have q1 := run_byte_string wx M (by omega) M rfl
                  have q2 := add_str (P := Tryd.prog) t [UInt8.ofNat M] (t ++ nb M) (by rw [nb_low hlow]) (by omega) (by simp)
                  rw [← HTX.out] at q2
                  go_wp2
                  go_roundg (ls.length - j)
                  case measure => omega
                  case rel => exact ⟨j + 1, by omega, by omega, by go_num, by rw [HTGT.out], HBX.out.alloc (by omega) _, HB5X.out.alloc (by omega) _⟩
                · have q1 := run_byte_string wx (M % 128 + 128) (by omega) ((M : Int) % 128 + 128) (by push_cast; rfl)
                  obtain ⟨y, hy⟩ : ∃ y, y = UInt8.ofNat (M % 128 + 128) := ⟨_, rfl⟩
                  rw [← hy] at q1
                  have q2 := add_str (P := Tryd.prog) t [y] (t ++ [y]) rfl (by omega) (by simp)
                  have htx := HTX.out
                  rw [nb_high hlow, ← hy] at htx
                  have HTX2 := Lib.hid htx
                  clear htx hy
                  go_wp2
                  go_roundg (M / 128 + 1)
                  case measure => omega
                  case rel => exact ⟨t ++ [y], M / 128, rfl, rfl, by go_num, by omega, by rw [HTX2.out]; simp, HBX.out.alloc (by omega) _, HB5X.out.alloc (by omega) _⟩
            · rw [if_neg (by omega)] at hNN
              have hv : (N : Int) = 2 * l := by split at hNN <;> omega
              have HV := Lib.hid hv
              clear hNN hv
              go_wp2
              clear hcj
              go_loopg [3, 8] (N + 1) (fun gk s i wr => ∃ (t : List UInt8) (M : Nat), gk = M + 1 ∧ s = .string ⟨t.toArray⟩ ∧ i = .int .i64 M ∧ M ≤ 200001 ∧ tgt = t ++ nb M ∧ Below w.heap.size w wr ∧ Below w5.heap.size w5 wr)
              case atStart => exact ⟨tb, N, rfl, rfl, by rw [HV.out], hN2, HTG.out, HBBj.out, HB5j.out⟩
              case round =>
                obtain ⟨t, M, rfl, rfl, rfl, hM, htg, hbb, hb5⟩ := hrel
                obtain ⟨wx, rfl⟩ : ∃ wx : World, wx = wr := ⟨_, rfl⟩
                have HBX := Lib.hid hbb
                have HB5X := Lib.hid hb5
                have HTX := Lib.hid htg
                have hsx := hbb.size
                have hsx5 := hb5.size
                have htl2 : t.length ≤ 200002 := by
                  have := congrArg List.length htg
                  rw [List.length_append] at this
                  omega
                clear hbb hb5 htg
                by_cases hlow : M < 128
                · have q1 := run_byte_string wx M (by omega) M rfl
                  have q2 := add_str (P := Tryd.prog) t [UInt8.ofNat M] (t ++ nb M) (by rw [nb_low hlow]) (by omega) (by simp)
                  rw [← HTX.out] at q2
                  go_wp2
                  go_roundg (ls.length - j)
                  case measure => omega
                  case rel => exact ⟨j + 1, by omega, by omega, by go_num, by rw [HTGT.out], HBX.out.alloc (by omega) _, HB5X.out.alloc (by omega) _⟩
                · have q1 := run_byte_string wx (M % 128 + 128) (by omega) ((M : Int) % 128 + 128) (by push_cast; rfl)
                  obtain ⟨y, hy⟩ : ∃ y, y = UInt8.ofNat (M % 128 + 128) := ⟨_, rfl⟩
                  rw [← hy] at q1
                  have q2 := add_str (P := Tryd.prog) t [y] (t ++ [y]) rfl (by omega) (by simp)
                  have htx := HTX.out
                  rw [nb_high hlow, ← hy] at htx
                  have HTX2 := Lib.hid htx
                  clear htx hy
                  go_wp2
                  go_roundg (M / 128 + 1)
                  case measure => omega
                  case rel => exact ⟨t ++ [y], M / 128, rfl, rfl, by go_num, by omega, by rw [HTX2.out]; simp, HBX.out.alloc (by omega) _, HB5X.out.alloc (by omega) _⟩
          · have htkj : ls.take j = ls := List.take_of_length_le (by omega)
            rw [htkj] at hrj ⊢
            have q3 := add_str (P := Tryd.prog) (ta2 ++ lbs ls) [0] ((ta2 ++ lbs ls) ++ [0]) rfl (by rw [List.length_append]; omega) (by decide)
            have htb := HTK.out
            generalize (ta2 ++ lbs ls) ++ [0] = tc at q3 htb
            generalize ta2 ++ lbs ls = tb at q3
            have HTB := Lib.hid htb
            clear htkj hrj hrj1 htb
            go_wp2
            go_roundg (ps.length - k)
            case measure => omega
            case rel => exact ⟨k + 1, by omega, by omega, by go_num, by rw [HTB.out], HBBj.out⟩
      | false =>
        have q0 := add_str (P := Tryd.prog) ta [97] (ta ++ [mark false]) rfl (by omega) (by decide)
        go_wp2
        obtain ⟨w5, hw5⟩ : ∃ w5, w5 = wo.alloc (.cells #[.bool false, .slice Ak ls.length ck] 42) := ⟨_, rfl⟩
        rw [← hw5] at HB2 HIN ⊢
        clear hw5 hd hcell q0
        generalize hta2 : ta ++ [mark false] = ta2 at HTK
        have hl2 : ta2.length ≤ 100002 := by rw [← hta2, List.length_append]; simp; omega
        clear hta2
        go_loopg [3, 24] (ls.length + 1) (fun gk s i wr => ∃ j : Nat, j ≤ ls.length ∧ gk = ls.length - j + 1 ∧ i = .int .i64 j ∧ s = .string ⟨(ta2 ++ lbs (ls.take j)).toArray⟩ ∧ Below w.heap.size w wr ∧ Below w5.heap.size w5 wr)
        case atStart => exact ⟨0, by omega, by omega, rfl, by simp [lbs], HB2.out, Below.refl _ _⟩
        case round =>
          obtain ⟨j, hj, rfl, rfl, rfl, hbb, hb5⟩ := hrel
          obtain ⟨wi, rfl⟩ : ∃ wi : World, wi = wr := ⟨_, rfl⟩
          have HBBj := Lib.hid hbb
          have HB5j := Lib.hid hb5
          have hrj := HWK.out j
          have hrj1 := HWK.out (j + 1)
          have hsi := hbb.size
          have hsi5 := hb5.size
          clear hbb hb5
          by_cases hlj : j < ls.length
          · obtain ⟨b2, off2, rfl, hb2, hcj1⟩ := HIN.out.at_ hlj
            have hcj := (HB5j.out.cell (p := ⟨b2, off2 + j, none⟩) (by have := HB2.out.size; simp; omega)).trans hcj1
            have hlit := HRK.out j hlj
            have hlt1 := lbs_take hlj
            obtain ⟨l, hl⟩ : ∃ l, l = ls.getD j 0 := ⟨_, rfl⟩
            rw [← hl] at hcj hlt1 hlit
            have hnp := litNum_pos hlit
            rw [isLit_iff] at hlit
            obtain ⟨N, hN⟩ : ∃ N : Nat, N = (litNum l).toNat := ⟨_, rfl⟩
            have hNN : (N : Int) = 2 * litVar l + (if l < 0 then 1 else 0) := by rw [hN]; unfold litNum at hnp ⊢; omega
            have hN2 : N ≤ 200001 := by omega
            unfold lb at hlt1
            rw [← hN] at hlt1
            have htg : ta2 ++ lbs (ls.take (j + 1)) = (ta2 ++ lbs (ls.take j)) ++ nb N := by rw [hlt1]; simp
            have htl : (ta2 ++ lbs (ls.take (j + 1))).length ≤ 200002 := by rw [List.length_append]; omega
            generalize hTGT : ta2 ++ lbs (ls.take (j + 1)) = tgt at htg htl
            generalize ta2 ++ lbs (ls.take j) = tb at htg
            unfold litVar at hNN
            have HTG := Lib.hid htg
            have HTGT := Lib.hid hTGT
            clear hTGT
            clear hl hlt1 hcj1 hnp hN htg
            rcases Int.lt_or_le l 0 with hneg | hneg
            · rw [if_pos hneg] at hNN
              have hv : (N : Int) = -2 * l + 1 := by split at hNN <;> omega
              have HV := Lib.hid hv
              clear hNN hv
              go_wp2
              clear hcj
              go_loopg [3, 8] (N + 1) (fun gk s i wr => ∃ (t : List UInt8) (M : Nat), gk = M + 1 ∧ s = .string ⟨t.toArray⟩ ∧ i = .int .i64 M ∧ M ≤ 200001 ∧ tgt = t ++ nb M ∧ Below w.heap.size w wr ∧ Below w5.heap.size w5 wr)
              case atStart => exact ⟨tb, N, rfl, rfl, by rw [HV.out], hN2, HTG.out, HBBj.out, HB5j.out⟩
              case round =>
                obtain ⟨t, M, rfl, rfl, rfl, hM, htg, hbb, hb5⟩ := hrel
                obtain ⟨wx, rfl⟩ : ∃ wx : World, wx = wr := ⟨_, rfl⟩
                have HBX := Lib.hid hbb
                have HB5X := Lib.hid hb5
                have HTX := Lib.hid htg
                have hsx := hbb.size
                have hsx5 := hb5.size
                have htl2 : t.length ≤ 200002 := by
                  have := congrArg List.length htg
                  rw [List.length_append] at this
                  omega
                clear hbb hb5 htg
                by_cases hlow : M < 128
                · have q1 := run_byte_string wx M (by omega) M rfl
                  have q2 := add_str (P := Tryd.prog) t [UInt8.ofNat M] (t ++ nb M) (by rw [nb_low hlow]) (by omega) (by simp)
                  rw [← HTX.out] at q2
                  go_wp2
                  go_roundg (ls.length - j)
                  case measure => omega
                  case rel => exact ⟨j + 1, by omega, by omega, by go_num, by rw [HTGT.out], HBX.out.alloc (by omega) _, HB5X.out.alloc (by omega) _⟩
                · have q1 := run_byte_string wx (M % 128 + 128) (by omega) ((M : Int) % 128 + 128) (by push_cast; rfl)
                  obtain ⟨y, hy⟩ : ∃ y, y = UInt8.ofNat (M % 128 + 128) := ⟨_, rfl⟩
                  rw [← hy] at q1
                  have q2 := add_str (P := Tryd.prog) t [y] (t ++ [y]) rfl (by omega) (by simp)
                  have htx := HTX.out
                  rw [nb_high hlow, ← hy] at htx
                  have HTX2 := Lib.hid htx
                  clear htx hy
                  go_wp2
                  go_roundg (M / 128 + 1)
                  case measure => omega
                  case rel => exact ⟨t ++ [y], M / 128, rfl, rfl, by go_num, by omega, by rw [HTX2.out]; simp, HBX.out.alloc (by omega) _, HB5X.out.alloc (by omega) _⟩
            · rw [if_neg (by omega)] at hNN
              have hv : (N : Int) = 2 * l := by split at hNN <;> omega
              have HV := Lib.hid hv
              clear hNN hv
              go_wp2
              clear hcj
              go_loopg [3, 8] (N + 1) (fun gk s i wr => ∃ (t : List UInt8) (M : Nat), gk = M + 1 ∧ s = .string ⟨t.toArray⟩ ∧ i = .int .i64 M ∧ M ≤ 200001 ∧ tgt = t ++ nb M ∧ Below w.heap.size w wr ∧ Below w5.heap.size w5 wr)
              case atStart => exact ⟨tb, N, rfl, rfl, by rw [HV.out], hN2, HTG.out, HBBj.out, HB5j.out⟩
              case round =>
                obtain ⟨t, M, rfl, rfl, rfl, hM, htg, hbb, hb5⟩ := hrel
                obtain ⟨wx, rfl⟩ : ∃ wx : World, wx = wr := ⟨_, rfl⟩
                have HBX := Lib.hid hbb
                have HB5X := Lib.hid hb5
                have HTX := Lib.hid htg
                have hsx := hbb.size
                have hsx5 := hb5.size
                have htl2 : t.length ≤ 200002 := by
                  have := congrArg List.length htg
                  rw [List.length_append] at this
                  omega
                clear hbb hb5 htg
                by_cases hlow : M < 128
                · have q1 := run_byte_string wx M (by omega) M rfl
                  have q2 := add_str (P := Tryd.prog) t [UInt8.ofNat M] (t ++ nb M) (by rw [nb_low hlow]) (by omega) (by simp)
                  rw [← HTX.out] at q2
                  go_wp2
                  go_roundg (ls.length - j)
                  case measure => omega
                  case rel => exact ⟨j + 1, by omega, by omega, by go_num, by rw [HTGT.out], HBX.out.alloc (by omega) _, HB5X.out.alloc (by omega) _⟩
                · have q1 := run_byte_string wx (M % 128 + 128) (by omega) ((M : Int) % 128 + 128) (by push_cast; rfl)
                  obtain ⟨y, hy⟩ : ∃ y, y = UInt8.ofNat (M % 128 + 128) := ⟨_, rfl⟩
                  rw [← hy] at q1
                  have q2 := add_str (P := Tryd.prog) t [y] (t ++ [y]) rfl (by omega) (by simp)
                  have htx := HTX.out
                  rw [nb_high hlow, ← hy] at htx
                  have HTX2 := Lib.hid htx
                  clear htx hy
                  go_wp2
                  go_roundg (M / 128 + 1)
                  case measure => omega
                  case rel => exact ⟨t ++ [y], M / 128, rfl, rfl, by go_num, by omega, by rw [HTX2.out]; simp, HBX.out.alloc (by omega) _, HB5X.out.alloc (by omega) _⟩
          · have htkj : ls.take j = ls := List.take_of_length_le (by omega)
            rw [htkj] at hrj ⊢
            have q3 := add_str (P := Tryd.prog) (ta2 ++ lbs ls) [0] ((ta2 ++ lbs ls) ++ [0]) rfl (by rw [List.length_append]; omega) (by decide)
            have htb := HTK.out
            generalize (ta2 ++ lbs ls) ++ [0] = tc at q3 htb
            generalize ta2 ++ lbs ls = tb at q3
            have HTB := Lib.hid htb
            clear htkj hrj hrj1 htb
            go_wp2
            go_roundg (ps.length - k)
            case measure => omega
            case rel => exact ⟨k + 1, by omega, by omega, by go_num, by rw [HTB.out], HBBj.out⟩
    · have htk : ps.take k = ps := List.take_of_length_le (by omega)
      rw [htk]
      clear htk
      go_wp2
      go_ret
      exact ⟨rfl, HBk.out⟩
end Go.Proofs.YtdehlikmefpgnaaDoor
