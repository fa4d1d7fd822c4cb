/- Words of characters: what the reader's own functions on them answer. -/
import Derived.Test.YtnjcegjcaaplgaaGreatDoorProg
import Derived.Test.YtnjcegjcaaplgaaGreatDoorDimMath
import Derived.Test.YtnjcegjcaaplgaaGreatDoorOwn
import Derived.Test.YtnjcegjcaaplgaaGreatDoorOwnRows
import Derived.Laws.RangeAny
import Derived.Laws.Cover4
import Derived.Lib.OthersKept
import Derived.Deep.LoopGhost
import Derived.Handy
import Derived.OpenShut
import Derived.Deep.QuietTactic
import Derived.BigQuiet
import Derived.Outline
namespace Go.Proofs.YtnjcegjcaaplgaaGreatDoor
open Go.RowKit
set_option linter.unusedSimpArgs false
set_option linter.unusedVariables false

/-- how far a character reaches -/
theorem decode_span (s : ByteArray) (pos : Nat) (h : pos < s.size) (ha : 128 ≤ (s[pos]'h).toNat) :
    1 ≤ (Utf8.decode s pos).2 ∧ pos + (Utf8.decode s pos).2 ≤ s.size ∧ ∀ j, j < (Utf8.decode s pos).2 → 128 ≤ (s.get! (pos + j)).toNat := by
  have hn : ¬ (s[pos]'h).toNat < 128 := by omega
  have e0 : s.get! (pos + 0) = s[pos]'h := get_at s pos h
  have k1 : ∀ j, j < 1 → 128 ≤ (s.get! (pos + j)).toNat := fun j hj => by
    obtain rfl : j = 0 := by omega
    rw [e0]; exact ha
  have k2 : (decide (pos + 1 < s.size) && (s.get! (pos + 1)).toNat / 64 == 2) = true → ∀ j, j < 2 → 128 ≤ (s.get! (pos + j)).toNat := fun hc j hj => by
    rw [Bool.and_eq_true] at hc
    have := hc.2
    simp at this
    rcases (by omega : j = 0 ∨ j = 1) with rfl | rfl
    · exact k1 0 (by omega)
    · omega
  have k3 : (decide (pos + 1 < s.size) && (s.get! (pos + 1)).toNat / 64 == 2) = true → (decide (pos + 2 < s.size) && (s.get! (pos + 2)).toNat / 64 == 2) = true → ∀ j, j < 3 → 128 ≤ (s.get! (pos + j)).toNat := fun hc hc2 j hj => by
    rw [Bool.and_eq_true] at hc2
    have := hc2.2
    simp at this
    rcases (by omega : j < 2 ∨ j = 2) with hj | rfl
    · exact k2 hc j hj
    · omega
  have k4 : (decide (pos + 1 < s.size) && (s.get! (pos + 1)).toNat / 64 == 2) = true → (decide (pos + 2 < s.size) && (s.get! (pos + 2)).toNat / 64 == 2) = true → (decide (pos + 3 < s.size) && (s.get! (pos + 3)).toNat / 64 == 2) = true → ∀ j, j < 4 → 128 ≤ (s.get! (pos + j)).toNat := fun hc hc2 hc3 j hj => by
    rw [Bool.and_eq_true] at hc3
    have := hc3.2
    simp at this
    rcases (by omega : j < 3 ∨ j = 3) with hj | rfl
    · exact k3 hc hc2 j hj
    · omega
  have sz : ∀ i, (decide (pos + i < s.size) && (s.get! (pos + i)).toNat / 64 == 2) = true → pos + i < s.size := fun i hc => by
    rw [Bool.and_eq_true] at hc
    exact of_decide_eq_true hc.1
  simp only [Utf8.decode, e0, hn, if_false]
  split
  · rename_i hc
    rw [Bool.and_eq_true] at hc
    have := sz 1 hc.2
    split
    · exact ⟨by omega, by omega, k2 hc.2⟩
    · exact ⟨by omega, by omega, k1⟩
  · split
    · rename_i hc
      rw [Bool.and_eq_true, Bool.and_eq_true] at hc
      have := sz 2 hc.2
      split
      · exact ⟨by omega, by omega, k3 hc.1.2 hc.2⟩
      · exact ⟨by omega, by omega, k1⟩
    · split
      · rename_i hc
        rw [Bool.and_eq_true, Bool.and_eq_true, Bool.and_eq_true] at hc
        have := sz 3 hc.2
        split
        · exact ⟨by omega, by omega, k4 hc.1.1.2 hc.1.2 hc.2⟩
        · exact ⟨by omega, by omega, k1⟩
      · exact ⟨by omega, by omega, k1⟩

theorem drop_byte (s : ByteArray) (pos : Nat) (h : pos < s.size) : s.data.toList.drop pos = s[pos]'h :: s.data.toList.drop (pos + 1) := by
  rw [List.drop_eq_getElem_cons (by simpa using h)]; rfl
/-- what a character takes off the rest -/
theorem drop_span (s : ByteArray) (pos k : Nat) (h : pos + k ≤ s.size) (ha : ∀ j, j < k → 128 ≤ (s.get! (pos + j)).toNat) :
    s.data.toList.drop pos = (s.data.toList.drop pos).take k ++ s.data.toList.drop (pos + k) ∧ ∀ b ∈ (s.data.toList.drop pos).take k, 128 ≤ b.toNat := by
  refine ⟨?_, fun b hb => ?_⟩
  · rw [← List.drop_drop, List.take_append_drop]
  · obtain ⟨j, hj, rfl⟩ := List.getElem_of_mem hb
    simp at hj
    have := ha j (by omega)
    rw [List.getElem_take, List.getElem_drop]
    have e : s.get! (pos + j) = s.data.toList[pos + j]'(by simpa using (show pos + j < s.size by omega)) := by
      have h2 : pos + j < s.size := by omega
      show s.get! (pos + j) = s[pos + j]
      exact get_at s (pos + j) h2
    rw [← e]; exact this
theorem gap_high {b : UInt8} (h : 128 ≤ b.toNat) : isGap b = false := by
  unfold isGap
  simp [← UInt8.toNat_inj]; omega

/-- the string of a row of characters, empty and nil ones too -/
theorem run_convert_cells {P : Program} (w : World) (src dst e : TypeId) (B : Nat) (A : Option Addr) (c : Nat) (rs : List Int)
    (hs : P.underlying src = some (.slice e)) (he : P.underlying e = some (.int .i32)) (hd : P.underlying dst = some .string) (h : Cells w B A rs.length fun j => .int .i32 (rs.getD j 0)) :
    (convert src dst (.slice A rs.length c)).run P w = .ok (.string (runesBytes rs)) w := by
  rcases Nat.eq_zero_or_pos rs.length with h0 | h0
  · have : rs = [] := List.eq_nil_of_length_eq_zero h0
    subst this
    cases A with
    | none => exact run_convert_runes_nil w src dst e _ _ hs he hd
    | some a => exact run_convert_runes w src dst e a 0 c [] (by simp) hs he hd (fun j hj => absurd hj (by simp))
  · obtain ⟨b, off, rfl, _, hc⟩ := h h0
    have := run_convert_runes w src dst e ⟨b, off, none⟩ rs.length c rs (Nat.le_refl _) hs he hd (fun j hj => by rw [show (Addr.mk b off none).add j = ⟨b, off + j, none⟩ by unfold Addr.add; split <;> simp_all]; exact hc j hj)
    rw [List.take_length] at this
    exact this

/-- what owns a row owns no iterator -/
theorem own_iter_ne {w : World} {base e n k : Nat} {v : Value} {xs : List Value} {s : ByteArray} {pos : Nat} (h : w.ownsRow base e 1 v n xs) (hk : w.heap[k]? = some (.stringIter s pos)) : some k ≠ v.ownBlock := by
  rcases h.2 with ⟨rfl, _⟩ | ⟨g', cap, cur, rfl, _, hh, _⟩
  · simp [Value.ownBlock]
  · intro he
    have : k = g' := by simpa [Value.ownBlock] using he
    subst this
    rw [hk] at hh
    cases hh
theorem own_iterAt {w : World} {base e n k : Nat} {v : Value} {xs : List Value} {s : ByteArray} {pos : Nat} (h : w.ownsRow base e 1 v n xs) (hk : w.heap[k]? = some (.stringIter s pos)) (pos' : Nat) : (w.iterAt k s pos').ownsRow base e 1 v n xs := by
  have hne := own_iter_ne h hk
  refine ⟨h.1, ?_⟩
  rcases h.2 with hn | ⟨g, cap, cur, rfl, hg, hgg, rest⟩
  · exact .inl hn
  · refine .inr ⟨g, cap, cur, rfl, hg, ?_, rest⟩
    rw [Lib.iterAt_other w k g s pos' (fun e => hne (by rw [← e]; rfl))]
    exact hgg

theorem Tryz.infoRune : (Tryz.prog.info? 21).map (fun i => (i.zero, i.size, i.bytes)) = some (some (.int .i32 0), 1, 4) := by kernel_rfl

/-- what one character does to a word -/
def CharStep (s : ByteArray) (pos c k : Nat) : Prop :=
  1 ≤ k ∧ pos + k ≤ s.size ∧ ((c : Int) == 32) = false ∧ ((c : Int) == 9) = false ∧ c ≤ 2147483647 ∧ ∃ d, s.data.toList.drop pos = d ++ s.data.toList.drop (pos + k) ∧ (∀ b ∈ d, isGap b = false) ∧
    ∀ cur rs, Word cur rs → (rs.length ≤ 10 → Word (cur ++ d) (rs ++ [(c : Int)])) ∧ (rs.length = 11 → Word (cur ++ d) rs)
/-- a gap, or a character of a word -/
theorem char_cases (s : ByteArray) (pos : Nat) (h : pos < s.size) :
    (((Utf8.decode s pos).1 = 32 ∨ (Utf8.decode s pos).1 = 9) ∧ (Utf8.decode s pos).2 = 1 ∧ ∃ b, isGap b = true ∧ s.data.toList.drop pos = b :: s.data.toList.drop (pos + 1)) ∨ CharStep s pos (Utf8.decode s pos).1 (Utf8.decode s pos).2 := by
  by_cases ha : (s[pos]'h).toNat < 128
  · rw [decode_ascii s pos h ha]
    by_cases hg : isGap (s[pos]'h) = true
    · left
      refine ⟨?_, rfl, _, hg, drop_byte s pos h⟩
      unfold isGap at hg
      simpa [← UInt8.toNat_inj] using hg
    · right
      have hg' : isGap (s[pos]'h) = false := by simpa using hg
      have h32 : (s[pos]'h).toNat ≠ 32 ∧ (s[pos]'h).toNat ≠ 9 := by
        unfold isGap at hg'
        simpa [← UInt8.toNat_inj] using hg'
      have hlt := (s[pos]'h).toNat_lt
      refine ⟨by omega, by omega, by simp; omega, by simp; omega, by omega, [s[pos]'h], drop_byte s pos h, ?_, fun cur rs hw => ⟨fun hl => Word.low _ hw ha hl, fun hl => Word.lowFull _ hw ha hl⟩⟩
      intro b hb
      simp at hb
      rw [hb]; exact hg'
  · right
    obtain ⟨k1, k2, k3⟩ := decode_span s pos h (by omega)
    have h128 := (decode_high s pos h (by omega)).1
    have hle := decode_le s pos
    obtain ⟨e, hd⟩ := drop_span s pos _ k2 k3
    have hlen : 0 < s.data.toList.length - pos := by
      have : s.data.toList.length = s.size := by simp
      omega
    refine ⟨k1, k2, by simp; omega, by simp; omega, hle, _, e, fun b hb => gap_high (hd b hb), fun cur rs hw => ⟨fun hl => Word.high _ _ hw ?_ hd (by omega) hl, fun hl => Word.highFull _ hw ?_ hd hl⟩⟩
    all_goals
      intro e0
      have := congrArg List.length e0
      simp at this
      omega
theorem extract_drop (s : ByteArray) (pos : Nat) (h : pos ≤ s.size) : s.extract pos s.size = ⟨(s.data.toList.drop pos).toArray⟩ := by
  apply ByteArray.ext
  apply Array.ext'
  simp
  rw [List.take_of_length_le (by simp)]

/-- a word's characters, and the rest of the line -/
def CutPost (s : ByteArray) (w : World) (e : Ending) (w' : World) : Prop :=
  ∃ (A : Option Addr) (c : Nat) (rs : List Int), e = .returned (.tuple #[.slice A rs.length c, .string ⟨(cutFrom [] s.data.toList).2.toArray⟩]) ∧ Word (cutFrom [] s.data.toList).1 rs ∧
    Cells w' w'.heap.size A rs.length (fun j => .int .i32 (rs.getD j 0)) ∧ Below w.heap.size w w' ∧ rs.length ≤ c

set_option maxRecDepth 100000 in
set_option maxHeartbeats 1600000 in
theorem cutWord_any (s : ByteArray) (w : World) (hs : s.size ≤ 1099511627776) : Calls Tryz.prog 42 #[.string s] w (CutPost s w) := by
  have hmk : ∀ w, (Instr.makeSlice 107 (.int .i64 0) (.int .i64 11)).run Tryz.prog w = .ok (.slice (some ⟨w.heap.size, 0, none⟩) 0 11) (w.alloc (.cells (Array.replicate 11 (.int .i32 0)) 21)) := fun w => by kernel_rfl
  go_enter Tryz.func42, Tryz.ntmps42
  go_wp2
  obtain ⟨i0, hi, hz0, hz1, hz2⟩ := info_parts Tryz.infoRune
  go_loopg [4] (s.size + 1) (fun gk s4 wr => ∃ (pos : Nat) (cur : List UInt8) (rs : List Int) (A : Option Addr) (c : Nat), pos ≤ s.size ∧ gk = s.size - pos + 1 ∧ s4 = .slice A rs.length c ∧
      wr.ownsRow w.heap.size 21 1 (.slice A rs.length c) rs.length (rs.map (Value.int .i32)) ∧ wr.heap[w.heap.size + 1]? = some (.stringIter s pos) ∧ Below w.heap.size w wr ∧ Word cur rs ∧
      cutFrom [] s.data.toList = cutFrom cur (s.data.toList.drop pos))
  case atStart =>
    refine ⟨0, [], [], some ⟨w.heap.size, 0, none⟩, 11, by omega, by omega, rfl, ?_, ?_, ?_, Word.nil, rfl⟩
    · have := World.ownsRow_made (base := w.heap.size) (e := 21) (size := 1) w (Array.replicate 11 (.int .i32 0)) 11 (Nat.le_refl _) (by unfold maxLen; omega) (by simp)
      exact this.alloc _
    · have := World.iter_heap (w.alloc (.cells (Array.replicate 11 (.int .i32 0)) 21)) s 0
      simpa using this
    · exact ((Below.refl _ w).alloc (Nat.le_refl _) _).alloc (by simp) _
  case round =>
    obtain ⟨pos, cur, rs, A, c, hpos, rfl, rfl, hown, hit, hb, hw, hcut⟩ := hrel
    obtain ⟨wo, rfl⟩ : ∃ wo : World, wo = wr := ⟨_, rfl⟩
    have HOW := Lib.hid hown
    have HIT := Lib.hid hit
    have HB := Lib.hid hb
    have HW := Lib.hid hw
    have HCUT := Lib.hid hcut
    have hlen := hw.len
    have hl11 : rs.length ≤ 11 := hlen.1
    have HL0 := Lib.hid hlen.2.2
    have hbs := hb.size
    clear hown hit hb hw hcut hlen
    by_cases hp : pos < s.size
    · have hnx : ∀ ty, (Instr.next (.pointer (some ⟨w.heap.size + 1, 0, none⟩)) true ty).run Tryz.prog wo = _ := fun ty => Lib.run_next_any_at wo (w.heap.size + 1) s pos ty HIT.out hp
      have hcc := char_cases s pos hp
      generalize (Utf8.decode s pos).1 = ch at hcc hnx
      generalize (Utf8.decode s pos).2 = k at hcc hnx
      have hit2 := Lib.iterAt_heap wo (w.heap.size + 1) s pos (pos + k) HIT.out
      have how2 := own_iterAt HOW.out HIT.out (pos + k)
      have hb2 := Lib.below_iterAt HB.out (k := w.heap.size + 1) (by omega) s (pos + k)
      have hsz2 := Lib.iterAt_size wo (w.heap.size + 1) s (pos + k)
      generalize wo.iterAt (w.heap.size + 1) s (pos + k) = w2 at hnx hit2 how2 hb2 hsz2
      have hsz3 : w.heap.size + 1 < w2.heap.size := (Array.getElem?_eq_some_iff.1 hit2).1
      have HIT2 := Lib.hid hit2
      have HOW2 := Lib.hid how2
      have HB2 := Lib.hid hb2
      clear hit2 how2 hb2 hsz2 HIT HOW HB hbs
      rcases hcc with ⟨hch, hk1, b, hgap, hdrop⟩ | ⟨hk1, hk2, hc32, hc9, hcle, d, hdrop, hdg, hword⟩
      · subst hk1
        have HG := Lib.hid hgap
        have HD := Lib.hid hdrop
        clear hgap hdrop
        by_cases h0 : rs.length = 0
        · have hr0 : rs = [] := List.eq_nil_of_length_eq_zero h0
          subst hr0
          have hc0 : cur = [] := List.eq_nil_of_length_eq_zero (HL0.out rfl)
          subst hc0
          clear h0
          rcases hch with rfl | rfl
          all_goals
            go_wp2
            go_roundg (s.size - pos)
            case measure => omega
            case rel => exact ⟨pos + 1, [], [], A, c, by omega, by omega, rfl, HOW2.out, HIT2.out, HB2.out, Word.nil, by rw [HCUT.out, HD.out, cutFrom_gap HG.out]⟩
        · have hlp : 0 < rs.length := by omega
          have hlq : decide (0 < rs.length) = true := by simpa using hlp
          rcases hch with rfl | rfl
          all_goals
            go_wp2
            go_quiet (fail)
            go_wp2
            go_ret2
            have hex := cutFrom_end (cur := cur) (r := s.data.toList.drop (pos + 1)) HG.out (fun e => by subst e; have := HW.out.len.2.1; simp at this; subst this; simp at hlp)
            rw [← HD.out, ← HCUT.out] at hex
            refine ⟨A, c, rs, by rw [hex]; have e9 := extract_drop s pos (by omega); rw [show ((cur, s.data.toList.drop pos) : List UInt8 × List UInt8).2 = s.data.toList.drop pos from rfl, ← e9]; rfl, by rw [hex]; exact HW.out, ?_, below_drewN HB2.out _, ?_⟩
            · refine (cells_of_own HOW2.out (.int .i32 0)).congr fun i hi => ?_
              simp [List.getD]
            · obtain ⟨A', c', hv, hle, _⟩ := own_slice HOW2.out
              injection hv with _ _ hc
              omega
      · have HD := Lib.hid hdrop
        have HDG := Lib.hid hdg
        have HWD := Lib.hid (hword cur rs HW.out)
        clear hdrop hdg hword
        have HC : Hid (cutFrom [] s.data.toList = cutFrom (cur ++ d) (s.data.toList.drop (pos + k))) := by
          have := HCUT.out
          rw [HD.out, cutFrom_mores _ _ _ HDG.out] at this
          exact this
        by_cases hl : rs.length = 11
        · have HWF := Lib.hid (HWD.out.2 hl)
          have hl' : ¬ rs.length ≤ 10 := by omega
          clear hl
          go_wp2
          go_roundg (s.size - (pos + k) + 1)
          case measure => omega
          case rel => exact ⟨pos + k, cur ++ d, rs, A, c, by omega, by omega, rfl, HOW2.out, HIT2.out, HB2.out, HWF.out, HC.out⟩
        · have hl' : rs.length ≤ 10 := by omega
          have HWF := Lib.hid (HWD.out.1 hl')
          clear hl
          go_wp2_with (at_builtin; refine wpList_append1 _ rfl _ _ 107 rfl w.heap.size 21 i0 (.int .i32 0) 4 Tryz.underlying107 hi hz0 hz1 hz2 rfl _ _ _ rfl (HOW2.out.alloc _) (.int .i32 ch) w2.heap.size rfl (by go_cell) rfl (by unfold maxLen; omega) (by omega) (by simp; omega) ?_)
          intro v' w3 hown3 hg3 hob3
          obtain ⟨A3, c3, hv3, _⟩ := own_slice hown3
          subst hv3
          have HO3 := Lib.hid hown3
          have hit3 : w3.heap[w.heap.size + 1]? = some (.stringIter s (pos + k)) := by
            rw [hg3.block (w.heap.size + 1) (by simp; omega) (own_iter_ne HOW2.out HIT2.out)]
            exact (Below.heap_alloc w2 _ _ hsz3).trans HIT2.out
          have HIT3 := Lib.hid hit3
          have HB3 := Lib.hid ((HB2.out.alloc (by omega) _).grown hg3 (by simp; omega) (fun g hg => (HOW2.out.lt g hg).1))
          clear hown3 hg3 hob3 hit3
          go_wp2
          go_roundg (s.size - (pos + k) + 1)
          case measure => omega
          case rel => exact ⟨pos + k, cur ++ d, rs ++ [(ch : Int)], A3, c3, by omega, by omega, by simp, by simpa using HO3.out, HIT3.out, HB3.out, HWF.out, HC.out⟩
    · have hnx : ∀ ty, (Instr.next (.pointer (some ⟨w.heap.size + 1, 0, none⟩)) true ty).run Tryz.prog wo = _ := fun ty => Lib.run_next_end_at wo (w.heap.size + 1) s pos ty HIT.out hp
      have hpe : pos = s.size := by omega
      go_wp2
      go_ret2
      have hex : cutFrom [] s.data.toList = (cur, []) := by
        rw [HCUT.out, List.drop_eq_nil_of_le (by simp; omega)]; rfl
      refine ⟨A, c, rs, by rw [hex]; rfl, by rw [hex]; exact HW.out, ?_, HB.out, ?_⟩
      · refine (cells_of_own HOW.out (.int .i32 0)).congr fun i hi => ?_
        simp [List.getD]
      · obtain ⟨A', c', hv, hle, _⟩ := own_slice HOW.out
        injection hv with _ _ hc
        omega
end Go.Proofs.YtnjcegjcaaplgaaGreatDoor
