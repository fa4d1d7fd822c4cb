/- A whole text, parsed. -/
import Derived.Test.YtnjcegjcaaplgaaGreatDoorReader3
namespace Go.Proofs.YtnjcegjcaaplgaaGreatDoor
open Go.RowKit
set_option linter.unusedSimpArgs false
set_option linter.unusedVariables false
set_option linter.unnecessarySimpa false

/-- the lines that are left -/
def linesLeft (more : Bool) (rest : List UInt8) : List (List UInt8) := if more then linesOf rest else []
theorem cut_lines (l : List UInt8) : linesOf l = (Lib.cut l [10]).1 :: linesLeft (Lib.cut l [10]).2.2 (Lib.cut l [10]).2.1 ∧
    (Lib.cut l [10]).1.length + (Lib.cut l [10]).2.1.length + (if (Lib.cut l [10]).2.2 then 1 else 0) ≤ l.length := by
  unfold Lib.cut linesLeft linesOf
  rw [Lib.index_one]
  rcases hi : Lib.indexByte l 10 with o | o
  · obtain ⟨h1, h2⟩ := Lib.indexByte_some (o := o) hi
    have hlt : o < l.length := by
      rcases Nat.lt_or_ge o l.length with h | h
      · exact h
      · rw [List.getElem?_eq_none h] at h1; cases h1
    have hp : (0 : Int) ≤ Int.ofNat o := Int.natCast_nonneg o
    have e : l = l.take o ++ 10 :: l.drop (o + 1) := by
      have hd := List.drop_eq_getElem_cons hlt
      have h10 : l[o] = 10 := by rw [List.getElem?_eq_getElem hlt] at h1; exact Option.some.inj h1
      rw [h10] at hd
      rw [← hd, List.take_append_drop]
    have hn : ∀ x ∈ l.take o, x ≠ 10 := by
      intro x hx
      obtain ⟨j, hj, rfl⟩ := List.getElem_of_mem hx
      simp at hj
      have := h2 j (by omega)
      rw [List.getElem_take]
      intro he
      rw [List.getElem?_eq_getElem (by omega), he] at this
      exact this rfl
    have hl := lines_cut_hit (l.take o) [] (l.drop (o + 1)) hn
    rw [← e] at hl
    simp only [if_pos hp]
    refine ⟨by rw [hl]; simp, by simp; omega⟩
  · have hge := Lib.indexByte_ge l 10
    rw [hi] at hge
    have h1 : Lib.indexByte l 10 = -1 := by rw [hi]; omega
    have hn : ∀ x ∈ l, x ≠ 10 := by
      intro x hx
      obtain ⟨j, hj, rfl⟩ := List.getElem_of_mem hx
      have := Lib.indexByte_none h1 j
      intro he
      rw [List.getElem?_eq_getElem hj, he] at this
      exact this rfl
    have hp : ¬ (0 : Int) ≤ Int.negSucc o := by simp
    simp only [if_neg hp]
    refine ⟨by rw [lines_cut_miss l [] hn]; simp, by simp⟩

set_option maxRecDepth 100000 in
set_option maxHeartbeats 2000000 in
theorem take_any (r : Rd) (l : List UInt8) (base b : Nat) (w : World) (hr : RdAt w base b r) (hb0 : b < base) (hs : r.size + l.length ≤ 1099511627776) :
    Calls Tryz.prog 14 #[.pointer (some ⟨b, 0, none⟩), .string ⟨l.toArray⟩] w (ItemPost base b (takeLine r (wordsOf l)) w) := by
  have HR := Lib.hid hr
  obtain ⟨Af, cf, vs, Ao, co, mid, h1, -⟩ := hr
  have c0 := h1.cell 0
  simp at c0
  clear h1
  unfold takeLine
  rcases hg : r.begun with _ | _
  · rw [hg] at c0
    have HH := Lib.hid (takeHeader_any r l base b w HR.out (by omega))
    clear hg
    go_enter Tryz.func14, Tryz.ntmps14
    go_wp2_with (go_at_call 31; refine HH.out.mono ?_; rintro e w1 ⟨rfl, hr1, hb1⟩; have HR1 := Lib.hid hr1; have HB1 := Lib.hid hb1; clear hr1 hb1 HH HR c0)
    go_ret
    exact ⟨rfl, HR1.out, HB1.out⟩
  · rw [hg] at c0
    have HH := Lib.hid (takeBody_any r l base b w HR.out hb0 hs)
    clear hg
    go_enter Tryz.func14, Tryz.ntmps14
    go_wp2_with (go_at_call 30; refine HH.out.mono ?_; rintro e w1 ⟨rfl, hr1, hb1⟩; have HR1 := Lib.hid hr1; have HB1 := Lib.hid hb1; clear hr1 hb1 HH HR c0)
    go_ret
    exact ⟨rfl, HR1.out, HB1.out⟩

set_option maxRecDepth 100000 in
set_option maxHeartbeats 2000000 in
theorem end_any (r : Rd) (base b : Nat) (w : World) (hr : RdAt w base b r) (hs : r.size ≤ 1099511627776) :
    Calls Tryz.prog 15 #[.pointer (some ⟨b, 0, none⟩)] w (ItemPost base b (r, endErr r) w) := by
  have HR := Lib.hid hr
  have hol : r.opn.length ≤ 1099511627776 := by unfold Rd.size Rd.lits at hs; omega
  have hcl : r.cls.length ≤ 1099511627776 := by unfold Rd.size at hs; omega
  have hE : Hid (endErr r = if r.begun = false then 2 else if 0 < r.opn.length then 7 else if (r.cls.length : Int) < r.stated then 6 else 0) := by
    show endErr r = _
    unfold endErr; rfl
  obtain ⟨Af, cf, vs, Ao, co, mid, h1, -⟩ := hr
  have c0 := h1.cell 0
  have c1 := h1.cell 1
  have c3 := h1.cell 3
  have c4 := h1.cell 4
  simp at c0 c1 c3 c4
  clear h1 hs
  generalize r.begun = bg at c0 hE
  cases bg with
  | false =>
    have hE2 : Hid (endErr r = 2) := by have := hE.out; rw [if_pos rfl] at this; exact this
    clear hE c1 c3 c4
    go_enter Tryz.func15, Tryz.ntmps15
    go_wp2
    go_ret
    rw [hE2.out]
    exact ⟨rfl, HR.out, Below.refl _ _⟩
  | true =>
    by_cases h0 : 0 < r.opn.length
    · have hE2 : Hid (endErr r = 7) := by have := hE.out; rw [if_neg (by decide), if_pos h0] at this; exact this
      clear hE c1 c3
      go_enter Tryz.func15, Tryz.ntmps15
      go_wp2
      go_ret
      rw [hE2.out]
      exact ⟨rfl, HR.out, Below.refl _ _⟩
    · by_cases hl : (r.cls.length : Int) < r.stated
      · have hE2 : Hid (endErr r = 6) := by have := hE.out; rw [if_neg (by decide), if_neg h0, if_pos hl] at this; exact this
        have hd : decide ((r.cls.length : Int) < r.stated) = true := by simpa using hl
        clear hE
        go_enter Tryz.func15, Tryz.ntmps15
        go_wp2
        go_quiet (fail)
        go_wp2
        go_ret
        rw [hE2.out]
        exact ⟨rfl, HR.out.drewN _, below_drewN (Below.refl _ _) _⟩
      · have hE2 : Hid (endErr r = 0) := by have := hE.out; rw [if_neg (by decide), if_neg h0, if_neg hl] at this; exact this
        have hd : decide ((r.cls.length : Int) < r.stated) = false := by simpa using hl
        clear hE
        go_enter Tryz.func15, Tryz.ntmps15
        go_wp2
        go_quiet (fail)
        go_wp2
        go_ret
        rw [hE2.out]
        exact ⟨rfl, HR.out.drewN _, below_drewN (Below.refl _ _) _⟩
end Go.Proofs.YtnjcegjcaaplgaaGreatDoor
