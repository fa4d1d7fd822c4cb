/- Items and the header of a text; lines that are skipped. -/
import Derived.Test.YtnjcegjcaaplgaaGreatDoorNums
import Derived.Test.YtnjcegjcaaplgaaGreatDoorLit
import Derived.Test.YtnjcegjcaaplgaaGreatDoorShelf
import Derived.Shelf.Strings.SlTrimAscii
namespace Go.Proofs.YtnjcegjcaaplgaaGreatDoor
open Go.RowKit
set_option linter.unusedSimpArgs false
set_option linter.unusedVariables false
set_option linter.unnecessarySimpa false

theorem encode_low (b : UInt8) (h : b.toNat < 128) : (Utf8.encode (b.toNat : Int)).data.toList = [b] := by
  have hv : Utf8.valid (b.toNat : Int) = true := by unfold Utf8.valid; simp; left; omega
  unfold Utf8.encode
  simp only [hv, if_true, Int.toNat_natCast, h]
  simp
theorem encode_some (r : Int) : 1 ≤ (Utf8.encode r).data.toList.length := by
  unfold Utf8.encode
  simp only
  repeat' split
  all_goals simp
theorem encode_high (r : Int) (h : 128 ≤ r) : ∃ b ∈ (Utf8.encode r).data.toList, 128 ≤ b.toNat := by
  by_cases hv : Utf8.valid r = true
  · obtain ⟨h1, _, h3⟩ := encode_facts r hv h
    have hlt : (Utf8.encode r).size - 1 < (Utf8.encode r).size := by omega
    exact ⟨_, Array.getElem_mem_toList (xs := (Utf8.encode r).data) hlt, h3 hlt⟩
  · have hv' : Utf8.valid r = false := by simpa using hv
    refine ⟨239, ?_, by decide⟩
    unfold Utf8.encode
    simp [hv', Utf8.runeError]
theorem runesBytes_list (rs : List Int) : (runesBytes rs).data.toList = rs.flatMap fun r => (Utf8.encode r).data.toList := by
  have aux : ∀ (rs : List Int) (s : ByteArray), (rs.foldl (fun r n => r ++ Utf8.encode n) s).data.toList = s.data.toList ++ rs.flatMap fun r => (Utf8.encode r).data.toList := by
    intro rs
    induction rs with
    | nil => intro s; simp
    | cons r rs ih => intro s; rw [List.foldl_cons, ih]; simp
  have := aux rs ByteArray.empty
  unfold runesBytes
  rw [this]; rfl
/-- a word's string is a word of ASCII just if its bytes are -/
theorem Word.str {w : List UInt8} {rs : List Int} (h : Word w rs) (t : List UInt8) (ht : ∀ b ∈ t, b.toNat < 128) (hl : t.length ≤ 10) : (runesBytes rs).data.toList = t ↔ w = t := by
  rw [runesBytes_list]
  rcases h.cases_ with ⟨h1, h2, _⟩ | ⟨h1, h2⟩ | ⟨_, ⟨x, hx, hx'⟩, c, hc, hc'⟩
  · have : (rs.flatMap fun r => (Utf8.encode r).data.toList) = w := by
      rw [h2, List.flatMap_map]
      have aux : ∀ w : List UInt8, (∀ b ∈ w, b.toNat < 128) → (w.flatMap fun b => (Utf8.encode (b.toNat : Int)).data.toList) = w := by
        intro w
        induction w with
        | nil => intro _; rfl
        | cons b w ih => intro hb; rw [List.flatMap_cons, encode_low b (hb b (by simp)), ih (fun x hx => hb x (by simp [hx]))]; rfl
      exact aux w h1
    rw [this]
  · have aux : ∀ rs : List Int, rs.length ≤ (rs.flatMap fun r => (Utf8.encode r).data.toList).length := by
      intro rs
      induction rs with
      | nil => simp
      | cons r rs ih => rw [List.flatMap_cons, List.length_append, List.length_cons]; have := encode_some r; omega
    have := aux rs
    constructor
    · intro e; rw [e] at this; omega
    · intro e; rw [e] at h2; omega
  · constructor
    · intro e
      obtain ⟨b, hb, hb'⟩ := encode_high c hc'
      have hm : b ∈ t := by rw [← e]; exact List.mem_flatMap.2 ⟨c, hc, hb⟩
      have := ht b hm
      omega
    · intro e
      have := ht x (by rw [← e]; exact hx)
      omega

set_option maxRecDepth 100000 in
set_option maxHeartbeats 1600000 in
theorem item_any (rs : List Int) (B : Nat) (A : Option Addr) (c : Nat) (w : World) (hl : rs.length ≤ 1099511627776) (h0 : 0 < rs.length) (hcap : rs.length ≤ c) (h : Cells w B A rs.length fun j => .int .i32 (rs.getD j 0)) :
    Calls Tryz.prog 43 #[.slice A rs.length c] w fun e w' => e = .returned (pairOf (itemR rs)) ∧ w = w' := by
  have HH := Lib.hid h
  obtain ⟨b, off, rfl, hb, hc⟩ := h h0
  have hc0 : w.cell? ⟨b, off, none⟩ = some (.int .i32 (rs.getD 0 0)) := by have := hc 0 h0; simpa using this
  have HC := Lib.hid hc
  have hi : Hid (itemR rs = if rs.getD 0 0 = 45 then (match numR (rs.drop 1) with | some n => if n = 0 then none else some (-n) | none => none) else numR rs) := rfl
  clear hc h
  by_cases h45 : rs.getD 0 0 = 45
  · have hi' : Hid (itemR rs = (match numR (rs.drop 1) with | some n => if n = 0 then none else some (-n) | none => none)) := by
      have := hi.out
      rw [if_pos h45] at this
      exact this
    rw [h45] at hc0
    clear h45 hi
    by_cases hc1 : c = 1
    · subst hc1
      have hi2 : Hid (itemR rs = none) := by
        have := hi'.out
        rw [List.drop_eq_nil_of_le hcap] at this
        exact this
      have HN := fun (A' : Option Addr) (c' : Nat) => number_any [] B A' c' w (by simp) Cells.nil_
      clear hi'
      go_enter Tryz.func43, Tryz.ntmps43
      go_wp2_with (go_at_call 60; refine (HN _ _).mono ?_; rintro e w' ⟨rfl, rfl⟩; rw [show pairOf (numR []) = .tuple #[.int .i64 0, .bool false] from rfl])
      go_ret2
      exact ⟨by rw [hi2.out]; rfl, rfl⟩
    · have hd1 : (rs.drop 1).length = rs.length - 1 := by simp
      have hcd : Cells w B (some ⟨b, off + 1, none⟩) (rs.drop 1).length fun j => .int .i32 ((rs.drop 1).getD j 0) := by
        intro hpos
        rw [hd1] at hpos
        refine ⟨b, off + 1, rfl, hb, fun j hj => ?_⟩
        rw [hd1] at hj
        have := HC.out (j + 1) (by omega)
        rw [show off + 1 + j = off + (j + 1) by omega, this]
        simp [List.getD, Nat.add_comm]
      have hN := fun (c' : Nat) => number_any (rs.drop 1) B (some ⟨b, off + 1, none⟩) c' w (by omega) hcd
      rw [hd1] at hN
      clear hd1 hcd
      rcases hn : numR (rs.drop 1) with _ | n
      · rw [hn] at hN
        have hi2 : Hid (itemR rs = none) := by have := hi'.out; rw [hn] at this; exact this
        clear hn hi'
        go_enter Tryz.func43, Tryz.ntmps43
        go_wp2_with (go_at_call 60; refine (hN _).mono ?_; rintro e w' ⟨rfl, rfl⟩; rw [show pairOf none = .tuple #[.int .i64 0, .bool false] from rfl])
        go_ret2
        exact ⟨by rw [hi2.out]; rfl, rfl⟩
      · rw [hn] at hN
        obtain ⟨n1, n2⟩ := numR_bd hn
        by_cases hz : n = 0
        · subst hz
          have hi2 : Hid (itemR rs = none) := by have := hi'.out; rw [hn] at this; simp only [if_true] at this; exact this
          clear hn hi'
          go_enter Tryz.func43, Tryz.ntmps43
          go_wp2_with (go_at_call 60; refine (hN _).mono ?_; rintro e w' ⟨rfl, rfl⟩; rw [show pairOf (some 0) = .tuple #[.int .i64 0, .bool true] from rfl])
          go_ret2
          exact ⟨by rw [hi2.out]; rfl, rfl⟩
        · have hi2 : Hid (itemR rs = some (-n)) := by have := hi'.out; rw [hn] at this; simp [hz] at this; exact this
          have hz' : (n == 0) = false := by simpa using hz
          have hz'' : (n != 0) = true := by simpa using hz
          clear hn hi' hz
          go_enter Tryz.func43, Tryz.ntmps43
          go_wp2_with (go_at_call 60; refine (hN _).mono ?_; rintro e w' ⟨rfl, rfl⟩; rw [show pairOf (some n) = .tuple #[.int .i64 n, .bool true] from rfl])
          go_ret2
          exact ⟨by rw [hi2.out]; rfl, rfl⟩
  · have hi2 : Hid (itemR rs = numR rs) := by
      have := hi.out
      rw [if_neg h45] at this
      exact this
    have hN := fun (c' : Nat) => number_any rs B (some ⟨b, off, none⟩) c' w hl HH.out
    have h45' : (rs.getD 0 0 == 45) = false := beq_false_of_ne h45
    have h45'' : (rs.getD 0 0 != 45) = true := by rw [bne, h45']; rfl
    generalize rs.getD 0 0 = r0 at hc0 h45' h45''
    clear hi h45
    rcases hn : numR rs with _ | n
    · rw [hn] at hN hi2
      go_enter Tryz.func43, Tryz.ntmps43
      clear hn
      go_wp2_with (go_at_call 60; refine (hN _).mono ?_; rintro e w' ⟨rfl, rfl⟩; rw [show pairOf none = .tuple #[.int .i64 0, .bool false] from rfl])
      go_ret2
      exact ⟨by rw [hi2.out]; rfl, rfl⟩
    · rw [hn] at hN hi2
      clear hn
      go_enter Tryz.func43, Tryz.ntmps43
      go_wp2_with (go_at_call 60; refine (hN _).mono ?_; rintro e w' ⟨rfl, rfl⟩; rw [show pairOf (some n) = .tuple #[.int .i64 n, .bool true] from rfl])
      go_ret2
      exact ⟨by rw [hi2.out]; rfl, rfl⟩

/-- what is trimmed off a line changes neither whether it has words, nor how the first one begins -/
theorem trim_skip : ∀ l : List UInt8, skipLine (wordsOf l) = ((Lib.trimLeftS l [32, 9]).isEmpty || ((Lib.trimLeftS l [32, 9]).getD 0 0 == 99)) := by
  intro l
  have hg : ∀ b : UInt8, [32, 9].contains b = isGap b := fun b => by
    unfold isGap; simp [List.contains, List.elem]
    rcases (b == 32) <;> rcases (b == 9) <;> rfl
  induction l with
  | nil => rfl
  | cons b l ih =>
    by_cases h : isGap b = true
    · have e : Lib.trimLeftS (b :: l) [32, 9] = Lib.trimLeftS l [32, 9] := by unfold Lib.trimLeftS; rw [List.dropWhile_cons, hg, h]; rfl
      rw [e, ← ih]
      unfold wordsOf
      rw [wordsFrom_cons, if_pos h]; rfl
    · have h' : isGap b = false := by simpa using h
      have e : Lib.trimLeftS (b :: l) [32, 9] = b :: l := by unfold Lib.trimLeftS; rw [List.dropWhile_cons, hg, h']; rfl
      rw [e]
      unfold wordsOf
      rw [wordsFrom_cons, if_neg h]
      have aux : ∀ (l cur : List UInt8), cur ≠ [] → ∃ w ws, wordsFrom cur l = w :: ws ∧ w.getD 0 0 = cur.getD 0 0 := by
        intro l
        induction l with
        | nil => intro cur hc; exact ⟨cur, [], by cases cur <;> simp_all [wordsFrom], rfl⟩
        | cons x l ih2 =>
          intro cur hc
          rw [wordsFrom_cons]
          by_cases hx : isGap x = true
          · rw [if_pos hx]
            exact ⟨cur, wordsFrom [] l, by cases cur <;> simp_all, rfl⟩
          · rw [if_neg hx]
            obtain ⟨w, ws, h1, h2⟩ := ih2 (cur ++ [x]) (by simp)
            refine ⟨w, ws, h1, ?_⟩
            rw [h2]
            cases cur with
            | nil => exact absurd rfl hc
            | cons y z => rfl
      obtain ⟨w, ws, h1, h2⟩ := aux l ([] ++ [b]) (by simp)
      rw [h1, show skipLine (w :: ws) = (w.getD 0 0 == 99) from rfl, h2]; rfl

set_option maxRecDepth 100000 in
theorem skipped_any (s : ByteArray) (w : World) : Calls Tryz.prog 13 #[.string s] w fun e w' => e = .returned (.bool (skipLine (wordsOf s.data.toList))) ∧ Below w.heap.size w w' := by
  have ht := trim_skip s.data.toList
  have HT := Lib.hid ht
  have hC := @Any.strings_TrimLeft_laid Tryz.prog Tryz.lays161_ren Tryz.lays161 (by kernel_rfl) s ⟨#[32, 9]⟩ w (by decide) (ascii_of_all (by decide))
  rw [show (⟨#[32, 9]⟩ : ByteArray).data.toList = [32, 9] from rfl] at hC
  clear ht
  rcases hl : Lib.trimLeftS s.data.toList [32, 9] with _ | ⟨b, l⟩
  · rw [hl] at hC HT
    clear hl
    go_enter Tryz.func13, Tryz.ntmps13
    go_wp2_with (go_at_call 29; refine hC.mono ?_; rintro e w' ⟨rfl, hb⟩)
    have HB := Lib.hid hb
    clear hb
    go_wp2
    go_ret
    exact ⟨ret_bool (by rw [HT.out]; rfl), HB.out⟩
  · rw [hl] at hC HT
    clear hl
    go_enter Tryz.func13, Tryz.ntmps13
    go_wp2_with (go_at_call 29; refine hC.mono ?_; rintro e w' ⟨rfl, hb⟩)
    have HB := Lib.hid hb
    clear hb
    go_wp2
    go_ret
    refine ⟨ret_bool ?_, HB.out⟩
    rw [HT.out]
    show ((b.toNat : Int) == 99) = (false || (b == 99))
    rw [Bool.eq_iff_iff]
    simp [← UInt8.toNat_inj]
    omega
end Go.Proofs.YtnjcegjcaaplgaaGreatDoor
