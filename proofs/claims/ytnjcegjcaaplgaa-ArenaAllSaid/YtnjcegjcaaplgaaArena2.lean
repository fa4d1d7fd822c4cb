/- What the arena tells of a clause: stored, number, and those that read by them. -/
import Derived.Test.YtnjcegjcaaplgaaArena
namespace Go.Proofs.Ytnjcegjcaaplgaa
open Go.RowKit

section
variable {w : World} {base g b : Nat} {gw : Option Nat} {lim : Int} {cs : List Cl}

theorem has_no (h : Ar w base g b gw lim cs) {x : Int} (hx : at? cs x = none) (h1 : -9223372036854775808 ≤ x) (h2 : x ≤ 9223372036854775807) :
    Calls Try.prog 27 #[.pointer (some ⟨g, 0, none⟩), .int .i64 x] w fun e w' => e = .returned (.bool false) ∧ Below w.heap.size w w' :=
  (has_any h x h1 h2).mono fun e w' ⟨he, hb⟩ => ⟨by rw [he, hx]; rfl, hb⟩
theorem has_yes (pre post : List Cl) (cl : Cl) (h : Ar w base g b gw lim (pre ++ cl :: post)) (ha : cl.alive = true) (ht : total (pre ++ cl :: post) ≤ 1099511627776) :
    Calls Try.prog 27 #[.pointer (some ⟨g, 0, none⟩), .int .i64 (total pre)] w fun e w' => e = .returned (.bool true) ∧ Below w.heap.size w w' := by
  have := size_le_total pre post cl
  refine (has_any h (total pre) (by omega) (by omega)).mono fun e w' ⟨he, hb⟩ => ⟨?_, hb⟩
  rw [he, at?_mid, if_pos ha]
  rfl

theorem stored_no (h : Ar w base g b gw lim cs) {x : Int} (hx : at? cs x = none) (h1 : -9223372036854775808 ≤ x) (h2 : x ≤ 9223372036854775807) :
    Calls Try.prog 30 #[.pointer (some ⟨g, 0, none⟩), .int .i64 x] w fun e w' => e = .returned (.slice none 0 0) ∧ Below w.heap.size w w' := by
  have HN := Lib.hid (has_no h hx h1 h2)
  clear h hx
  go_enter Try.func30, Try.ntmps30
  go_wp2_with fail
  refine HN.out.mono ?_
  rintro e w1 ⟨rfl, hb⟩
  go_wp2
  go_ret
  exact ⟨rfl, hb⟩

/-- where a clause's literals lie -/
theorem stored_yes (pre post : List Cl) (cl : Cl) (h : Ar w base g b gw lim (pre ++ cl :: post)) (ha : cl.alive = true) (ht : total (pre ++ cl :: post) ≤ 1099511627776) :
    Calls Try.prog 30 #[.pointer (some ⟨g, 0, none⟩), .int .i64 (total pre)] w fun e w' =>
      (∃ gg, gw = some gg ∧ e = .returned (.slice (some ⟨gg, if cl.lits.length = 0 then 0 else total pre + 3, none⟩) cl.lits.length cl.lits.length)) ∧ Below w.heap.size w w' := by
  have HN := Lib.hid (has_yes pre post cl h ha ht)
  have H := Lib.hid h
  have hle := size_le_total pre post cl
  have hsz : cl.size = cl.lits.length + 3 := rfl
  obtain ⟨p, hp⟩ : ∃ p, p = total pre := ⟨_, rfl⟩
  obtain ⟨n, hn⟩ : ∃ n, n = cl.lits.length := ⟨_, rfl⟩
  rw [hsz] at hle
  rw [← hn, ← hp] at hle ⊢
  rw [← hp] at HN
  have HP := Lib.hid hp
  have HL := Lib.hid hn
  have HT := Lib.hid ht
  clear h ha hp hn hsz ht
  go_enter Try.func30, Try.ntmps30
  go_wp2_with fail
  refine HN.out.mono ?_
  rintro e w1 ⟨rfl, hb⟩
  have h1 := H.out.below hb
  have HB := Lib.hid hb
  have HNX := Lib.hid (next_any pre post cl h1 HT.out)
  obtain ⟨A, c, hblk, hown, hgw⟩ := h1.ex
  have h3 : 0 < total (pre ++ cl :: post) := by omega
  obtain ⟨gg, rfl, _, _⟩ := own_addr hown h3
  have hcap : total (pre ++ cl :: post) ≤ c := by
    obtain ⟨A', c', e, hc, _⟩ := own_slice hown
    injection e with _ _ e
    omega
  have c0 := hblk.cell 0
  simp at c0
  obtain ⟨T, hT⟩ : ∃ T, T = total (pre ++ cl :: post) := ⟨_, rfl⟩
  have ht := HT.out
  rw [← hT] at hle c0 hcap ht
  have HG := Lib.hid hgw
  rw [← HP.out] at HNX
  have e1 : p + cl.size = p + n + 3 := by unfold Cl.size; have := HL.out; omega
  rw [e1] at HNX
  have hcm : c ≤ 9223372036854775807 := by
    rcases hown.2 with ⟨hv, _⟩ | ⟨g', cap', cur, hv, hb', hg', hnc, hmx, _⟩
    · cases hv
    · injection hv with _ _ hC; subst hC; unfold maxLen at hmx; omega
  clear h1 hb hblk hown hgw hT e1 h3
  go_wp2_with fail
  refine HNX.out.mono ?_
  rintro e w2 ⟨rfl, rfl⟩
  by_cases h0 : n = 0
  · subst h0
    go_wp2
    go_ret
    exact ⟨⟨gg, HG.out.symm, rfl⟩, HB.out⟩
  · go_wp2
    go_ret
    exact ⟨⟨gg, HG.out.symm, rfl⟩, HB.out⟩

theorem Ar.lit (pre post : List Cl) (cl : Cl) (h : Ar w base g b gw lim (pre ++ cl :: post)) {gg : Nat} (hg : gw = some gg) {j : Nat} (hj : j < cl.lits.length) :
    w.cell? ⟨gg, total pre + 3 + j, none⟩ = some (.int .i64 (cl.lits.getD j 0)) ∧ w.frozen? ⟨gg, total pre + 3 + j, none⟩ = false := by
  obtain ⟨A, c, hblk, hown, hgw⟩ := h.ex
  obtain ⟨g2, rfl, _, _, _, h1, h2⟩ := h.word hown (lit_mid pre post cl j hj)
  rw [hg] at hgw
  injection hgw with e
  subst e
  exact ⟨h1, h2⟩

theorem number_no (h : Ar w base g b gw lim cs) {x : Int} (k : Int) (hx : at? cs x = none) (h1 : -9223372036854775808 ≤ x) (h2 : x ≤ 9223372036854775807) :
    Calls Try.prog 29 #[.pointer (some ⟨g, 0, none⟩), .int .i64 x, .int .i64 k] w fun e w' => e = .returned (.int .i64 0) ∧ Below w.heap.size w w' := by
  have HN := Lib.hid (has_no h hx h1 h2)
  clear h hx
  go_enter Try.func29, Try.ntmps29
  go_wp2_with fail
  refine HN.out.mono ?_
  rintro e w1 ⟨rfl, hb⟩
  go_wp2
  go_ret
  exact ⟨rfl, hb⟩
theorem number_yes (pre post : List Cl) (cl : Cl) (h : Ar w base g b gw lim (pre ++ cl :: post)) (ha : cl.alive = true) (ht : total (pre ++ cl :: post) ≤ 1099511627776) (k : Nat) (u : Int) (hk : k < 3) (hu : (wordsOf (pre ++ cl :: post))[total pre + k]? = some u) :
    Calls Try.prog 29 #[.pointer (some ⟨g, 0, none⟩), .int .i64 (total pre), .int .i64 k] w fun e w' => e = .returned (.int .i64 u) ∧ Below w.heap.size w w' := by
  have HN := Lib.hid (has_yes pre post cl h ha ht)
  have H := Lib.hid h
  have HU := Lib.hid hu
  have hle := size_le_total pre post cl
  obtain ⟨p, hp⟩ : ∃ p, p = total pre := ⟨_, rfl⟩
  rw [← hp] at hle ⊢
  rw [← hp] at HN HU
  have HT := Lib.hid ht
  clear h ha hp ht hu
  go_enter Try.func29, Try.ntmps29
  go_wp2_with fail
  refine HN.out.mono ?_
  rintro e w1 ⟨rfl, hb⟩
  have h1 := H.out.below hb
  obtain ⟨A, c, hblk, hown, hgw⟩ := h1.ex
  obtain ⟨gg, rfl, _, _, hlt, hc, _⟩ := h1.word hown HU.out
  have c0 := hblk.cell 0
  simp at c0
  obtain ⟨T, hT⟩ : ∃ T, T = total (pre ++ cl :: post) := ⟨_, rfl⟩
  have ht := HT.out
  rw [← hT] at hle c0 hlt ht
  have HB := Lib.hid hb
  clear h1 hb hblk hown hgw hT
  go_wp2
  go_ret
  exact ⟨rfl, HB.out⟩

theorem len_no (h : Ar w base g b gw lim cs) {x : Int} (hx : at? cs x = none) (h1 : -9223372036854775808 ≤ x) (h2 : x ≤ 9223372036854775807) :
    Calls Try.prog 16 #[.pointer (some ⟨g, 0, none⟩), .int .i64 x] w fun e w' => e = .returned (.int .i64 0) ∧ Below w.heap.size w w' := by
  have HN := Lib.hid (stored_no h hx h1 h2)
  clear h hx
  go_enter Try.func16, Try.ntmps16
  go_wp2_with fail
  refine HN.out.mono ?_
  rintro e w1 ⟨rfl, hb⟩
  go_wp2
  go_ret
  exact ⟨rfl, hb⟩
theorem len_yes (pre post : List Cl) (cl : Cl) (h : Ar w base g b gw lim (pre ++ cl :: post)) (ha : cl.alive = true) (ht : total (pre ++ cl :: post) ≤ 1099511627776) :
    Calls Try.prog 16 #[.pointer (some ⟨g, 0, none⟩), .int .i64 (total pre)] w fun e w' => e = .returned (.int .i64 cl.lits.length) ∧ Below w.heap.size w w' := by
  have HN := Lib.hid (stored_yes pre post cl h ha ht)
  obtain ⟨p, hp⟩ : ∃ p, p = total pre := ⟨_, rfl⟩
  obtain ⟨n, hn⟩ : ∃ n, n = cl.lits.length := ⟨_, rfl⟩
  rw [← hn, ← hp]
  rw [← hn, ← hp] at HN
  clear h ha ht hp hn
  go_enter Try.func16, Try.ntmps16
  go_wp2_with fail
  refine HN.out.mono ?_
  rintro e w1 ⟨⟨gg, hg, rfl⟩, hb⟩
  have HG := Lib.hid hg
  obtain ⟨ad, hA⟩ : ∃ ad : Addr, ad = ⟨gg, if n = 0 then 0 else p + 3, none⟩ := ⟨_, rfl⟩
  rw [← hA]
  clear hg hA
  go_wp2
  go_ret
  exact ⟨rfl, hb⟩

theorem lit_no (h : Ar w base g b gw lim cs) {x : Int} (i : Int) (hx : at? cs x = none) (h1 : -9223372036854775808 ≤ x) (h2 : x ≤ 9223372036854775807) :
    Calls Try.prog 18 #[.pointer (some ⟨g, 0, none⟩), .int .i64 x, .int .i64 i] w fun e w' => e = .returned (.int .i64 0) ∧ Below w.heap.size w w' := by
  have HN := Lib.hid (stored_no h hx h1 h2)
  clear h hx
  go_enter Try.func18, Try.ntmps18
  go_wp2_with fail
  refine HN.out.mono ?_
  rintro e w1 ⟨rfl, hb⟩
  by_cases hi : i < 0
  · go_wp2
    go_ret
    exact ⟨rfl, hb⟩
  · go_wp2
    go_ret
    exact ⟨rfl, hb⟩
theorem lit_yes (pre post : List Cl) (cl : Cl) (h : Ar w base g b gw lim (pre ++ cl :: post)) (ha : cl.alive = true) (ht : total (pre ++ cl :: post) ≤ 1099511627776) (i : Int) :
    Calls Try.prog 18 #[.pointer (some ⟨g, 0, none⟩), .int .i64 (total pre), .int .i64 i] w fun e w' => e = .returned (.int .i64 (if i < 0 then 0 else cl.lits.getD i.toNat 0)) ∧ Below w.heap.size w w' := by
  have HN := Lib.hid (stored_yes pre post cl h ha ht)
  have H := Lib.hid h
  have hle := size_le_total pre post cl
  have hsz : cl.size = cl.lits.length + 3 := rfl
  have hn : cl.lits.length ≤ 1099511627776 := by omega
  obtain ⟨p, hp⟩ : ∃ p, p = total pre := ⟨_, rfl⟩
  obtain ⟨r, hr⟩ : ∃ r, r = if i < 0 then 0 else cl.lits.getD i.toNat 0 := ⟨_, rfl⟩
  rw [← hp, ← hr]
  rw [← hp] at HN
  have HP := Lib.hid hp
  have HR := Lib.hid hr
  clear h ha ht hp hle hsz hr
  go_enter Try.func18, Try.ntmps18
  go_wp2_with fail
  refine HN.out.mono ?_
  rintro e w1 ⟨⟨gg, hg, rfl⟩, hb⟩
  by_cases hi : i < 0
  · obtain ⟨ad, hA⟩ : ∃ ad : Addr, ad = ⟨gg, if cl.lits.length = 0 then 0 else p + 3, none⟩ := ⟨_, rfl⟩
    rw [← hA]
    have HB := Lib.hid hb
    clear hA hg hb
    go_wp2
    go_ret
    exact ⟨by rw [HR.out, if_pos hi]; rfl, HB.out⟩
  · obtain ⟨j, rfl⟩ : ∃ j : Nat, i = j := ⟨i.toNat, by omega⟩
    have hr := HR.out
    rw [if_neg hi, Int.toNat_natCast] at hr
    by_cases hj : j < cl.lits.length
    · have hc := ((H.out.below hb).lit pre post cl hg hj).1
      rw [← HP.out, ← hr] at hc
      rw [if_neg (by omega)]
      obtain ⟨n, hn'⟩ : ∃ n, n = cl.lits.length := ⟨_, rfl⟩
      rw [← hn'] at hj hn ⊢
      have HB := Lib.hid hb
      clear hn' hg hb hr HR
      go_wp2
      go_ret
      exact ⟨rfl, HB.out⟩
    · have hz : cl.lits.getD j 0 = 0 := by simp [List.getD, List.getElem?_eq_none (Nat.le_of_not_lt hj)]
      rw [hz] at hr
      subst hr
      obtain ⟨ad, hA⟩ : ∃ ad : Addr, ad = ⟨gg, if cl.lits.length = 0 then 0 else p + 3, none⟩ := ⟨_, rfl⟩
      rw [← hA]
      obtain ⟨n, hn'⟩ : ∃ n, n = cl.lits.length := ⟨_, rfl⟩
      rw [← hn'] at hj hn ⊢
      have HB := Lib.hid hb
      clear hg hA hz hb hn' HR
      go_wp2
      go_ret
      exact ⟨rfl, HB.out⟩

theorem learned_no (h : Ar w base g b gw lim cs) {x : Int} (hx : at? cs x = none) (h1 : -9223372036854775808 ≤ x) (h2 : x ≤ 9223372036854775807) :
    Calls Try.prog 17 #[.pointer (some ⟨g, 0, none⟩), .int .i64 x] w fun e w' => e = .returned (.bool false) ∧ Below w.heap.size w w' := by
  have HN := Lib.hid (number_no h 0 hx h1 h2)
  clear h hx
  go_enter Try.func17, Try.ntmps17
  go_wp2_with fail
  refine HN.out.mono ?_
  rintro e w1 ⟨rfl, hb⟩
  go_wp2
  go_ret
  exact ⟨rfl, hb⟩
theorem learned_yes (pre post : List Cl) (cl : Cl) (h : Ar w base g b gw lim (pre ++ cl :: post)) (ha : cl.alive = true) (ht : total (pre ++ cl :: post) ≤ 1099511627776) :
    Calls Try.prog 17 #[.pointer (some ⟨g, 0, none⟩), .int .i64 (total pre)] w fun e w' => e = .returned (.bool cl.learned) ∧ Below w.heap.size w w' := by
  have HN := Lib.hid (number_yes pre post cl h ha ht 0 cl.head (by omega) (by rw [Nat.add_zero]; exact head_mid pre post cl))
  have hr := head_rem cl
  obtain ⟨hb1, hb2⟩ := head_bd cl
  obtain ⟨hd, hhd⟩ : ∃ hd, hd = cl.head := ⟨_, rfl⟩
  obtain ⟨p, hp⟩ : ∃ p, p = total pre := ⟨_, rfl⟩
  rw [← hhd] at hr hb1
  rw [← hp, ← hhd] at HN
  rw [← hp]
  have hl : (decide (hd % 2 = 1)) = cl.learned := by rw [hr]; cases cl.learned <;> rfl
  have HL := Lib.hid hl
  clear h ha ht hp hhd hb2 hr hl
  go_enter Try.func17, Try.ntmps17
  go_wp2_with fail
  refine HN.out.mono ?_
  rintro e w1 ⟨rfl, hb⟩
  go_wp2
  go_ret
  rw [← HL.out]
  exact ⟨rfl, hb⟩

theorem glue_no (h : Ar w base g b gw lim cs) {x : Int} (hx : at? cs x = none) (h1 : -9223372036854775808 ≤ x) (h2 : x ≤ 9223372036854775807) :
    Calls Try.prog 15 #[.pointer (some ⟨g, 0, none⟩), .int .i64 x] w fun e w' => e = .returned (.int .i64 0) ∧ Below w.heap.size w w' := by
  have HN := Lib.hid (number_no h 1 hx h1 h2)
  clear h hx
  go_enter Try.func15, Try.ntmps15
  go_wp2_with fail
  refine HN.out.mono ?_
  rintro e w1 ⟨rfl, hb⟩
  go_wp2
  go_ret
  exact ⟨rfl, hb⟩
theorem glue_yes (pre post : List Cl) (cl : Cl) (h : Ar w base g b gw lim (pre ++ cl :: post)) (ha : cl.alive = true) (ht : total (pre ++ cl :: post) ≤ 1099511627776) :
    Calls Try.prog 15 #[.pointer (some ⟨g, 0, none⟩), .int .i64 (total pre)] w fun e w' => e = .returned (.int .i64 cl.glue) ∧ Below w.heap.size w w' := by
  have HN := Lib.hid (number_yes pre post cl h ha ht 1 cl.glue (by omega) (glue_mid pre post cl))
  obtain ⟨p, hp⟩ : ∃ p, p = total pre := ⟨_, rfl⟩
  rw [← hp] at HN ⊢
  clear h ha ht hp
  go_enter Try.func15, Try.ntmps15
  go_wp2_with fail
  refine HN.out.mono ?_
  rintro e w1 ⟨rfl, hb⟩
  go_wp2
  go_ret
  exact ⟨rfl, hb⟩

end
end Go.Proofs.Ytnjcegjcaaplgaa
