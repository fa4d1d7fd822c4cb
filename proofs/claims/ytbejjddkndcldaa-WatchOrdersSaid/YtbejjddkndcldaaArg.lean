/- The arena with its footprint; what its questions leave: more blocks alone. -/
import Derived.Test.YtbejjddkndcldaaArena5
import Derived.Test.YtbejjddkndcldaaFt
namespace Go.Proofs.Ytbejjddkndcldaa
open Go.RowKit
set_option linter.unusedVariables false
set_option linter.unusedSimpArgs false

/-- the blocks of an arena -/
def afoot (g b : Nat) (gw : Option Nat) (q : Nat) : Prop := q = g ∨ q = b ∨ gw = some q
theorem Ar.stay {w w' : World} {base g b : Nat} {gw : Option Nat} {lim : Int} {cs : List Cl} (h : Ar w base g b gw lim cs) (hk : ∀ q o, afoot g b gw q → w.heap[q]? = some o → w'.heap[q]? = some o) : Ar w' base g b gw lim cs := by
  obtain ⟨A, c, h1, h2, h3⟩ := h.ex
  obtain ⟨D, n, ⟨es, clock, m1, m2⟩, m3⟩ := h.map
  refine ⟨⟨A, c, hk _ _ (.inl rfl) h1, ⟨h2.1, ?_⟩, h3⟩, ⟨D, n, ⟨es, clock, hk _ _ (.inr (.inl rfl)) m1, m2⟩, m3⟩, h.hg, h.hb⟩
  rcases h2.2 with hn | ⟨q, cap, cur, hv, hq, hh, rest⟩
  · exact .inl hn
  · exact .inr ⟨q, cap, cur, hv, hq, hk q _ (.inr (.inr (by rw [← h3, hv]; rfl))) hh, rest⟩
theorem Ar.apart {w w' : World} {base g b : Nat} {gw : Option Nat} {lim : Int} {cs : List Cl} {G : Nat → Prop} (h : Ar w base g b gw lim cs) (hf : Ft G w w') (hd : ∀ q, afoot g b gw q → G q → False) : Ar w' base g b gw lim cs := h.stay fun q o h1 hq => (hf.at_ hq fun e => hd q h1 e).trans hq
theorem Ar.flt {w : World} {base g b : Nat} {gw : Option Nat} {lim : Int} {cs : List Cl} (h : Ar w base g b gw lim cs) : ∀ q, afoot g b gw q → base ≤ q ∧ q < w.heap.size := fun q hq => by
  have := h.hg
  have := h.hb
  have := h.glt
  have := h.blt
  rcases hq with rfl | rfl | hq
  · omega
  · omega
  · exact h.wlt q hq
theorem Turn.ft {w w' : World} {g b : Nat} {gw : Option Nat} (h : Turn w w' g b gw) : Ft (afoot g b gw) w w' := ⟨h.os, h.tape, h.output, h.size, fun k hk hn => h.block k hk (fun e => hn (.inl e)) (fun e => hn (.inr (.inl e))) fun e => hn (.inr (.inr e.symm))⟩

section
variable {w : World} {base g b : Nat} {gw : Option Nat} {lim : Int} {cs : List Cl}
theorem has_gr (h : Ar w base g b gw lim cs) (x : Int) (h1 : -9223372036854775808 ≤ x) (h2 : x ≤ 9223372036854775807) :
    Calls Try.prog 69 #[.pointer (some ⟨g, 0, none⟩), .int .i64 x] w fun e w' => e = .returned (.bool (at? cs x).isSome) ∧ Gr w w' := by
  obtain ⟨A, c, hblk, hown, hgw⟩ := h.ex
  obtain ⟨D, n, hm, hh, hsz, hn⟩ := h.map
  have c2 := hblk.cell 2
  simp at c2
  have HH := Lib.hid (hh x)
  clear hblk hown hgw hh hsz hn h
  go_enter Try.func69, Try.ntmps69
  go_wp2_with (at_lookup; refine wpList_lookup_own_unit _ rfl _ _ 107 rfl 3 110 intLaw Try.underlying107 (zeroUnit _) b n D rfl hm _ _ rfl (Maps.keyOf_int_mk Try.underlying3 (WalkArith.wf_i64 (by omega))) ?_)
  go_ret
  exact ⟨by rw [HH.out]; rfl, (Gr.refl _).alloc _⟩

theorem stored_gr (pre post : List Cl) (cl : Cl) (h : Ar w base g b gw lim (pre ++ cl :: post)) (ha : cl.alive = true) (ht : total (pre ++ cl :: post) ≤ 1099511627776) :
    Calls Try.prog 86 #[.pointer (some ⟨g, 0, none⟩), .int .i64 (total pre)] w fun e w' =>
      (∃ gg, gw = some gg ∧ e = .returned (.slice (some ⟨gg, if cl.lits.length = 0 then 0 else total pre + 3, none⟩) cl.lits.length cl.lits.length)) ∧ Gr w w' := by
  have hle := size_le_total pre post cl
  have HN := Lib.hid ((has_gr h (total pre) (by omega) (by omega)).mono (fun e w' ⟨he, hb⟩ => (⟨by rw [he, at?_mid, if_pos ha]; rfl, hb⟩ : e = Ending.returned (.bool true) ∧ Gr w w')))
  have H := Lib.hid h
  have hsz : cl.size = cl.lits.length + 3 := rfl
  obtain ⟨p, hp⟩ : ∃ p, p = total pre := ⟨_, rfl⟩
  obtain ⟨n, hn⟩ : ∃ n, n = cl.lits.length := ⟨_, rfl⟩
  rw [hsz] at hle
  rw [← hn, ← hp] at hle ⊢
  rw [← hp] at HN
  have HP := Lib.hid hp
  have HL := Lib.hid hn
  have HT := Lib.hid ht
  clear h ha hp hn hsz ht
  go_enter Try.func86, Try.ntmps86
  go_wp2_with fail
  refine HN.out.mono ?_
  rintro e w1 ⟨rfl, hb⟩
  have h1 := H.out.below hb.below
  have HB := Lib.hid hb
  have HNX := Lib.hid (next_any pre post cl h1 HT.out)
  obtain ⟨A, c, hblk, hown, hgw⟩ := h1.ex
  have h3 : 0 < total (pre ++ cl :: post) := by omega
  obtain ⟨gg, rfl, _, _⟩ := own_addr hown h3
  have hcap : total (pre ++ cl :: post) ≤ c := by
    obtain ⟨A', c', e, hc, _⟩ := own_slice hown
    injection e with _ _ e
    omega
  have c0 := hblk.cell 0
  simp at c0
  obtain ⟨T, hT⟩ : ∃ T, T = total (pre ++ cl :: post) := ⟨_, rfl⟩
  have ht := HT.out
  rw [← hT] at hle c0 hcap ht
  have HG := Lib.hid hgw
  rw [← HP.out] at HNX
  have e1 : p + cl.size = p + n + 3 := by unfold Cl.size; have := HL.out; omega
  rw [e1] at HNX
  have hcm : c ≤ 9223372036854775807 := by
    rcases hown.2 with ⟨hv, _⟩ | ⟨g', cap', cur, hv, hb', hg', hnc, hmx, _⟩
    · cases hv
    · injection hv with _ _ hC; subst hC; unfold maxLen at hmx; omega
  clear h1 hb hblk hown hgw hT e1 h3
  go_wp2_with fail
  refine HNX.out.mono ?_
  rintro e w2 ⟨rfl, rfl⟩
  by_cases h0 : n = 0
  · subst h0
    go_wp2
    go_ret
    exact ⟨⟨gg, HG.out.symm, rfl⟩, HB.out⟩
  · go_wp2
    go_ret
    exact ⟨⟨gg, HG.out.symm, rfl⟩, HB.out⟩

theorem len_gr (pre post : List Cl) (cl : Cl) (h : Ar w base g b gw lim (pre ++ cl :: post)) (ha : cl.alive = true) (ht : total (pre ++ cl :: post) ≤ 1099511627776) :
    Calls Try.prog 95 #[.pointer (some ⟨g, 0, none⟩), .int .i64 (total pre)] w fun e w' => e = .returned (.int .i64 cl.lits.length) ∧ Gr w w' := by
  have HN := Lib.hid (stored_gr pre post cl h ha ht)
  obtain ⟨p, hp⟩ : ∃ p, p = total pre := ⟨_, rfl⟩
  obtain ⟨n, hn⟩ : ∃ n, n = cl.lits.length := ⟨_, rfl⟩
  rw [← hn, ← hp]
  rw [← hn, ← hp] at HN
  clear h ha ht hp hn
  go_enter Try.func95, Try.ntmps95
  go_wp2_with fail
  refine HN.out.mono ?_
  rintro e w1 ⟨⟨gg, hg, rfl⟩, hb⟩
  have HG := Lib.hid hg
  have HB := Lib.hid hb
  obtain ⟨ad, hA⟩ : ∃ ad : Addr, ad = ⟨gg, if n = 0 then 0 else p + 3, none⟩ := ⟨_, rfl⟩
  rw [← hA]
  clear hg hA hb
  go_wp2
  go_ret
  exact ⟨rfl, HB.out⟩

theorem lit_gr (pre post : List Cl) (cl : Cl) (h : Ar w base g b gw lim (pre ++ cl :: post)) (ha : cl.alive = true) (ht : total (pre ++ cl :: post) ≤ 1099511627776) (i : Int) :
    Calls Try.prog 71 #[.pointer (some ⟨g, 0, none⟩), .int .i64 (total pre), .int .i64 i] w fun e w' => e = .returned (.int .i64 (if i < 0 then 0 else cl.lits.getD i.toNat 0)) ∧ Gr w w' := by
  have HN := Lib.hid (stored_gr pre post cl h ha ht)
  have H := Lib.hid h
  have hle := size_le_total pre post cl
  have hsz : cl.size = cl.lits.length + 3 := rfl
  have hn : cl.lits.length ≤ 1099511627776 := by omega
  obtain ⟨p, hp⟩ : ∃ p, p = total pre := ⟨_, rfl⟩
  obtain ⟨r, hr⟩ : ∃ r, r = if i < 0 then 0 else cl.lits.getD i.toNat 0 := ⟨_, rfl⟩
  rw [← hp, ← hr]
  rw [← hp] at HN
  have HP := Lib.hid hp
  have HR := Lib.hid hr
  clear h ha ht hp hle hsz hr
  go_enter Try.func71, Try.ntmps71
  go_wp2_with fail
  refine HN.out.mono ?_
  rintro e w1 ⟨⟨gg, hg, rfl⟩, hb⟩
  by_cases hi : i < 0
  · obtain ⟨ad, hA⟩ : ∃ ad : Addr, ad = ⟨gg, if cl.lits.length = 0 then 0 else p + 3, none⟩ := ⟨_, rfl⟩
    rw [← hA]
    have HB := Lib.hid hb
    clear hA hg hb
    go_wp2
    go_ret
    exact ⟨by rw [HR.out, if_pos hi]; rfl, HB.out⟩
  · obtain ⟨j, rfl⟩ : ∃ j : Nat, i = j := ⟨i.toNat, by omega⟩
    have hr := HR.out
    rw [if_neg hi, Int.toNat_natCast] at hr
    by_cases hj : j < cl.lits.length
    · have hc := ((H.out.below hb.below).lit pre post cl hg hj).1
      rw [← HP.out, ← hr] at hc
      rw [if_neg (by omega)]
      obtain ⟨n, hn'⟩ : ∃ n, n = cl.lits.length := ⟨_, rfl⟩
      rw [← hn'] at hj hn ⊢
      have HB := Lib.hid hb
      clear hn' hg hb hr HR
      go_wp2
      go_ret
      exact ⟨rfl, HB.out⟩
    · have hz : cl.lits.getD j 0 = 0 := by simp [List.getD, List.getElem?_eq_none (Nat.le_of_not_lt hj)]
      rw [hz] at hr
      subst hr
      obtain ⟨ad, hA⟩ : ∃ ad : Addr, ad = ⟨gg, if cl.lits.length = 0 then 0 else p + 3, none⟩ := ⟨_, rfl⟩
      rw [← hA]
      obtain ⟨n, hn'⟩ : ∃ n, n = cl.lits.length := ⟨_, rfl⟩
      rw [← hn'] at hj hn ⊢
      have HB := Lib.hid hb
      clear hg hA hz hb hn' HR
      go_wp2
      go_ret
      exact ⟨rfl, HB.out⟩
end
/-- the same, at a clause told by its number -/
theorem lit_at {w : World} {base g b : Nat} {gw : Option Nat} {lim : Int} {cs : List Cl} (h : Ar w base g b gw lim cs) {r : Int} {cl : Cl} (hc : at? cs r = some cl) (ht : total cs ≤ 1099511627776) (i : Int) :
    Calls Try.prog 71 #[.pointer (some ⟨g, 0, none⟩), .int .i64 r, .int .i64 i] w fun e w' => e = .returned (.int .i64 (if i < 0 then 0 else cl.lits.getD i.toNat 0)) ∧ Gr w w' := by
  obtain ⟨pre, post, rfl, rfl, ha⟩ := at?_some hc
  exact lit_gr pre post cl h ha ht i
theorem len_at {w : World} {base g b : Nat} {gw : Option Nat} {lim : Int} {cs : List Cl} (h : Ar w base g b gw lim cs) {r : Int} {cl : Cl} (hc : at? cs r = some cl) (ht : total cs ≤ 1099511627776) :
    Calls Try.prog 95 #[.pointer (some ⟨g, 0, none⟩), .int .i64 r] w fun e w' => e = .returned (.int .i64 cl.lits.length) ∧ Gr w w' := by
  obtain ⟨pre, post, rfl, rfl, ha⟩ := at?_some hc
  exact len_gr pre post cl h ha ht
end Go.Proofs.Ytbejjddkndcldaa
