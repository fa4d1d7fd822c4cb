/- What the arena tells of a clause: stored, number, and those that read by them. What changes the arena: New, Drop, SetGlue, SetUses. Swap and Add. -/
import Derived.Test.YtbejjddkndcldaaArena
import Derived.ChangeAlike
namespace Go.Proofs.Ytbejjddkndcldaa
open Go.RowKit

section
variable {w : World} {base g b : Nat} {gw : Option Nat} {lim : Int} {cs : List Cl}

theorem has_no (h : Ar w base g b gw lim cs) {x : Int} (hx : at? cs x = none) (h1 : -9223372036854775808 ≤ x) (h2 : x ≤ 9223372036854775807) :
    Calls Try.prog 69 #[.pointer (some ⟨g, 0, none⟩), .int .i64 x] w fun e w' => e = .returned (.bool false) ∧ Below w.heap.size w w' :=
  (has_any h x h1 h2).mono fun e w' ⟨he, hb⟩ => ⟨by rw [he, hx]; rfl, hb⟩
theorem has_yes (pre post : List Cl) (cl : Cl) (h : Ar w base g b gw lim (pre ++ cl :: post)) (ha : cl.alive = true) (ht : total (pre ++ cl :: post) ≤ 1099511627776) :
    Calls Try.prog 69 #[.pointer (some ⟨g, 0, none⟩), .int .i64 (total pre)] w fun e w' => e = .returned (.bool true) ∧ Below w.heap.size w w' := by
  have := size_le_total pre post cl
  refine (has_any h (total pre) (by omega) (by omega)).mono fun e w' ⟨he, hb⟩ => ⟨?_, hb⟩
  rw [he, at?_mid, if_pos ha]
  rfl

theorem stored_no (h : Ar w base g b gw lim cs) {x : Int} (hx : at? cs x = none) (h1 : -9223372036854775808 ≤ x) (h2 : x ≤ 9223372036854775807) :
    Calls Try.prog 86 #[.pointer (some ⟨g, 0, none⟩), .int .i64 x] w fun e w' => e = .returned (.slice none 0 0) ∧ Below w.heap.size w w' := by
  have HN := Lib.hid (has_no h hx h1 h2)
  clear h hx
  go_enter Try.func86, Try.ntmps86
  go_wp2_with fail
  refine HN.out.mono ?_
  rintro e w1 ⟨rfl, hb⟩
  go_wp2
  go_ret
  exact ⟨rfl, hb⟩

/-- where a clause's literals lie -/
theorem stored_yes (pre post : List Cl) (cl : Cl) (h : Ar w base g b gw lim (pre ++ cl :: post)) (ha : cl.alive = true) (ht : total (pre ++ cl :: post) ≤ 1099511627776) :
    Calls Try.prog 86 #[.pointer (some ⟨g, 0, none⟩), .int .i64 (total pre)] w fun e w' =>
      (∃ gg, gw = some gg ∧ e = .returned (.slice (some ⟨gg, if cl.lits.length = 0 then 0 else total pre + 3, none⟩) cl.lits.length cl.lits.length)) ∧ Below w.heap.size w w' := by
  have HN := Lib.hid (has_yes pre post cl h ha ht)
  have H := Lib.hid h
  have hle := size_le_total pre post cl
  have hsz : cl.size = cl.lits.length + 3 := rfl
  obtain ⟨p, hp⟩ : ∃ p, p = total pre := ⟨_, rfl⟩
  obtain ⟨n, hn⟩ : ∃ n, n = cl.lits.length := ⟨_, rfl⟩
  rw [hsz] at hle
  rw [← hn, ← hp] at hle ⊢
  rw [← hp] at HN
  have HP := Lib.hid hp
  have HL := Lib.hid hn
  have HT := Lib.hid ht
  clear h ha hp hn hsz ht
  go_enter Try.func86, Try.ntmps86
  go_wp2_with fail
  refine HN.out.mono ?_
  rintro e w1 ⟨rfl, hb⟩
  have h1 := H.out.below hb
  have HB := Lib.hid hb
  have HNX := Lib.hid (next_any pre post cl h1 HT.out)
  obtain ⟨A, c, hblk, hown, hgw⟩ := h1.ex
  have h3 : 0 < total (pre ++ cl :: post) := by omega
  obtain ⟨gg, rfl, _, _⟩ := own_addr hown h3
  have hcap : total (pre ++ cl :: post) ≤ c := by
    obtain ⟨A', c', e, hc, _⟩ := own_slice hown
    injection e with _ _ e
    omega
  have c0 := hblk.cell 0
  simp at c0
  obtain ⟨T, hT⟩ : ∃ T, T = total (pre ++ cl :: post) := ⟨_, rfl⟩
  have ht := HT.out
  rw [← hT] at hle c0 hcap ht
  have HG := Lib.hid hgw
  rw [← HP.out] at HNX
  have e1 : p + cl.size = p + n + 3 := by unfold Cl.size; have := HL.out; omega
  rw [e1] at HNX
  have hcm : c ≤ 9223372036854775807 := by
    rcases hown.2 with ⟨hv, _⟩ | ⟨g', cap', cur, hv, hb', hg', hnc, hmx, _⟩
    · cases hv
    · injection hv with _ _ hC; subst hC; unfold maxLen at hmx; omega
  clear h1 hb hblk hown hgw hT e1 h3
  go_wp2_with fail
  refine HNX.out.mono ?_
  rintro e w2 ⟨rfl, rfl⟩
  by_cases h0 : n = 0
  · subst h0
    go_wp2
    go_ret
    exact ⟨⟨gg, HG.out.symm, rfl⟩, HB.out⟩
  · go_wp2
    go_ret
    exact ⟨⟨gg, HG.out.symm, rfl⟩, HB.out⟩

theorem Ar.lit (pre post : List Cl) (cl : Cl) (h : Ar w base g b gw lim (pre ++ cl :: post)) {gg : Nat} (hg : gw = some gg) {j : Nat} (hj : j < cl.lits.length) :
    w.cell? ⟨gg, total pre + 3 + j, none⟩ = some (.int .i64 (cl.lits.getD j 0)) ∧ w.frozen? ⟨gg, total pre + 3 + j, none⟩ = false := by
  obtain ⟨A, c, hblk, hown, hgw⟩ := h.ex
  obtain ⟨g2, rfl, _, _, _, h1, h2⟩ := h.word hown (lit_mid pre post cl j hj)
  rw [hg] at hgw
  injection hgw with e
  subst e
  exact ⟨h1, h2⟩

theorem len_no (h : Ar w base g b gw lim cs) {x : Int} (hx : at? cs x = none) (h1 : -9223372036854775808 ≤ x) (h2 : x ≤ 9223372036854775807) :
    Calls Try.prog 95 #[.pointer (some ⟨g, 0, none⟩), .int .i64 x] w fun e w' => e = .returned (.int .i64 0) ∧ Below w.heap.size w w' := by
  have HN := Lib.hid (stored_no h hx h1 h2)
  clear h hx
  go_enter Try.func95, Try.ntmps95
  go_wp2_with fail
  refine HN.out.mono ?_
  rintro e w1 ⟨rfl, hb⟩
  go_wp2
  go_ret
  exact ⟨rfl, hb⟩
theorem len_yes (pre post : List Cl) (cl : Cl) (h : Ar w base g b gw lim (pre ++ cl :: post)) (ha : cl.alive = true) (ht : total (pre ++ cl :: post) ≤ 1099511627776) :
    Calls Try.prog 95 #[.pointer (some ⟨g, 0, none⟩), .int .i64 (total pre)] w fun e w' => e = .returned (.int .i64 cl.lits.length) ∧ Below w.heap.size w w' := by
  have HN := Lib.hid (stored_yes pre post cl h ha ht)
  obtain ⟨p, hp⟩ : ∃ p, p = total pre := ⟨_, rfl⟩
  obtain ⟨n, hn⟩ : ∃ n, n = cl.lits.length := ⟨_, rfl⟩
  rw [← hn, ← hp]
  rw [← hn, ← hp] at HN
  clear h ha ht hp hn
  go_enter Try.func95, Try.ntmps95
  go_wp2_with fail
  refine HN.out.mono ?_
  rintro e w1 ⟨⟨gg, hg, rfl⟩, hb⟩
  have HG := Lib.hid hg
  obtain ⟨ad, hA⟩ : ∃ ad : Addr, ad = ⟨gg, if n = 0 then 0 else p + 3, none⟩ := ⟨_, rfl⟩
  rw [← hA]
  clear hg hA
  go_wp2
  go_ret
  exact ⟨rfl, hb⟩

theorem lits_no (h : Ar w base g b gw lim cs) {x : Int} (hx : at? cs x = none) (h1 : -9223372036854775808 ≤ x) (h2 : x ≤ 9223372036854775807) :
    Calls Try.prog 84 #[.pointer (some ⟨g, 0, none⟩), .int .i64 x] w fun e w' => e = .returned (.slice none 0 0) ∧ Below w.heap.size w w' := by
  have HN := Lib.hid (stored_no h hx h1 h2)
  clear h hx
  have hnil := fun (w : World) (a : Option Addr) (n c : Nat) => Lib.run_eql_slice_nil (P := Try.prog) w 32 3 a n c 0 0 Try.underlying32
  go_enter Try.func84, Try.ntmps84
  go_wp2_with fail
  refine HN.out.mono ?_
  rintro e w1 ⟨rfl, hb⟩
  go_wp2
  go_ret
  exact ⟨rfl, hb⟩

theorem lit_no (h : Ar w base g b gw lim cs) {x : Int} (i : Int) (hx : at? cs x = none) (h1 : -9223372036854775808 ≤ x) (h2 : x ≤ 9223372036854775807) :
    Calls Try.prog 71 #[.pointer (some ⟨g, 0, none⟩), .int .i64 x, .int .i64 i] w fun e w' => e = .returned (.int .i64 0) ∧ Below w.heap.size w w' := by
  have HN := Lib.hid (stored_no h hx h1 h2)
  clear h hx
  go_enter Try.func71, Try.ntmps71
  go_wp2_with fail
  refine HN.out.mono ?_
  rintro e w1 ⟨rfl, hb⟩
  by_cases hi : i < 0
  · go_wp2
    go_ret
    exact ⟨rfl, hb⟩
  · go_wp2
    go_ret
    exact ⟨rfl, hb⟩
theorem lit_yes (pre post : List Cl) (cl : Cl) (h : Ar w base g b gw lim (pre ++ cl :: post)) (ha : cl.alive = true) (ht : total (pre ++ cl :: post) ≤ 1099511627776) (i : Int) :
    Calls Try.prog 71 #[.pointer (some ⟨g, 0, none⟩), .int .i64 (total pre), .int .i64 i] w fun e w' => e = .returned (.int .i64 (if i < 0 then 0 else cl.lits.getD i.toNat 0)) ∧ Below w.heap.size w w' := by
  have HN := Lib.hid (stored_yes pre post cl h ha ht)
  have H := Lib.hid h
  have hle := size_le_total pre post cl
  have hsz : cl.size = cl.lits.length + 3 := rfl
  have hn : cl.lits.length ≤ 1099511627776 := by omega
  obtain ⟨p, hp⟩ : ∃ p, p = total pre := ⟨_, rfl⟩
  obtain ⟨r, hr⟩ : ∃ r, r = if i < 0 then 0 else cl.lits.getD i.toNat 0 := ⟨_, rfl⟩
  rw [← hp, ← hr]
  rw [← hp] at HN
  have HP := Lib.hid hp
  have HR := Lib.hid hr
  clear h ha ht hp hle hsz hr
  go_enter Try.func71, Try.ntmps71
  go_wp2_with fail
  refine HN.out.mono ?_
  rintro e w1 ⟨⟨gg, hg, rfl⟩, hb⟩
  by_cases hi : i < 0
  · obtain ⟨ad, hA⟩ : ∃ ad : Addr, ad = ⟨gg, if cl.lits.length = 0 then 0 else p + 3, none⟩ := ⟨_, rfl⟩
    rw [← hA]
    have HB := Lib.hid hb
    clear hA hg hb
    go_wp2
    go_ret
    exact ⟨by rw [HR.out, if_pos hi]; rfl, HB.out⟩
  · obtain ⟨j, rfl⟩ : ∃ j : Nat, i = j := ⟨i.toNat, by omega⟩
    have hr := HR.out
    rw [if_neg hi, Int.toNat_natCast] at hr
    by_cases hj : j < cl.lits.length
    · have hc := ((H.out.below hb).lit pre post cl hg hj).1
      rw [← HP.out, ← hr] at hc
      rw [if_neg (by omega)]
      obtain ⟨n, hn'⟩ : ∃ n, n = cl.lits.length := ⟨_, rfl⟩
      rw [← hn'] at hj hn ⊢
      have HB := Lib.hid hb
      clear hn' hg hb hr HR
      go_wp2
      go_ret
      exact ⟨rfl, HB.out⟩
    · have hz : cl.lits.getD j 0 = 0 := by simp [List.getD, List.getElem?_eq_none (Nat.le_of_not_lt hj)]
      rw [hz] at hr
      subst hr
      obtain ⟨ad, hA⟩ : ∃ ad : Addr, ad = ⟨gg, if cl.lits.length = 0 then 0 else p + 3, none⟩ := ⟨_, rfl⟩
      rw [← hA]
      obtain ⟨n, hn'⟩ : ∃ n, n = cl.lits.length := ⟨_, rfl⟩
      rw [← hn'] at hj hn ⊢
      have HB := Lib.hid hb
      clear hg hA hz hb hn' HR
      go_wp2
      go_ret
      exact ⟨rfl, HB.out⟩

end

end Go.Proofs.Ytbejjddkndcldaa

namespace Go.Proofs.Ytbejjddkndcldaa
open Go.RowKit

theorem new_any (lim : Int) (base : Nat) (w : World) (hB : base ≤ w.heap.size) :
    Calls Try.prog 40 #[.int .i64 lim] w fun e w' => ∃ g b, e = .returned (.pointer (some ⟨g, 0, none⟩)) ∧ Ar w' base g b none lim [] ∧ Below w.heap.size w w' := by
  have hmm := @run_makeMap Try.prog
  go_enter Try.func40, Try.ntmps40
  go_wp2
  go_ret
  refine ⟨w.heap.size + 1, w.heap.size, by simp, ⟨⟨none, 0, ?_, ?_, rfl⟩, ⟨.map [], 0, ?_, ?_, rfl, Nat.zero_le _⟩, by omega, by omega⟩, ((Below.refl _ _).alloc (Nat.le_refl _) _).alloc (by simp) _⟩
  · have := Blk.new (w.alloc (.map #[] 0)) 109 #[.slice none 0 0, .int .i64 lim, .map (some w.heap.size)]
    simpa [total_nil] using this
  · exact World.ownsRow_nil _ _ _ _
  · exact (World.ownsMap_made w Try.prog 3 _).alloc _
  · intro x; rfl

section
variable {w : World} {base g b : Nat} {gw : Option Nat} {lim : Int} {cs : List Cl}

theorem turn_of_map {w w' : World} {g b : Nat} {gw : Option Nat} (h : w.mapTurned w' b) : Turn w w' g b gw :=
  ⟨h.grown.os, h.grown.tape, h.grown.output, h.grown.size, fun k hk _ h2 _ => h.grown.block k hk (by intro e; injection e with e; exact h2 e)⟩
theorem blk_map_ne {w : World} {g b n : Nat} {t : TypeId} {cs : Array Value} {P : Program} {k : TypeId} {R : Value → Option (DataW Unit × List MemPlace)} {D : DataW Unit} (h : Blk w g t cs) (hm : w.ownsMap P k R b n D) : g ≠ b := by
  rintro rfl
  obtain ⟨es, clock, hb, _⟩ := hm
  unfold Blk at h
  rw [h] at hb
  cases hb
theorem own_map_ne {w : World} {b n base m : Nat} {e : TypeId} {v : Value} {xs : List Value} {P : Program} {k : TypeId} {R : Value → Option (DataW Unit × List MemPlace)} {D : DataW Unit} (h : w.ownsRow base e 1 v m xs) (hm : w.ownsMap P k R b n D) : some b ≠ v.ownBlock := by
  rcases h.2 with ⟨rfl, _⟩ | ⟨g', cap, cur, rfl, _, hh, _⟩
  · simp [Value.ownBlock]
  · intro e
    have e' : b = g' := by simpa [Value.ownBlock] using e
    subst e'
    exact blk_map_ne (show Blk w b _ cur from hh) hm rfl

theorem Ar.drew (h : Ar w base g b gw lim cs) : Ar w.drew base g b gw lim cs := ⟨h.ex, h.map, h.hg, h.hb⟩
theorem Turn.drew {w w' : World} {g b : Nat} {gw : Option Nat} (h : Turn w w' g b gw) : Turn w w'.drew g b gw := ⟨h.os, h.tape, h.output, h.size, h.block⟩

/-- a word of a clause is set: what the arena then is -/
theorem Ar.set_word (pre post : List Cl) (cl dl : Cl) (h : Ar w base g b gw lim (pre ++ cl :: post)) {gg : Nat} (hg : gw = some gg) {j : Nat} {u : Int} (hj : j < cl.size) (hd : dl.words = cl.words.set j u) (hl : dl.alive = cl.alive) :
    Ar (w.setCell ⟨gg, total pre + j, none⟩ (.int .i64 u)) base g b gw lim (pre ++ dl :: post) ∧ Turn w (w.setCell ⟨gg, total pre + j, none⟩ (.int .i64 u)) g b gw := by
  obtain ⟨A, c, hblk, hown, hgw⟩ := h.ex
  obtain ⟨D, n, hm, hh, hsz, hn⟩ := h.map
  have hs : dl.size = cl.size := by rw [← Cl.words_length, ← Cl.words_length, hd, List.length_set]
  have hle := size_le_total pre post cl
  obtain ⟨g2, rfl, _, _⟩ := own_addr hown (by omega)
  have e2 : g2 = gg := by rw [hg] at hgw; injection hgw
  subst e2
  obtain ⟨hst, hgr⟩ := World.ownsRow.stored hown (total pre + j) (Value.int .i64 u)
  have hne := own_blk_ne hown hblk (by decide)
  have hw : ((wordsOf (pre ++ cl :: post)).map (Value.int .i64)).set (total pre + j) (.int .i64 u) = (wordsOf (pre ++ dl :: post)).map (.int .i64) := by
    rw [← set_mid pre post cl dl j u hj hd, List.map_set]
  rw [hw] at hst
  have hc : countOf (pre ++ dl :: post) = countOf (pre ++ cl :: post) := by rw [countOf_mid, countOf_mid, hl]
  have htot := total_mid pre post _ _ hs
  refine ⟨⟨⟨some ⟨g2, 0, none⟩, c, ?_, ?_, by rw [htot]; exact hgw⟩, ⟨D, n, hm.setCell (own_map_ne hown hm ∘ (fun e => by rw [e]; rfl)) _, fun x => ?_, by rw [hsz, hc], by simpa using hn⟩, h.hg, h.hb⟩, ⟨rfl, rfl, rfl, by simp [World.setCell], fun k hk _ _ h3 => Below.heap_setCell w _ _ k (fun e => h3 (by rw [hg, e]))⟩⟩
  · rw [total_mid pre post _ _ hs]
    exact hblk.far (fun e => hne (by rw [e]; rfl)) _
  · rw [total_mid pre post _ _ hs]
    exact hst
  · rw [hh x]
    by_cases hx : x = total pre
    · rw [hx, at?_mid, at?_mid, hl]; cases cl.alive <;> rfl
    · rw [at?_other pre post _ _ hs.symm hx]

theorem swap_no (h : Ar w base g b gw lim cs) {x : Int} (i k : Int) (hx : at? cs x = none) (h1 : -9223372036854775808 ≤ x) (h2 : x ≤ 9223372036854775807) :
    Calls Try.prog 85 #[.pointer (some ⟨g, 0, none⟩), .int .i64 x, .int .i64 i, .int .i64 k] w fun e w' => e = .returned (.bool false) ∧ Below w.heap.size w w' := by
  have HN := Lib.hid (stored_no h hx h1 h2)
  clear h hx
  by_cases hi : i < 0
  all_goals by_cases hk : k < 0
  all_goals by_cases hik : i < k
  all_goals
    go_enter Try.func85, Try.ntmps85
    go_wp2_with fail
    refine HN.out.mono ?_
    rintro e w1 ⟨rfl, hb⟩
    go_wp2
    all_goals (go_ret; exact ⟨rfl, hb⟩)
/-- two indices of which one is none -/
theorem swap_bad (pre post : List Cl) (cl : Cl) (h : Ar w base g b gw lim (pre ++ cl :: post)) (ha : cl.alive = true) (ht : total (pre ++ cl :: post) ≤ 1099511627776) (i k : Int) (hik : i < 0 ∨ k < 0 ∨ cl.lits.length ≤ i ∨ cl.lits.length ≤ k) :
    Calls Try.prog 85 #[.pointer (some ⟨g, 0, none⟩), .int .i64 (total pre), .int .i64 i, .int .i64 k] w fun e w' => e = .returned (.bool false) ∧ Below w.heap.size w w' := by
  have HN := Lib.hid (stored_yes pre post cl h ha ht)
  have hle := size_le_total pre post cl
  have hsz : cl.size = cl.lits.length + 3 := rfl
  have hn : cl.lits.length ≤ 1099511627776 := by omega
  obtain ⟨p, hp⟩ : ∃ p, p = total pre := ⟨_, rfl⟩
  obtain ⟨n, hn'⟩ : ∃ n, n = cl.lits.length := ⟨_, rfl⟩
  rw [← hn'] at hik hn
  rw [← hp]
  rw [← hp, ← hn'] at HN
  clear h ha ht hp hn' hle hsz
  by_cases hik2 : i < k
  all_goals by_cases hlo : i < 0 ∨ k < 0
  · have hlo1 : i < 0 := by omega
    clear hlo hik
    go_enter Try.func85, Try.ntmps85
    go_wp2_with fail
    refine HN.out.mono ?_
    rintro e w1 ⟨⟨gg, hg, rfl⟩, hb⟩
    obtain ⟨ad, hA⟩ : ∃ ad : Addr, ad = ⟨gg, if n = 0 then 0 else p + 3, none⟩ := ⟨_, rfl⟩
    rw [← hA]
    clear hg hA
    go_wp2
    all_goals (go_ret; exact ⟨rfl, hb⟩)
  · have hlo1 : 0 ≤ i := by omega
    have hhi : (n : Int) ≤ k := by omega
    clear hlo hik
    go_enter Try.func85, Try.ntmps85
    go_wp2_with fail
    refine HN.out.mono ?_
    rintro e w1 ⟨⟨gg, hg, rfl⟩, hb⟩
    obtain ⟨ad, hA⟩ : ∃ ad : Addr, ad = ⟨gg, if n = 0 then 0 else p + 3, none⟩ := ⟨_, rfl⟩
    rw [← hA]
    clear hg hA
    go_wp2
    all_goals (go_ret; exact ⟨rfl, hb⟩)
  · have hlo1 : k < 0 := by omega
    clear hlo hik
    go_enter Try.func85, Try.ntmps85
    go_wp2_with fail
    refine HN.out.mono ?_
    rintro e w1 ⟨⟨gg, hg, rfl⟩, hb⟩
    obtain ⟨ad, hA⟩ : ∃ ad : Addr, ad = ⟨gg, if n = 0 then 0 else p + 3, none⟩ := ⟨_, rfl⟩
    rw [← hA]
    clear hg hA
    go_wp2
    all_goals (go_ret; exact ⟨rfl, hb⟩)
  · have hlo1 : 0 ≤ k := by omega
    have hhi : (n : Int) ≤ i := by omega
    clear hlo hik
    go_enter Try.func85, Try.ntmps85
    go_wp2_with fail
    refine HN.out.mono ?_
    rintro e w1 ⟨⟨gg, hg, rfl⟩, hb⟩
    obtain ⟨ad, hA⟩ : ∃ ad : Addr, ad = ⟨gg, if n = 0 then 0 else p + 3, none⟩ := ⟨_, rfl⟩
    rw [← hA]
    clear hg hA
    go_wp2
    all_goals (go_ret; exact ⟨rfl, hb⟩)
end

end Go.Proofs.Ytbejjddkndcldaa

namespace Go.Proofs.Ytbejjddkndcldaa
open Go.RowKit

section
variable {w : World} {base g b : Nat} {gw : Option Nat} {lim : Int} {cs : List Cl}

/-- the literals with two exchanged -/
def swapOf (xs : List Int) (i k : Nat) : List Int := (xs.set i (xs.getD k 0)).set k (xs.getD i 0)
theorem swapOf_length (xs : List Int) (i k : Nat) : (swapOf xs i k).length = xs.length := by simp [swapOf]

set_option maxRecDepth 100000 in
theorem swap_yes (pre post : List Cl) (cl : Cl) (h : Ar w base g b gw lim (pre ++ cl :: post)) (ha : cl.alive = true) (ht : total (pre ++ cl :: post) ≤ 1099511627776) (i k : Nat) (hi : i < cl.lits.length) (hk : k < cl.lits.length) :
    Calls Try.prog 85 #[.pointer (some ⟨g, 0, none⟩), .int .i64 (total pre), .int .i64 i, .int .i64 k] w fun e w' => e = .returned (.bool true) ∧ Ar w' base g b gw lim (pre ++ { cl with lits := swapOf cl.lits i k } :: post) ∧ Turn w w' g b gw := by
  have HN := Lib.hid (stored_yes pre post cl h ha ht)
  have H := Lib.hid h
  have hle := size_le_total pre post cl
  have hsz : cl.size = cl.lits.length + 3 := rfl
  have hn : cl.lits.length ≤ 1099511627776 := by omega
  have hp9 : total pre ≤ 1099511627776 := by omega
  have fin : ∀ (w1 w2 : World) (gg : Nat), Below w.heap.size w w1 → gw = some gg → w2 = (w1.setCell ⟨gg, total pre + 3 + i, none⟩ (.int .i64 (cl.lits.getD k 0))).setCell ⟨gg, total pre + 3 + k, none⟩ (.int .i64 (cl.lits.getD i 0)) →
      Ar w2 base g b gw lim (pre ++ { cl with lits := swapOf cl.lits i k } :: post) ∧ Turn w w2 g b gw := by
    rintro w1 w2 gg hb hg rfl
    obtain ⟨a1, t1⟩ := (h.below hb).set_word pre post cl { cl with lits := cl.lits.set i (cl.lits.getD k 0) } hg (j := 3 + i) (u := cl.lits.getD k 0) (by unfold Cl.size; omega) (by simp [Cl.words, Cl.head, show 3 + i = i + 3 by omega]) rfl
    obtain ⟨a2, t2⟩ := a1.set_word pre post _ { cl with lits := swapOf cl.lits i k } hg (j := 3 + k) (u := cl.lits.getD i 0) (by simp [Cl.size]; omega) (by simp [Cl.words, Cl.head, swapOf, show 3 + k = k + 3 by omega]) rfl
    rw [show total pre + 3 + i = total pre + (3 + i) by omega, show total pre + 3 + k = total pre + (3 + k) by omega]
    exact ⟨a2, ((Turn.of_below hb).trans t1 (.inl rfl)).trans t2 (.inl rfl)⟩
  have hne : cl.lits.length ≠ 0 := by omega
  rw [if_neg hne] at HN
  have FIN := Lib.hid fin
  obtain ⟨p, hp⟩ : ∃ p, p = total pre := ⟨_, rfl⟩
  obtain ⟨n, hn'⟩ : ∃ n, n = cl.lits.length := ⟨_, rfl⟩
  have HI := Lib.hid (And.intro hi hk)
  rw [← hn'] at hn hi hk
  rw [← hp] at hp9 FIN ⊢
  rw [← hp, ← hn'] at HN
  have HP := Lib.hid hp
  clear h ha ht hp hn' hle hsz fin hne
  go_enter Try.func85, Try.ntmps85
  go_wp2_with fail
  refine HN.out.mono ?_
  rintro e w1 ⟨⟨gg, hg, rfl⟩, hb⟩
  have h1 := H.out.below hb
  obtain ⟨ci, fi⟩ := h1.lit pre post cl hg HI.out.1
  obtain ⟨ck, fk⟩ := h1.lit pre post cl hg HI.out.2
  rw [← HP.out] at ci fi ck fk
  have FW := Lib.hid (fun w2 => FIN.out w1 w2 gg hb hg)
  obtain ⟨li, hli⟩ : ∃ li, li = cl.lits.getD i 0 := ⟨_, rfl⟩
  obtain ⟨lk, hlk⟩ : ∃ lk, lk = cl.lits.getD k 0 := ⟨_, rfl⟩
  rw [← hli] at ci FW
  rw [← hlk] at ck FW
  have i1 : (0 : Int) ≤ (i : Int) := by omega
  have i2 : (i : Int) < (n : Int) := by omega
  have i3 : (0 : Int) ≤ (k : Int) := by omega
  have i4 : (k : Int) < (n : Int) := by omega
  have ck2 : (w1.setCell ⟨gg, p + 3 + i, none⟩ (.int .i64 lk)).cell? ⟨gg, p + 3 + k, none⟩ = some (.int .i64 lk) := by
    by_cases e : i = k
    · subst e; exact World.cell?_setCell_same' _ _ _ (by rw [ci]; rfl)
    · rw [World.cell?_setCell_other _ _ _ _ (by intro e'; injection e'; omega)]; exact ck
  have fk2 : (w1.setCell ⟨gg, p + 3 + i, none⟩ (.int .i64 lk)).frozen? ⟨gg, p + 3 + k, none⟩ = false := by rw [World.frozen?_setCell]; exact fk
  have LL := Lib.hid (show i = k → li = lk from fun e => by rw [hli, hlk, e])
  clear hg hb h1 hli hlk
  rcases Nat.lt_trichotomy i k with hik | hik | hik
  all_goals first | (subst hik; clear fk ck; obtain rfl := LL.out rfl) | skip
  all_goals
    go_wp2_with fail
    go_region
    all_goals go_wp2
    all_goals go_ret
    all_goals exact ⟨rfl, (FW.out _ rfl).1.drew, (FW.out _ rfl).2.drew⟩
end

end Go.Proofs.Ytbejjddkndcldaa
