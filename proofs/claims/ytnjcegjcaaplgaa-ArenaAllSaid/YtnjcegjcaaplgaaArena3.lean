/- What changes the arena: New, Drop, SetGlue, SetUses. -/
import Derived.Test.YtnjcegjcaaplgaaArena2
namespace Go.Proofs.Ytnjcegjcaaplgaa
open Go.RowKit

theorem new_any (lim : Int) (base : Nat) (w : World) (hB : base ≤ w.heap.size) :
    Calls Try.prog 7 #[.int .i64 lim] w fun e w' => ∃ g b, e = .returned (.pointer (some ⟨g, 0, none⟩)) ∧ Ar w' base g b none lim [] ∧ Below w.heap.size w w' := by
  have hmm := @run_makeMap Try.prog
  go_enter Try.func7, Try.ntmps7
  go_wp2
  go_ret
  refine ⟨w.heap.size + 1, w.heap.size, by simp, ⟨⟨none, 0, ?_, ?_, rfl⟩, ⟨.map [], 0, ?_, ?_, rfl, Nat.zero_le _⟩, by omega, by omega⟩, ((Below.refl _ _).alloc (Nat.le_refl _) _).alloc (by simp) _⟩
  · have := Blk.new (w.alloc (.map #[] 0)) 53 #[.slice none 0 0, .int .i64 lim, .map (some w.heap.size)]
    simpa [total_nil] using this
  · exact World.ownsRow_nil _ _ _ _
  · exact (World.ownsMap_made w Try.prog 3 _).alloc _
  · intro x; rfl

section
variable {w : World} {base g b : Nat} {gw : Option Nat} {lim : Int} {cs : List Cl}

theorem turn_of_map {w w' : World} {g b : Nat} {gw : Option Nat} (h : w.mapTurned w' b) : Turn w w' g b gw :=
  ⟨h.grown.os, h.grown.tape, h.grown.output, h.grown.size, fun k hk _ h2 _ => h.grown.block k hk (by intro e; injection e with e; exact h2 e)⟩
theorem blk_map_ne {w : World} {g b n : Nat} {t : TypeId} {cs : Array Value} {P : Program} {k : TypeId} {R : Value → Option (DataW Unit × List MemPlace)} {D : DataW Unit} (h : Blk w g t cs) (hm : w.ownsMap P k R b n D) : g ≠ b := by
  rintro rfl
  obtain ⟨es, clock, hb, _⟩ := hm
  unfold Blk at h
  rw [h] at hb
  cases hb
theorem own_map_ne {w : World} {b n base m : Nat} {e : TypeId} {v : Value} {xs : List Value} {P : Program} {k : TypeId} {R : Value → Option (DataW Unit × List MemPlace)} {D : DataW Unit} (h : w.ownsRow base e 1 v m xs) (hm : w.ownsMap P k R b n D) : some b ≠ v.ownBlock := by
  rcases h.2 with ⟨rfl, _⟩ | ⟨g', cap, cur, rfl, _, hh, _⟩
  · simp [Value.ownBlock]
  · intro e
    have e' : b = g' := by simpa [Value.ownBlock] using e
    subst e'
    exact blk_map_ne (show Blk w b _ cur from hh) hm rfl

theorem drop_no (h : Ar w base g b gw lim cs) {x : Int} (hx : at? cs x = none) (h1 : -9223372036854775808 ≤ x) (h2 : x ≤ 9223372036854775807) :
    Calls Try.prog 11 #[.pointer (some ⟨g, 0, none⟩), .int .i64 x] w fun e w' => e = .returned (.bool false) ∧ Below w.heap.size w w' := by
  have HN := Lib.hid (has_no h hx h1 h2)
  clear h hx
  go_enter Try.func11, Try.ntmps11
  go_wp2_with fail
  refine HN.out.mono ?_
  rintro e w1 ⟨rfl, hb⟩
  go_wp2
  go_ret
  exact ⟨rfl, hb⟩

theorem drop_yes (pre post : List Cl) (cl : Cl) (h : Ar w base g b gw lim (pre ++ cl :: post)) (ha : cl.alive = true) (ht : total (pre ++ cl :: post) ≤ 1099511627776) :
    Calls Try.prog 11 #[.pointer (some ⟨g, 0, none⟩), .int .i64 (total pre)] w fun e w' => e = .returned (.bool true) ∧ Ar w' base g b gw lim (pre ++ kill cl :: post) ∧ Turn w w' g b gw := by
  have HN := Lib.hid (has_yes pre post cl h ha ht)
  have H := Lib.hid h
  have hp1 : ((total pre : Nat) : Int) ≤ 9223372036854775807 := by have := size_le_total pre post cl; omega
  have HA := Lib.hid ha
  obtain ⟨p, hp⟩ : ∃ p, p = total pre := ⟨_, rfl⟩
  rw [← hp] at HN hp1 ⊢
  have HP := Lib.hid hp
  clear h ha ht hp
  go_enter Try.func11, Try.ntmps11
  go_wp2_with fail
  refine HN.out.mono ?_
  rintro e w1 ⟨rfl, hb⟩
  have h1 := H.out.below hb
  obtain ⟨A, c, hblk, hown, hgw⟩ := h1.ex
  obtain ⟨D, n, hm, hh, hsz, hn⟩ := h1.map
  have c2 := hblk.cell 2
  simp at c2
  have HB := Lib.hid hb
  have HBL := Lib.hid hblk
  have HO := Lib.hid hown
  have HG := Lib.hid hgw
  have HH := Lib.hid hh
  have HS := Lib.hid (And.intro hsz hn)
  clear h1 hb hblk hown hgw hh hsz hn
  go_wp2_with (at_delete; refine wpList_delete_own _ rfl _ _ 51 3 rfl 54 intLaw Try.underlying51 _ b n D rfl hm _ _ rfl (Maps.keyOf_int_mk Try.underlying3 (WalkArith.wf_i64 (by omega))) ?_; intro w2 hm2 ht2)
  go_ret
  have e0 := HP.out
  have hk := modAt_mid kill pre cl post
  have hat : at? (pre ++ cl :: post) p = some cl := by rw [e0, at?_mid, if_pos HA.out]
  have hgrow := ht2.grown
  have htot := total_mid pre post _ _ (kill_size cl)
  refine ⟨rfl, ⟨⟨A, c, ?_, ?_, by rw [htot]; exact HG.out⟩, ⟨_, n, hm2, fun x => ?_, ?_, ?_⟩, H.out.hg, H.out.hb⟩, (Turn.of_below HB.out).trans (turn_of_map ht2) (.inl rfl)⟩
  · rw [total_mid pre post _ _ (kill_size cl)]
    exact HBL.out.grown hgrow (by intro e; injection e with e; exact blk_map_ne HBL.out hm e)
  · rw [← hk, ← e0, words_kill hat, e0, hk, total_mid pre post _ _ (kill_size cl)]
    exact HO.out.kept hgrow (.inr (own_map_ne HO.out hm).symm)
  · rw [← hk, ← e0, at?_kill hat]
    by_cases hx : x = p
    · rw [if_pos hx, hx, Maps.has_del_same]; rfl
    · rw [if_neg hx, Maps.has_del_other (by intro e; injection e with _ e; exact hx e), HH.out]
  · have h1 := Maps.size_del (k := .int .i64 p) (hm.tidy intLaw)
    rw [HH.out, hat, Option.isSome_some, if_pos rfl, HS.out.1] at h1
    have h2 := count_kill hat
    rw [e0, hk] at h2
    omega
  · have := HS.out.2
    simpa using this

theorem Ar.drew (h : Ar w base g b gw lim cs) : Ar w.drew base g b gw lim cs := ⟨h.ex, h.map, h.hg, h.hb⟩
theorem Turn.drew {w w' : World} {g b : Nat} {gw : Option Nat} (h : Turn w w' g b gw) : Turn w w'.drew g b gw := ⟨h.os, h.tape, h.output, h.size, h.block⟩

/-- a word of a clause is set: what the arena then is -/
theorem Ar.set_word (pre post : List Cl) (cl dl : Cl) (h : Ar w base g b gw lim (pre ++ cl :: post)) {gg : Nat} (hg : gw = some gg) {j : Nat} {u : Int} (hj : j < cl.size) (hd : dl.words = cl.words.set j u) (hl : dl.alive = cl.alive) :
    Ar (w.setCell ⟨gg, total pre + j, none⟩ (.int .i64 u)) base g b gw lim (pre ++ dl :: post) ∧ Turn w (w.setCell ⟨gg, total pre + j, none⟩ (.int .i64 u)) g b gw := by
  obtain ⟨A, c, hblk, hown, hgw⟩ := h.ex
  obtain ⟨D, n, hm, hh, hsz, hn⟩ := h.map
  have hs : dl.size = cl.size := by rw [← Cl.words_length, ← Cl.words_length, hd, List.length_set]
  have hle := size_le_total pre post cl
  obtain ⟨g2, rfl, _, _⟩ := own_addr hown (by omega)
  have e2 : g2 = gg := by rw [hg] at hgw; injection hgw
  subst e2
  obtain ⟨hst, hgr⟩ := World.ownsRow.stored hown (total pre + j) (Value.int .i64 u)
  have hne := own_blk_ne hown hblk (by decide)
  have hw : ((wordsOf (pre ++ cl :: post)).map (Value.int .i64)).set (total pre + j) (.int .i64 u) = (wordsOf (pre ++ dl :: post)).map (.int .i64) := by
    rw [← set_mid pre post cl dl j u hj hd, List.map_set]
  rw [hw] at hst
  have hc : countOf (pre ++ dl :: post) = countOf (pre ++ cl :: post) := by rw [countOf_mid, countOf_mid, hl]
  have htot := total_mid pre post _ _ hs
  refine ⟨⟨⟨some ⟨g2, 0, none⟩, c, ?_, ?_, by rw [htot]; exact hgw⟩, ⟨D, n, hm.setCell (own_map_ne hown hm ∘ (fun e => by rw [e]; rfl)) _, fun x => ?_, by rw [hsz, hc], by simpa using hn⟩, h.hg, h.hb⟩, ⟨rfl, rfl, rfl, by simp [World.setCell], fun k hk _ _ h3 => Below.heap_setCell w _ _ k (fun e => h3 (by rw [hg, e]))⟩⟩
  · rw [total_mid pre post _ _ hs]
    exact hblk.far (fun e => hne (by rw [e]; rfl)) _
  · rw [total_mid pre post _ _ hs]
    exact hst
  · rw [hh x]
    by_cases hx : x = total pre
    · rw [hx, at?_mid, at?_mid, hl]; cases cl.alive <;> rfl
    · rw [at?_other pre post _ _ hs.symm hx]

theorem setnumber_no (h : Ar w base g b gw lim cs) {x : Int} (k n : Int) (hx : at? cs x = none) (h1 : -9223372036854775808 ≤ x) (h2 : x ≤ 9223372036854775807) :
    Calls Try.prog 31 #[.pointer (some ⟨g, 0, none⟩), .int .i64 x, .int .i64 k, .int .i64 n] w fun e w' => e = .returned (.bool false) ∧ Below w.heap.size w w' := by
  have HN := Lib.hid (has_no h hx h1 h2)
  clear h hx
  go_enter Try.func31, Try.ntmps31
  go_wp2_with fail
  refine HN.out.mono ?_
  rintro e w1 ⟨rfl, hb⟩
  go_wp2
  go_ret
  exact ⟨rfl, hb⟩
theorem setnumber_yes (pre post : List Cl) (cl dl : Cl) (h : Ar w base g b gw lim (pre ++ cl :: post)) (ha : cl.alive = true) (ht : total (pre ++ cl :: post) ≤ 1099511627776) (k : Nat) (n : Int) (hk : k < 3) (hd : dl.words = cl.words.set k (least n)) (hl : dl.alive = cl.alive) :
    Calls Try.prog 31 #[.pointer (some ⟨g, 0, none⟩), .int .i64 (total pre), .int .i64 k, .int .i64 n] w fun e w' => e = .returned (.bool true) ∧ Ar w' base g b gw lim (pre ++ dl :: post) ∧ Turn w w' g b gw := by
  have HN := Lib.hid (has_yes pre post cl h ha ht)
  have H := Lib.hid h
  have hle := size_le_total pre post cl
  have hks : k < cl.size := by have := cl.size_pos; omega
  have HK := Lib.hid hks
  have HD := Lib.hid (And.intro hd hl)
  obtain ⟨u, hu⟩ : ∃ u, (wordsOf (pre ++ cl :: post))[total pre + k]? = some u := by rw [word_mid pre post cl k hks]; exact ⟨_, List.getElem?_eq_getElem (by rw [Cl.words_length]; exact hks)⟩
  have HU := Lib.hid hu
  obtain ⟨p, hp⟩ : ∃ p, p = total pre := ⟨_, rfl⟩
  rw [← hp] at hle ⊢
  rw [← hp] at HN HU
  have HP := Lib.hid hp
  have HT := Lib.hid ht
  clear h ha hp ht hd hl hks hu
  go_enter Try.func31, Try.ntmps31
  go_wp2_with fail
  refine HN.out.mono ?_
  rintro e w1 ⟨rfl, hb⟩
  have h1 := H.out.below hb
  have H1 := Lib.hid h1
  obtain ⟨A, c, hblk, hown, hgw⟩ := h1.ex
  obtain ⟨gg, rfl, _, _, hlt, hc, hf⟩ := h1.word hown HU.out
  have c0 := hblk.cell 0
  simp at c0
  obtain ⟨T, hT⟩ : ∃ T, T = total (pre ++ cl :: post) := ⟨_, rfl⟩
  have ht := HT.out
  have HG := Lib.hid hgw
  have hgg : g ≠ gg := fun e => own_blk_ne hown hblk (by decide) (by rw [e]; rfl)
  rw [← hT] at hle c0 hlt ht
  have HB := Lib.hid hb
  clear h1 hb hblk hown hgw hT
  have i1 : IntKind.i64.wrap ((p : Int) + k) = p + k := IntWalk.i64_in _ (by omega)
  have i2 : (0 : Int) ≤ p + k := by omega
  have i3 : (p : Int) + k < T := by omega
  have i4 : ((p : Int) + k).toNat = p + k := by omega
  go_wp2_with fail
  go_region_held3 (fun w' => w'.cell? ⟨g, 0, none⟩ = some (.slice (some ⟨gg, 0, none⟩) T c)) (first | exact c0 | exact (World.cell?_setCell_other w1 ⟨gg, p + k, none⟩ ⟨g, 0, none⟩ _ (by intro e; injection e with e; omega)).trans c0 | go_keep)
    (first | (go_at_call 19; refine (clamped_any _ _).mono ?_; rintro e w2 ⟨rfl, rfl⟩))
  go_wp2
  go_ret
  obtain ⟨ha2, ht2⟩ := H1.out.set_word pre post cl dl HG.out.symm HK.out HD.out.1 HD.out.2
  rw [← HP.out] at ha2 ht2
  exact ⟨rfl, ha2.drew, ((Turn.of_below HB.out).trans ht2 (.inl rfl)).drew⟩

theorem setglue_no (h : Ar w base g b gw lim cs) {x : Int} (n : Int) (hx : at? cs x = none) (h1 : -9223372036854775808 ≤ x) (h2 : x ≤ 9223372036854775807) :
    Calls Try.prog 22 #[.pointer (some ⟨g, 0, none⟩), .int .i64 x, .int .i64 n] w fun e w' => e = .returned (.bool false) ∧ Below w.heap.size w w' := by
  have HN := Lib.hid (setnumber_no h 1 n hx h1 h2)
  clear h hx
  go_enter Try.func22, Try.ntmps22
  go_wp2_with fail
  refine HN.out.mono ?_
  rintro e w1 ⟨rfl, hb⟩
  go_wp2
  go_ret
  exact ⟨rfl, hb⟩
theorem setglue_yes (pre post : List Cl) (cl : Cl) (h : Ar w base g b gw lim (pre ++ cl :: post)) (ha : cl.alive = true) (ht : total (pre ++ cl :: post) ≤ 1099511627776) (n : Int) :
    Calls Try.prog 22 #[.pointer (some ⟨g, 0, none⟩), .int .i64 (total pre), .int .i64 n] w fun e w' => e = .returned (.bool true) ∧ Ar w' base g b gw lim (pre ++ { cl with glue := least n } :: post) ∧ Turn w w' g b gw := by
  have HN := Lib.hid (setnumber_yes pre post cl { cl with glue := least n } h ha ht 1 n (by omega) rfl rfl)
  obtain ⟨p, hp⟩ : ∃ p, p = total pre := ⟨_, rfl⟩
  rw [← hp] at HN ⊢
  clear h ha ht hp
  go_enter Try.func22, Try.ntmps22
  go_wp2_with fail
  refine HN.out.mono ?_
  rintro e w1 ⟨rfl, hb⟩
  have HB := Lib.hid hb
  clear hb
  go_wp2
  go_ret
  exact ⟨rfl, HB.out⟩

theorem setuses_no (h : Ar w base g b gw lim cs) {x : Int} (n : Int) (hx : at? cs x = none) (h1 : -9223372036854775808 ≤ x) (h2 : x ≤ 9223372036854775807) :
    Calls Try.prog 24 #[.pointer (some ⟨g, 0, none⟩), .int .i64 x, .int .i64 n] w fun e w' => e = .returned (.bool false) ∧ Below w.heap.size w w' := by
  have HN := Lib.hid (setnumber_no h 2 n hx h1 h2)
  clear h hx
  go_enter Try.func24, Try.ntmps24
  go_wp2_with fail
  refine HN.out.mono ?_
  rintro e w1 ⟨rfl, hb⟩
  go_wp2
  go_ret
  exact ⟨rfl, hb⟩
theorem setuses_yes (pre post : List Cl) (cl : Cl) (h : Ar w base g b gw lim (pre ++ cl :: post)) (ha : cl.alive = true) (ht : total (pre ++ cl :: post) ≤ 1099511627776) (n : Int) :
    Calls Try.prog 24 #[.pointer (some ⟨g, 0, none⟩), .int .i64 (total pre), .int .i64 n] w fun e w' => e = .returned (.bool true) ∧ Ar w' base g b gw lim (pre ++ { cl with uses := least n } :: post) ∧ Turn w w' g b gw := by
  have HN := Lib.hid (setnumber_yes pre post cl { cl with uses := least n } h ha ht 2 n (by omega) rfl rfl)
  obtain ⟨p, hp⟩ : ∃ p, p = total pre := ⟨_, rfl⟩
  rw [← hp] at HN ⊢
  clear h ha ht hp
  go_enter Try.func24, Try.ntmps24
  go_wp2_with fail
  refine HN.out.mono ?_
  rintro e w1 ⟨rfl, hb⟩
  have HB := Lib.hid hb
  clear hb
  go_wp2
  go_ret
  exact ⟨rfl, HB.out⟩

theorem swap_no (h : Ar w base g b gw lim cs) {x : Int} (i k : Int) (hx : at? cs x = none) (h1 : -9223372036854775808 ≤ x) (h2 : x ≤ 9223372036854775807) :
    Calls Try.prog 21 #[.pointer (some ⟨g, 0, none⟩), .int .i64 x, .int .i64 i, .int .i64 k] w fun e w' => e = .returned (.bool false) ∧ Below w.heap.size w w' := by
  have HN := Lib.hid (stored_no h hx h1 h2)
  clear h hx
  by_cases hi : i < 0
  all_goals by_cases hk : k < 0
  all_goals by_cases hik : i < k
  all_goals
    go_enter Try.func21, Try.ntmps21
    go_wp2_with fail
    refine HN.out.mono ?_
    rintro e w1 ⟨rfl, hb⟩
    go_wp2
    all_goals (go_ret; exact ⟨rfl, hb⟩)
/-- two indices of which one is none -/
theorem swap_bad (pre post : List Cl) (cl : Cl) (h : Ar w base g b gw lim (pre ++ cl :: post)) (ha : cl.alive = true) (ht : total (pre ++ cl :: post) ≤ 1099511627776) (i k : Int) (hik : i < 0 ∨ k < 0 ∨ cl.lits.length ≤ i ∨ cl.lits.length ≤ k) :
    Calls Try.prog 21 #[.pointer (some ⟨g, 0, none⟩), .int .i64 (total pre), .int .i64 i, .int .i64 k] w fun e w' => e = .returned (.bool false) ∧ Below w.heap.size w w' := by
  have HN := Lib.hid (stored_yes pre post cl h ha ht)
  have hle := size_le_total pre post cl
  have hsz : cl.size = cl.lits.length + 3 := rfl
  have hn : cl.lits.length ≤ 1099511627776 := by omega
  obtain ⟨p, hp⟩ : ∃ p, p = total pre := ⟨_, rfl⟩
  obtain ⟨n, hn'⟩ : ∃ n, n = cl.lits.length := ⟨_, rfl⟩
  rw [← hn'] at hik hn
  rw [← hp]
  rw [← hp, ← hn'] at HN
  clear h ha ht hp hn' hle hsz
  by_cases hik2 : i < k
  all_goals by_cases hlo : i < 0 ∨ k < 0
  · have hlo1 : i < 0 := by omega
    clear hlo hik
    go_enter Try.func21, Try.ntmps21
    go_wp2_with fail
    refine HN.out.mono ?_
    rintro e w1 ⟨⟨gg, hg, rfl⟩, hb⟩
    obtain ⟨ad, hA⟩ : ∃ ad : Addr, ad = ⟨gg, if n = 0 then 0 else p + 3, none⟩ := ⟨_, rfl⟩
    rw [← hA]
    clear hg hA
    go_wp2
    all_goals (go_ret; exact ⟨rfl, hb⟩)
  · have hlo1 : 0 ≤ i := by omega
    have hhi : (n : Int) ≤ k := by omega
    clear hlo hik
    go_enter Try.func21, Try.ntmps21
    go_wp2_with fail
    refine HN.out.mono ?_
    rintro e w1 ⟨⟨gg, hg, rfl⟩, hb⟩
    obtain ⟨ad, hA⟩ : ∃ ad : Addr, ad = ⟨gg, if n = 0 then 0 else p + 3, none⟩ := ⟨_, rfl⟩
    rw [← hA]
    clear hg hA
    go_wp2
    all_goals (go_ret; exact ⟨rfl, hb⟩)
  · have hlo1 : k < 0 := by omega
    clear hlo hik
    go_enter Try.func21, Try.ntmps21
    go_wp2_with fail
    refine HN.out.mono ?_
    rintro e w1 ⟨⟨gg, hg, rfl⟩, hb⟩
    obtain ⟨ad, hA⟩ : ∃ ad : Addr, ad = ⟨gg, if n = 0 then 0 else p + 3, none⟩ := ⟨_, rfl⟩
    rw [← hA]
    clear hg hA
    go_wp2
    all_goals (go_ret; exact ⟨rfl, hb⟩)
  · have hlo1 : 0 ≤ k := by omega
    have hhi : (n : Int) ≤ i := by omega
    clear hlo hik
    go_enter Try.func21, Try.ntmps21
    go_wp2_with fail
    refine HN.out.mono ?_
    rintro e w1 ⟨⟨gg, hg, rfl⟩, hb⟩
    obtain ⟨ad, hA⟩ : ∃ ad : Addr, ad = ⟨gg, if n = 0 then 0 else p + 3, none⟩ := ⟨_, rfl⟩
    rw [← hA]
    clear hg hA
    go_wp2
    all_goals (go_ret; exact ⟨rfl, hb⟩)
end
end Go.Proofs.Ytnjcegjcaaplgaa
