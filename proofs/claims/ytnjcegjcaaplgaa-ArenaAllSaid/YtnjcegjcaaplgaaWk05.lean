/- How things stand in the loop over All. -/
import Derived.Test.YtnjcegjcaaplgaaRooms05
import Derived.Test.YtnjcegjcaaplgaaDo05a
import Derived.Test.YtnjcegjcaaplgaaRegionRound
namespace Go.Proofs.Ytnjcegjcaaplgaa
open Go.RowKit
set_option linter.unusedVariables false
set_option linter.unusedSimpArgs false

theorem own_fr {w w' : World} {base D n : Nat} {e : TypeId} {v : Value} {xs : List Value} (h : w.ownsRow D e 1 v n xs) (hf : Fr base w w') (h1 : e ≠ 3) (h2 : e ≠ 36) (h3 : e ≠ 53) : w'.ownsRow D e 1 v n xs := by
  refine ⟨h.1, ?_⟩
  rcases h.2 with hn | ⟨g', cap', cur, hv, hb', hg', rest⟩
  · exact .inl hn
  · exact .inr ⟨g', cap', cur, hv, hb', hf.blk g' e cur hg' h1 h2 h3, rest⟩
/-- the pointers to the statements' clauses -/
def ptrs (ps : List Nat) : List Value := ps.map fun p => .pointer (some ⟨p, 0, none⟩)
theorem ptrs_length (ps : List Nat) : (ptrs ps).length = ps.length := by simp [ptrs]
theorem split_at {α : Type} {cs : List α} {K : Nat} {cl : α} (h : cs[K]? = some cl) : ∃ pre post, cs = pre ++ cl :: post ∧ pre.length = K := by
  obtain ⟨hk, rfl⟩ := List.getElem?_eq_some_iff.1 h
  exact ⟨cs.take K, cs.drop (K + 1), by rw [← List.drop_eq_getElem_cons hk, List.take_append_drop], by rw [List.length_take]; omega⟩

/-- an arena's blocks lie below B -/
structure Low (g b : Nat) (gw : Option Nat) (B : Nat) : Prop where
  g : g < B
  b : b < B
  gw : ∀ q, gw = some q → q < B
theorem Ar.lower {w w' : World} {base g b B : Nat} {gw : Option Nat} {lim : Int} {cs : List Cl} (h : Ar w base g b gw lim cs) (hb : Below B w w') (hl : Low g b gw B) : Ar w' base g b gw lim cs := by
  obtain ⟨A, c, e1, e2, e3⟩ := h.ex
  obtain ⟨D, n, ⟨es, clock, m1, m2⟩, rest⟩ := h.map
  exact ⟨⟨A, c, e1.below hb hl.g, own_below e2 hb (fun q hq => hl.gw q (by rw [← e3]; exact hq)), e3⟩, ⟨D, n, ⟨es, clock, (hb.block b hl.b).trans m1, m2⟩, rest⟩, h.hg, h.hb⟩
/-- the statements' clauses: where they begin, whether they are there -/
structure Ml (W : World) (D B : Nat) (ps : List Nat) (cs : List Cl) : Prop where
  len : ps.length = cs.length
  nd : ps.Nodup
  at_ : ∀ (K : Nat) (cl : Cl), cs[K]? = some cl → ∃ x1 x2 x3 x4 : Value, Blk W (ps.getD K 0) 36 #[.int .i64 (startOf cs K), x1, x2, x3, x4, .bool (!cl.alive)] ∧ D ≤ ps.getD K 0 ∧ ps.getD K 0 < B
theorem Ml.keep {W W' : World} {D B : Nat} {ps : List Nat} {cs : List Cl} (h : Ml W D B ps cs) (hk : ∀ q X, Blk W q 36 X → q < B → Blk W' q 36 X) : Ml W' D B ps cs :=
  ⟨h.len, h.nd, fun K cl hc => by obtain ⟨x1, x2, x3, x4, h1, h2, h3⟩ := h.at_ K cl hc; exact ⟨x1, x2, x3, x4, hk _ _ h1 h3, h2, h3⟩⟩
theorem Ml.ofModel {W : World} {D B : Nat} {gw : Option Nat} {ps : List Nat} {cs : List Cl} (h : Model W D gw ps cs) (hB : W.heap.size ≤ B) : Ml W D B ps cs :=
  ⟨h.len, h.nd, fun K cl hc => by obtain ⟨⟨L, n1, n2, lr, zs, h1, _⟩, h2⟩ := h.at_ K cl hc; exact ⟨_, _, _, _, h1, h2, Nat.lt_of_lt_of_le h1.lt hB⟩⟩
theorem nodup_ne {ps : List Nat} (h : ps.Nodup) {j k : Nat} (hj : j < ps.length) (hk : k < ps.length) (hne : j ≠ k) : ps.getD j 0 ≠ ps.getD k 0 := by
  intro e
  simp only [List.getD, List.getElem?_eq_getElem hj, List.getElem?_eq_getElem hk, Option.getD_some] at e
  have hp := List.pairwise_iff_getElem.1 h
  rcases Nat.lt_or_gt_of_ne hne with hl | hl
  · exact hp j k hj hk hl e
  · exact hp k j hk hj hl e.symm
theorem Ml.kill {W : World} {D B : Nat} {ps : List Nat} {pre post : List Cl} {cl : Cl} (h : Ml W D B ps (pre ++ cl :: post)) : Ml (W.setCell ⟨ps.getD pre.length 0, 5, none⟩ (.bool true)) D B ps (pre ++ kill cl :: post) := by
  have hlen := h.len
  refine ⟨by rw [h.len]; simp, h.nd, fun k c hc => ?_⟩
  rw [startOf_sizes (b := pre ++ cl :: post) (by simp [kill_size])]
  by_cases e : k = pre.length
  · subst e
    rw [get_at] at hc
    injection hc with hc
    subst hc
    obtain ⟨x1, x2, x3, x4, h1, h2, h3⟩ := h.at_ pre.length cl (get_at pre post cl)
    exact ⟨x1, x2, x3, x4, h1.set_ 5 (.bool true), h2, h3⟩
  · rw [get_mid pre post (_root_.Go.Proofs.Ytnjcegjcaaplgaa.kill cl) cl e] at hc
    obtain ⟨x1, x2, x3, x4, h1, h2, h3⟩ := h.at_ k c hc
    have hk := (List.getElem?_eq_some_iff.1 hc).1
    exact ⟨x1, x2, x3, x4, h1.far (nodup_ne h.nd (by omega) (by simp at hlen; omega) e) _, h2, h3⟩

structure Wk (w W : World) (base g b D B : Nat) (gw : Option Nat) (A : Option Addr) (c : Nat) (ps : List Nat) (cs : List Cl) (kk lv dr : Nat) (bl bd br ba bs bk bn : Nat) : Prop where
  ar : Ar W base g b gw 0 cs
  mo : Ml W D B ps cs
  row : W.ownsRow D 34 1 (.slice A ps.length c) ps.length (ptrs ps)
  fr : Below base w W
  leave : Blk W bl 5 #[.int .u8 lv]
  drop : Blk W bd 5 #[.int .u8 dr]
  res : Blk W br 4 #[.bool false]
  arena : Blk W ba 25 #[.pointer (some ⟨g, 0, none⟩)]
  all : Blk W bs 27 #[.slice A ps.length c]
  kbox : Blk W bk 3 #[.int .i64 kk]
  abox : Blk W bn 25 #[.pointer (some ⟨g, 0, none⟩)]
  kgw : some bk ≠ gw
  kD : base ≤ bk
  rD : base ≤ br
  lo : Low g b gw B
  loR : ∀ q, (Value.slice A ps.length c).ownBlock = some q → q < B
  loB : (bl < B ∧ bd < B ∧ br < B) ∧ (ba < B ∧ bs < B ∧ bk < B ∧ bn < B) ∧ base ≤ B ∧ B ≤ W.heap.size
section
variable {w W W' : World} {base g b D B : Nat} {gw : Option Nat} {A : Option Addr} {c : Nat} {ps : List Nat} {cs cs' pre post : List Cl} {cl : Cl} {kk kk' lv dr bl bd br ba bs bk bn : Nat}
theorem Wk.step (h : Wk w W base g b D B gw A c ps cs kk lv dr bl bd br ba bs bk bn) (hf : Fr base W W') (ha : Ar W' base g b gw 0 cs') (hm : Ml W' D B ps cs') (hk : Blk W' bk 3 #[.int .i64 kk']) : Wk w W' base g b D B gw A c ps cs' kk' lv dr bl bd br ba bs bk bn :=
  ⟨ha, hm, own_fr h.row hf (by decide) (by decide) (by decide), h.fr.trans hf.below,
    hf.blk _ _ _ h.leave (by decide) (by decide) (by decide), hf.blk _ _ _ h.drop (by decide) (by decide) (by decide), hf.blk _ _ _ h.res (by decide) (by decide) (by decide), hf.blk _ _ _ h.arena (by decide) (by decide) (by decide), hf.blk _ _ _ h.all (by decide) (by decide) (by decide), hk, hf.blk _ _ _ h.abox (by decide) (by decide) (by decide), h.kgw, h.kD, h.rD, h.lo, h.loR,
    h.loB.1, h.loB.2.1, h.loB.2.2.1, Nat.le_trans h.loB.2.2.2 hf.below.size⟩
theorem Wk.hB (h : Wk w W base g b D B gw A c ps cs kk lv dr bl bd br ba bs bk bn) : base ≤ W.heap.size := by have := h.kbox.lt; have := h.kD; omega
theorem Wk.lower (h : Wk w W base g b D B gw A c ps cs kk lv dr bl bd br ba bs bk bn) (hb : Below B W W') : Wk w W' base g b D B gw A c ps cs kk lv dr bl bd br ba bs bk bn := by
  obtain ⟨⟨l1, l2, l3⟩, ⟨l4, l5, l6, l7⟩, l8, l9⟩ := h.loB
  exact ⟨h.ar.lower hb h.lo, h.mo.keep fun q X hq hl => hq.below hb hl, own_below h.row hb h.loR, h.fr.trans (hb.mono l8), h.leave.below hb l1, h.drop.below hb l2, h.res.below hb l3, h.arena.below hb l4, h.all.below hb l5, h.kbox.below hb l6, h.abox.below hb l7, h.kgw, h.kD, h.rD, h.lo, h.loR, h.loB.1, h.loB.2.1, l8, Nat.le_trans l9 hb.size⟩
theorem Wk.drew (h : Wk w W base g b D B gw A c ps cs kk lv dr bl bd br ba bs bk bn) : Wk w W.drew base g b D B gw A c ps cs kk lv dr bl bd br ba bs bk bn := h.lower (Below.refl _ _).drew
theorem Wk.kset (h : Wk w W base g b D B gw A c ps cs kk lv dr bl bd br ba bs bk bn) (u : Nat) : Wk w (W.setCell ⟨bk, 0, none⟩ (.int .i64 u)) base g b D B gw A c ps cs u lv dr bl bd br ba bs bk bn := by
  obtain ⟨A1, c1, hk, _, _⟩ := h.ar.ex
  obtain ⟨M, n, hm, _⟩ := h.ar.map
  refine h.step (Fr.set h.kbox (.inl rfl) h.kD 0 _) (h.ar.far _ (h.kbox.ne_ hk (by decide)) (blk_map_ne h.kbox hm) h.kgw) (h.mo.keep fun q X hq _ => hq.far (hq.ne_ h.kbox (by decide)) _) ?_
  have := h.kbox.set_ 0 (.int .i64 u)
  simpa using this
/-- what a round reads of the clause at its place -/
theorem Wk.clause (h : Wk w W base g b D B gw A c ps cs kk lv dr bl bd br ba bs bk bn) {K : Nat} (hc : cs[K]? = some cl) : W.cell? ⟨ps.getD K 0, 0, none⟩ = some (.int .i64 (startOf cs K)) ∧ W.cell? ⟨ps.getD K 0, 5, none⟩ = some (.bool (!cl.alive)) ∧
    ps.getD K 0 ≠ bl ∧ ps.getD K 0 ≠ bk ∧ ps.getD K 0 ≠ bs ∧ ps.getD K 0 < B ∧ ps.getD K 0 ≠ br := by
  obtain ⟨x1, x2, x3, x4, h1, h2, h3⟩ := h.mo.at_ K cl hc
  exact ⟨h1.cell 0, h1.cell 5, h1.ne_ h.leave (by decide), h1.ne_ h.kbox (by decide), h1.ne_ h.all (by decide), h3, h1.ne_ h.res (by decide)⟩
theorem Wk.rowcell {gr : Nat} (h : Wk w W base g b D B gw (some ⟨gr, 0, none⟩) c ps cs kk lv dr bl bd br ba bs bk bn) {j : Nat} (hj : j < ps.length) : W.cell? ⟨gr, j, none⟩ = some (.pointer (some ⟨ps.getD j 0, 0, none⟩)) := by
  rw [World.ownsRow.cellAt h.row j (by omega)]
  simp [ptrs, List.getD, hj]
theorem Wk.boxes (h : Wk w W base g b D B gw A c ps cs kk lv dr bl bd br ba bs bk bn) : W.cell? ⟨bk, 0, none⟩ = some (.int .i64 kk) ∧ W.frozen? ⟨bk, 0, none⟩ = false ∧ W.cell? ⟨bs, 0, none⟩ = some (.slice A ps.length c) ∧ W.cell? ⟨ba, 0, none⟩ = some (.pointer (some ⟨g, 0, none⟩)) ∧ W.cell? ⟨bl, 0, none⟩ = some (.int .u8 lv) ∧ W.cell? ⟨bd, 0, none⟩ = some (.int .u8 dr) ∧ bl ≠ bk ∧ bs ≠ bk :=
  ⟨h.kbox.cell 0, h.kbox.frozen 0, h.all.cell 0, h.arena.cell 0, h.leave.cell 0, h.drop.cell 0, h.leave.ne_ h.kbox (by decide), h.all.ne_ h.kbox (by decide)⟩
/-- what the iterator's map tells is what is there -/
theorem Wk.tells (h : Wk w W base g b D B gw A c ps cs' kk lv dr bl bd br ba bs bk bn) (hz : cs'.map Cl.size = cs.map Cl.size) {al : Int → Bool} (hal : HasAt W g b al) {K : Nat} (hc : cs'[K]? = some cl) : al (startOf cs K) = cl.alive := by
  rw [← h.ar.hasAt.uniq hal, ← startOf_sizes hz]
  obtain ⟨pre, post, rfl, rfl⟩ := split_at hc
  show (at? _ _).isSome = _
  rw [startOf_mid, at?_mid]
  cases cl.alive <;> rfl
theorem keptUp_turn (ht : Turn W W' g b gw) (hl : Low g b gw B) : KeptUp B W W' :=
  ⟨ht.size, fun j h1 h2 => ht.block j h2 (by have := hl.g; omega) (by have := hl.b; omega) fun e => by have := hl.gw j e.symm; omega⟩
theorem keptUp_set (B : Nat) (W : World) (p : Addr) (v : Value) (hp : p.block < B) : KeptUp B W (W.setCell p v) :=
  ⟨by simp [World.setCell], fun j h1 _ => Below.heap_setCell W p v j (by omega)⟩
theorem Wk.calldrop (h : Wk w W base g b D B gw A c ps (pre ++ cl :: post) kk lv dr bl bd br ba bs bk bn) (ht : total (pre ++ cl :: post) ≤ 1099511627776) (hg : g < D) (hb : b < D) (hbD : base ≤ D) :
    Calls Try.prog 11 #[.pointer (some ⟨g, 0, none⟩), .int .i64 (total pre : Nat)] W fun e W' => e = .returned (.bool cl.alive) ∧ (∃ x, W'.cell? ⟨ps.getD pre.length 0, 5, none⟩ = some (.bool x)) ∧ W'.frozen? ⟨ps.getD pre.length 0, 5, none⟩ = false ∧
      (Blk W' bk 3 #[.int .i64 kk] ∧ Blk W' bs 27 #[.slice A ps.length c] ∧ Blk W' bl 5 #[.int .u8 lv] ∧ Blk W' br 4 #[.bool false] ∧ Blk W' ba 25 #[.pointer (some ⟨g, 0, none⟩)] ∧ W'.cell? ⟨ps.getD pre.length 0, 0, none⟩ = some (.int .i64 (total pre : Nat))) ∧ (∀ gr j, A = some ⟨gr, 0, none⟩ → j < ps.length → W'.cell? ⟨gr, j, none⟩ = some (.pointer (some ⟨ps.getD j 0, 0, none⟩))) ∧
      KeptUp B W (W'.setCell ⟨ps.getD pre.length 0, 5, none⟩ (.bool true)) ∧ Wk w (W'.setCell ⟨ps.getD pre.length 0, 5, none⟩ (.bool true)) base g b D B gw A c ps (pre ++ kill cl :: post) kk lv dr bl bd br ba bs bk bn := by
  have hfin : ∀ W' : World, Fr base W W' → KeptUp B W W' → Ar W' base g b gw 0 (pre ++ kill cl :: post) → Ml W' D B ps (pre ++ cl :: post) → Blk W' bk 3 #[.int .i64 kk] →
      (∃ x, W'.cell? ⟨ps.getD pre.length 0, 5, none⟩ = some (.bool x)) ∧ W'.frozen? ⟨ps.getD pre.length 0, 5, none⟩ = false ∧
      (Blk W' bk 3 #[.int .i64 kk] ∧ Blk W' bs 27 #[.slice A ps.length c] ∧ Blk W' bl 5 #[.int .u8 lv] ∧ Blk W' br 4 #[.bool false] ∧ Blk W' ba 25 #[.pointer (some ⟨g, 0, none⟩)] ∧ W'.cell? ⟨ps.getD pre.length 0, 0, none⟩ = some (.int .i64 (total pre : Nat))) ∧ (∀ gr j, A = some ⟨gr, 0, none⟩ → j < ps.length → W'.cell? ⟨gr, j, none⟩ = some (.pointer (some ⟨ps.getD j 0, 0, none⟩))) ∧
      KeptUp B W (W'.setCell ⟨ps.getD pre.length 0, 5, none⟩ (.bool true)) ∧ Wk w (W'.setCell ⟨ps.getD pre.length 0, 5, none⟩ (.bool true)) base g b D B gw A c ps (pre ++ kill cl :: post) kk lv dr bl bd br ba bs bk bn := by
    intro W' hf hk har hm hkb
    obtain ⟨x1, x2, x3, x4, h1, hlo, hpB⟩ := hm.at_ pre.length cl (get_at pre post cl)
    obtain ⟨A1, c1, hk1, hown, hgw⟩ := har.ex
    have hne : some (ps.getD pre.length 0) ≠ gw := hgw ▸ own_blk_ne hown h1 (by decide)
    have hro := own_fr h.row hf (by decide) (by decide) (by decide)
    refine ⟨⟨_, h1.cell 5⟩, h1.frozen 5, ⟨hkb, hf.blk _ _ _ h.all (by decide) (by decide) (by decide), hf.blk _ _ _ h.leave (by decide) (by decide) (by decide), hf.blk _ _ _ h.res (by decide) (by decide) (by decide), hf.blk _ _ _ h.arena (by decide) (by decide) (by decide), by have := h1.cell 0; rw [startOf_mid] at this; exact this⟩, ?_, hk.trans (keptUp_set _ _ _ _ hpB), h.step (hf.trans (Fr.set h1 (.inr rfl) (by omega) 5 _)) (har.far _ (by omega) (by omega) hne) hm.kill (hkb.far (hkb.ne_ h1 (by decide)) _)⟩
    intro gr j hA hj
    rw [hA] at hro
    rw [World.ownsRow.cellAt hro j (by omega)]
    simp [ptrs, List.getD, hj]
  have htp : (total pre : Int) ≤ 9223372036854775807 := by have := size_le_total pre post cl; omega
  rcases Bool.eq_false_or_eq_true cl.alive with ha | ha
  · refine (drop_yes pre post cl h.ar ha ht).mono fun e' w' ⟨he, har, hT⟩ => ⟨by rw [ha]; exact he, hfin w' (Fr.of_turn h.ar hT h.hB) (keptUp_turn hT h.lo) har (h.mo.keep fun q X hq _ => hT.blk h.ar hq (by decide) (by decide)) ?_⟩
    obtain ⟨A1, c1, hk1, hown, hgw1⟩ := h.ar.ex
    obtain ⟨M, n, hm, _⟩ := h.ar.map
    exact (hT.block bk h.kbox.lt (h.kbox.ne_ hk1 (by decide)) (blk_map_ne h.kbox hm) h.kgw).trans h.kbox
  · have e : kill cl = cl := by cases cl; simp only at ha; subst ha; rfl
    have hat : at? (pre ++ cl :: post) (total pre) = none := by rw [at?_mid, ha]; rfl
    refine (drop_no h.ar hat (by omega) htp).mono fun e' w' ⟨he, hb'⟩ => ⟨by rw [ha]; exact he, hfin w' (Fr.of_below hb' h.hB) ?_ (by rw [e]; exact h.ar.below hb') (h.mo.keep fun q X hq _ => hq.below hb' hq.lt) (h.kbox.below hb' h.kbox.lt)⟩
    exact ⟨hb'.size, fun j _ h2 => hb'.block j h2⟩
end
end Go.Proofs.Ytnjcegjcaaplgaa
