/- The statement on what All yields, walked: its first loop. -/
import Derived.Test.YtnjcegjcaaplgaaRooms05
import Derived.Test.YtnjcegjcaaplgaaDo05
import Derived.Test.YtnjcegjcaaplgaaLight05
import Derived.Test.YtnjcegjcaaplgaaFit05
import Derived.Test.YtnjcegjcaaplgaaWk05
import Derived.Sort.LoopGhostIn
import Derived.Test.YtnjcegjcaaplgaaRegionLast
namespace Go.Proofs.Ytnjcegjcaaplgaa
open Go.RowKit Go.Shelf
attribute [local go_sem] Oper.semAt_some
set_option linter.unusedVariables false
set_option linter.unusedSimpArgs false

theorem cells_of_ptrs {w : World} {D c : Nat} {A : Option Addr} {ps : List Nat} (h : w.ownsRow D 34 1 (.slice A ps.length c) ps.length (ptrs ps)) : Cells w w.heap.size A ps.length fun j => .pointer (some ⟨ps.getD j 0, 0, none⟩) := fun hn => by
  obtain ⟨g, rfl, hg1, hg2⟩ := own_addr h (by omega)
  refine ⟨g, 0, rfl, hg2, fun j hj => ?_⟩
  rw [Nat.zero_add, World.ownsRow.cellAt h j (by omega)]
  simp [ptrs, List.getD, hj]

/-- how things stand in the first loop -/
structure Lp (w wr : World) (base g b D : Nat) (gw : Option Nat) (A : Option Addr) (c : Nat) (ps : List Nat) (cs : List Cl) (ds : List DeedV) (k : Nat) (lv dr : Nat) (bl bd br ba bs : Nat) : Prop where
  ar : Ar wr base g b gw 0 cs
  mo : Model wr D gw ps cs
  row : wr.ownsRow D 34 1 (.slice A ps.length c) ps.length (ptrs ps)
  low : ∀ p ∈ ps, p < wr.heap.size
  tot : total cs ≤ 3 * weight5 (ds.take k)
  fr : Below base w wr
  leave : Blk wr bl 5 #[.int .u8 lv]
  drop : Blk wr bd 5 #[.int .u8 dr]
  res : Blk wr br 4 #[.bool false]
  arena : Blk wr ba 25 #[.pointer (some ⟨g, 0, none⟩)]
  all : Blk wr bs 27 #[.slice A ps.length c]
theorem Lp.step {w wr w' : World} {base g b D : Nat} {gw gw' : Option Nat} {A : Option Addr} {c : Nat} {ps : List Nat} {cs cs' : List Cl} {ds : List DeedV} {k k' lv dr bl bd br ba bs : Nat} (h : Lp w wr base g b D gw A c ps cs ds k lv dr bl bd br ba bs) (hf : Fr base wr w') (ha : Ar w' base g b gw' 0 cs') (hm : Model w' D gw' ps cs') (ht : total cs' ≤ 3 * weight5 (ds.take k')) : Lp w w' base g b D gw' A c ps cs' ds k' lv dr bl bd br ba bs :=
  ⟨ha, hm, own_fr h.row hf (by decide) (by decide) (by decide), fun p hp => Nat.lt_of_lt_of_le (h.low p hp) hf.below.size, ht, h.fr.trans hf.below,
    hf.blk _ _ _ h.leave (by decide) (by decide) (by decide), hf.blk _ _ _ h.drop (by decide) (by decide) (by decide), hf.blk _ _ _ h.res (by decide) (by decide) (by decide), hf.blk _ _ _ h.arena (by decide) (by decide) (by decide), hf.blk _ _ _ h.all (by decide) (by decide) (by decide)⟩
theorem total_of_sizes : ∀ {a b : List Cl}, a.map Cl.size = b.map Cl.size → total a = total b
  | [], [], _ => rfl
  | [], _ :: _, h => by simp at h
  | _ :: _, [], h => by simp at h
  | x :: a, y :: b, h => by
    simp only [List.map_cons, List.cons.injEq] at h
    rw [total_cons, total_cons, h.1, total_of_sizes h.2]

theorem Ar.grown05 {w w' : World} {base g b : Nat} {gw row : Option Nat} {lim : Int} {cs : List Cl} (h : Ar w base g b gw lim cs) (hg : w.grownBy w' row) (h1 : some g ≠ row) (h2 : some b ≠ row) (h3 : ∀ q, row = some q → some q ≠ gw) : Ar w' base g b gw lim cs := by
  obtain ⟨A, c, e1, e2, e3⟩ := h.ex
  refine ⟨⟨A, c, e1.grown hg h1, ⟨e2.1, ?_⟩, e3⟩, ?_, h.hg, h.hb⟩
  · rcases e2.2 with hn | ⟨q, cap, cur, hv, hb, hc, rest⟩
    · exact .inl hn
    · refine .inr ⟨q, cap, cur, hv, hb, (hg.block q (Array.getElem?_eq_some_iff.1 hc).1 ?_).trans hc, rest⟩
      intro e
      exact h3 q e.symm (by rw [← e3, hv]; rfl)
  · obtain ⟨D, n, hm, rest⟩ := h.map
    exact ⟨D, n, hm.kept hg h2, rest⟩
theorem Clause.grown {w w' : World} {D p : Nat} {gw row : Option Nat} {s : Int} {cl : Cl} (h : Clause w D gw p s cl) (hg : w.grownBy w' row) (hr : ∀ q t X, Blk w q t X → t = 3 ∨ t = 36 → some q ≠ row) : Clause w' D gw p s cl := by
  obtain ⟨⟨L, n1, n2, lr, zs, h1, h2, h3, h4, h5⟩, h6⟩ := h
  exact ⟨⟨L, n1, n2, lr, zs, h1.grown hg (hr _ _ _ h1 (.inr rfl)), h2, h3.grown hg (hr _ _ _ h3 (.inl rfl)), h4, h5⟩, h6⟩
theorem Clause.box {w : World} {D p q j : Nat} {gw : Option Nat} {s : Int} {cl : Cl} {t : TypeId} {X : Array Value} (h : Clause w D gw p s cl) (hq : Blk w q t X) (h1 : 3 ≠ t) (h2 : 36 ≠ t) (v : Value) : Clause (w.setCell ⟨q, j, none⟩ v) D gw p s cl := by
  obtain ⟨⟨L, n1, n2, lr, zs, e1, e2, e3, e4, e5⟩, e6⟩ := h
  exact ⟨⟨L, n1, n2, lr, zs, e1.far (e1.ne_ hq h2) v, e2, e3.far (e3.ne_ hq h1) v, e4, e5⟩, e6⟩
theorem own_box {w : World} {D n q j : Nat} {e t : TypeId} {v : Value} {xs : List Value} {X : Array Value} (h : w.ownsRow D e 1 v n xs) (hq : Blk w q t X) (hne : e ≠ t) (u : Value) : (w.setCell ⟨q, j, none⟩ u).ownsRow D e 1 v n xs := by
  refine ⟨h.1, ?_⟩
  rcases h.2 with hn | ⟨g', cap', cur, hv, hb', hg', rest⟩
  · exact .inl hn
  · exact .inr ⟨g', cap', cur, hv, hb', (Below.heap_setCell w _ u g' (Blk.ne_ (w := w) (g := g') hg' hq hne)).trans hg', rest⟩
/-- a new clause behind the others: what the append and the store into the box leave -/
theorem Lp.add {w w9 w10 : World} {base g b D : Nat} {gw : Option Nat} {A A10 : Option Addr} {c c10 : Nat} {ps : List Nat} {cs : List Cl} {cl : Cl} {ds : List DeedV} {k lv dr bl bd br ba bs L : Nat} {zs : List Int}
    (ha : Ar w9 base g b gw 0 (cs ++ [cl])) (hm : Model w9 D gw ps cs) (hrow : w9.ownsRow D 34 1 (.slice A ps.length c) ps.length (ptrs ps)) (hlow : ∀ p ∈ ps, p < w9.heap.size) (htot : total (cs ++ [cl]) ≤ 3 * weight5 (ds.take k)) (hfr : Below base w w9)
    (hleave : Blk w9 bl 5 #[.int .u8 lv]) (hdrop : Blk w9 bd 5 #[.int .u8 dr]) (hres : Blk w9 br 4 #[.bool false]) (harena : Blk w9 ba 25 #[.pointer (some ⟨g, 0, none⟩)]) (hall : Blk w9 bs 27 #[.slice A ps.length c])
    (hL : Blk w9 L 3 (zs.map (Value.int .i64)).toArray) (hz : zs.length = cl.lits.length) (hLg : some L ≠ gw) (hLD : D ≤ L) (hgD : g < D) (hbD : b < D) (hbase : base ≤ D) (hal : cl.alive = true) (hDs : D ≤ w9.heap.size) (hbs : base ≤ bs)
    (hg10 : ((w9.alloc (.cells #[.int .i64 (total cs : Nat), .int .i64 0, .int .i64 0, .slice (some ⟨L, 0, none⟩) cl.lits.length cl.lits.length, .bool false, .bool false] 36)).alloc (.cells #[.pointer (some ⟨w9.heap.size, 0, none⟩)] 34)).grownBy w10 (Value.slice A ps.length c).ownBlock)
    (hown : w10.ownsRow D 34 1 (.slice A10 (ps.length + 1) c10) (ps.length + 1) (ptrs ps ++ [.pointer (some ⟨w9.heap.size, 0, none⟩)])) :
    Lp w (w10.setCell ⟨bs, 0, none⟩ (.slice A10 (ps.length + 1) c10)) base g b D gw A10 c10 (ps ++ [w9.heap.size]) (cs ++ [cl]) ds k lv dr bl bd br ba bs := by
  obtain ⟨wb, hwb⟩ : ∃ wb, wb = (w9.alloc (.cells #[.int .i64 (total cs : Nat), .int .i64 0, .int .i64 0, .slice (some ⟨L, 0, none⟩) cl.lits.length cl.lits.length, .bool false, .bool false] 36)).alloc (.cells #[.pointer (some ⟨w9.heap.size, 0, none⟩)] 34) := ⟨_, rfl⟩
  rw [← hwb] at hg10
  have hbb : Below w9.heap.size w9 wb := by rw [hwb]; exact ((Below.refl _ _).alloc (Nat.le_refl _) _).alloc (by simp) _
  have hwbs : wb.heap.size = w9.heap.size + 2 := by rw [hwb]; simp
  have hs10 := hg10.size
  have hp : Blk wb w9.heap.size 36 #[.int .i64 (total cs : Nat), .int .i64 0, .int .i64 0, .slice (some ⟨L, 0, none⟩) cl.lits.length cl.lits.length, .bool false, .bool false] := by rw [hwb]; exact (Blk.new w9 _ _).alloc _
  have hrb := own_below hrow hbb fun q hq => (hrow.lt q hq).2
  have K1 : ∀ {q : Nat} {t : TypeId} {X : Array Value}, Blk wb q t X → 34 ≠ t → Blk w10 q t X := fun hq hne => hq.grown hg10 (own_blk_ne hrb hq hne)
  have K0 : ∀ {q : Nat} {t : TypeId} {X : Array Value}, Blk w9 q t X → 34 ≠ t → Blk w10 q t X := fun hq hne => K1 (hq.below hbb hq.lt) hne
  have hall10 := K0 hall (by decide)
  have K2 : ∀ {q : Nat} {t : TypeId} {X : Array Value} (v : Value), Blk w10 q t X → t ≠ 27 → Blk (w10.setCell ⟨bs, 0, none⟩ v) q t X := fun v hq hne => hq.far (hq.ne_ hall10 hne) v
  have hab := ha.below hbb
  obtain ⟨Aw, cw, a1, a2, a3⟩ := hab.ex
  obtain ⟨M, nM, hM, _⟩ := hab.map
  have ha10 : Ar w10 base g b gw 0 (cs ++ [cl]) := hab.grown05 hg10 (own_blk_ne hrb a1 (by decide)) (own_map_ne hrb hM) (fun q hq => by
    rw [← a3]
    rcases own_own_ne hrb a2 (by decide) with e | e
    · rw [e] at hq; cases hq
    · rw [← hq]; exact e)
  obtain ⟨Ax, cx, x1, x2, x3⟩ := ha10.ex
  obtain ⟨M2, nM2, hM2, _⟩ := ha10.map
  have m10 : Model w10 D gw ps cs := (hm.below hbb).all fun p s c hc => hc.grown hg10 fun q t X hq ht => own_blk_ne hrb hq (by rcases ht with rfl | rfl <;> decide)
  refine ⟨ha10.far _ (hall10.ne_ x1 (by decide)) (blk_map_ne hall10 hM2) (x3 ▸ own_blk_ne x2 hall10 (by decide)), ?_, ?_, ?_, htot, ?_, K2 _ (K0 hleave (by decide)) (by decide), K2 _ (K0 hdrop (by decide)) (by decide), K2 _ (K0 hres (by decide)) (by decide), K2 _ (K0 harena (by decide)) (by decide), ?_⟩
  · refine (m10.all fun p s c hc => hc.box hall10 (by decide) (by decide) _).snoc ⟨⟨L, 0, 0, false, zs, ?_, hz, K2 _ (K0 hL (by decide)) (by decide), hLg, hLD⟩, hDs⟩ fun q hq => Nat.ne_of_lt (hlow q hq)
    rw [hal]
    exact K2 _ (K1 hp (by decide)) (by decide)
  · have e1 : ptrs (ps ++ [w9.heap.size]) = ptrs ps ++ [.pointer (some ⟨w9.heap.size, 0, none⟩)] := by simp [ptrs]
    rw [e1, List.length_append]
    exact own_box hown hall10 (by decide) _
  · intro p hp
    have : (w10.setCell ⟨bs, 0, none⟩ (.slice A10 (ps.length + 1) c10)).heap.size = w10.heap.size := by simp [World.setCell]
    rw [this]
    rcases List.mem_append.1 hp with h | h
    · have := hlow p h; omega
    · rw [List.mem_singleton.1 h]; omega
  · exact ((hfr.trans (hbb.mono (by omega))).grown hg10 (by omega) (fun q hq => by have := (hrb.lt q hq).1; omega)).setCell hbs _
  · have := hall10.set_ 0 (.slice A10 (ps.length + 1) c10)
    rw [List.length_append]
    simpa using this

/-- the row of a clause's literals, as far as it has been filled -/
def fill1 (z j : Nat) : List Int := (List.range z).map fun (t : Nat) => if t < j then 1 + (t : Int) else 0
theorem fill1_length (z j : Nat) : (fill1 z j).length = z := by simp [fill1]
theorem fill1_start (z : Nat) : (madeCells (Value.int .i64 0).cells (z * 1)).toList = (fill1 z 0).map (Value.int .i64) := by
  rw [made_zeros]
  congr 1
  apply List.ext_getElem
  · simp [fill1]
  · intro t h1 h2
    simp [fill1]
theorem fill1_step (z j : Nat) (hj : j < z) : (fill1 z j).set j (1 + (j : Int)) = fill1 z (j + 1) := by
  apply List.ext_getElem
  · simp [fill1]
  · intro t h1 h2
    have ht : t < z := by simpa [fill1] using h2
    rw [List.getElem_set]
    by_cases hjt : j = t
    · subst hjt
      rw [if_pos rfl]
      simp [fill1]
    · rw [if_neg hjt]
      simp only [fill1, List.getElem_map, List.getElem_range]
      by_cases h : t < j
      · rw [if_pos h, if_pos (by omega)]
      · rw [if_neg h, if_neg (by omega)]
theorem own_put {w : World} {base e L n c : Nat} {xs : List Int} (h : w.ownsRow base e 1 (.slice (some ⟨L, 0, none⟩) n c) n (xs.map (Value.int .i64))) (j : Nat) (u : Int) : (w.setCell ⟨L, j, none⟩ (.int .i64 u)).ownsRow base e 1 (.slice (some ⟨L, 0, none⟩) n c) n ((xs.set j u).map (Value.int .i64)) := by
  refine ⟨by rw [List.length_map, List.length_set]; simpa using h.1, ?_⟩
  rcases h.2 with ⟨hv, _⟩ | ⟨g', cap', cur, hv, hb', hg', hnc, hmx, hcs, htk⟩
  · cases hv
  · injection hv with hA _ hC
    injection hA with hA
    injection hA with hA
    subst hA hC
    refine .inr ⟨L, c, cur.setIfInBounds j (.int .i64 u), rfl, hb', ?_, hnc, hmx, by rw [Array.size_setIfInBounds]; exact hcs, ?_⟩
    · simp [World.setCell, Array.getElem?_modify, hg']
    · rw [Array.toList_setIfInBounds, List.take_set, htk, List.map_set]
/-- a row of one's own that fills its block is that block -/
theorem own_whole {w : World} {base e L n : Nat} {xs : List Value} (h : w.ownsRow base e 1 (.slice (some ⟨L, 0, none⟩) n n) n xs) : Blk w L e xs.toArray ∧ base ≤ L := by
  rcases h.2 with ⟨hv, _⟩ | ⟨g', cap', cur, hv, hb', hg', hnc, hmx, hcs, htk⟩
  · cases hv
  · injection hv with hA _ hC
    injection hA with hA
    injection hA with hA
    subst hA hC
    refine ⟨?_, hb'⟩
    have e : xs.toArray = cur := by
      rw [← htk, List.take_of_length_le (by simp at hcs ⊢; omega)]
    rw [e]
    exact hg'
theorem infoPtr : (Try.prog.info? 34).map (fun i => (i.zero, i.size, i.bytes)) = some (some (.pointer none), 1, 8) := by kernel_rfl

theorem results_cell0 {P : Program} {fn : Func} {c : Tmp} {T : TypeId} (h : fn.results = #[.cell c T]) {tmps : Array Value} {w : World} {v0 : Value} {ad : Addr} (hc : tmps.getD c undef = .pointer (some ad)) (hl : (loadVar T ad).run P w = .ok v0 w) : (results fn tmps).run P w = .ok v0 w := by
  rw [Array.getD_eq_getD_getElem?] at hc
  simp [results, h, hc, hl, asAddr]
theorem load_bool {b : Nat} {x : Bool} {w : World} (h0 : w.cell? ⟨b, 0, none⟩ = some (.bool x)) : (loadVar 4 ⟨b, 0, none⟩).run Try.prog w = .ok (.bool x) w := by
  have hu := Try.underlying4
  go_simp

theorem Wk.start {w wr : World} {base g b D : Nat} {gw : Option Nat} {A : Option Addr} {c : Nat} {ps : List Nat} {cs : List Cl} {ds : List DeedV} {k lv dr bl bd br ba bs : Nat} (h : Lp w wr base g b D gw A c ps cs ds k lv dr bl bd br ba bs) (hB : base ≤ wr.heap.size) (hr : base ≤ br) :
    Wk w ((wr.alloc (.cells #[.int .i64 0] 3)).alloc (.cells #[.pointer (some ⟨g, 0, none⟩)] 25)) base g b D (wr.heap.size + 2) gw A c ps cs 0 lv dr bl bd br ba bs wr.heap.size (wr.heap.size + 1) := by
  obtain ⟨wl, hwl⟩ : ∃ wl, wl = (wr.alloc (.cells #[.int .i64 0] 3)).alloc (.cells #[.pointer (some ⟨g, 0, none⟩)] 25) := ⟨_, rfl⟩
  have hb : Below wr.heap.size wr wl := by rw [hwl]; exact ((Below.refl _ _).alloc (Nat.le_refl _) _).alloc (by simp) _
  have hs : wl.heap.size = wr.heap.size + 2 := by rw [hwl]; simp
  have h1 : Blk wl wr.heap.size 3 #[.int .i64 (0 : Nat)] := by rw [hwl]; exact (Blk.new wr _ _).alloc _
  have h2 : Blk wl (wr.heap.size + 1) 25 #[.pointer (some ⟨g, 0, none⟩)] := by
    rw [hwl]
    have := Blk.new (wr.alloc (.cells #[.int .i64 0] 3)) 25 #[.pointer (some ⟨g, 0, none⟩)]
    simpa using this
  rw [← hwl]
  have a1 := h.ar.glt
  have a2 := h.ar.blt
  have a3 := h.ar.wlt
  have b1 := h.leave.lt
  have b2 := h.drop.lt
  have b3 := h.res.lt
  have b4 := h.arena.lt
  have b5 := h.all.lt
  exact ⟨h.ar.below hb, (Ml.ofModel h.mo (by omega)).keep fun q X hq _ => hq.below hb hq.lt, own_below h.row hb fun q hq => (h.row.lt q hq).2, h.fr.trans (hb.mono hB), h.leave.below hb b1, h.drop.below hb b2, h.res.below hb b3, h.arena.below hb b4, h.all.below hb b5, h1, h2,
    fun e => by have := (a3 _ e.symm).2; omega, hB, hr, ⟨by omega, by omega, fun q hq => by have := (a3 q hq).2; omega⟩, fun q hq => by have := (h.row.lt q hq).2; omega, ⟨by omega, by omega, by omega⟩, ⟨by omega, by omega, by omega, by omega⟩, by omega, by omega⟩

set_option maxRecDepth 100000 in
set_option maxHeartbeats 8000000 in
theorem alls_any (ds : List DeedV) (A0 : Option Addr) (c0 : Nat) (lv dr : Nat) (w : World) (hok : ∀ d ∈ ds, d.ok) (hn : ds.length ≤ 4398046510080) (hlv : lv ≤ 255) (hdr : dr ≤ 255) (h : Deeds w w.heap.size A0 ds) :
    Calls Try.prog 3 #[.slice A0 ds.length c0, .int .u8 lv, .int .u8 dr] w fun e w' => e = .returned (.bool true) ∧ Below w.heap.size w w' := by
  have H := Lib.hid h
  have OK := Lib.hid hok
  obtain ⟨i0, hi, hz0, hz1, hz2⟩ := info_parts infoInt
  obtain ⟨ip, hip, hzp0, hzp1, hzp2⟩ := info_parts infoPtr
  obtain ⟨w1, hw1⟩ : ∃ w1, w1 = ((w.alloc (.cells #[.int .u8 lv] 5)).alloc (.cells #[.int .u8 dr] 5)).alloc (.cells #[.bool false] 4) := ⟨_, rfl⟩
  have hb1 : Below w.heap.size w w1 := by rw [hw1]; exact (((Below.refl _ _).alloc (Nat.le_refl _) _).alloc (by simp) _).alloc (by simp; omega) _
  have hs1 : w1.heap.size = w.heap.size + 3 := by rw [hw1]; simp
  have k1 : Blk w1 w.heap.size 5 #[.int .u8 lv] := by rw [hw1]; exact ((Blk.new w _ _).alloc _).alloc _
  have k2 : Blk w1 (w.heap.size + 1) 5 #[.int .u8 dr] := by
    rw [hw1]
    have := Blk.new (w.alloc (.cells #[.int .u8 lv] 5)) 5 #[.int .u8 dr]
    simp at this
    exact this.alloc _
  have k3 : Blk w1 (w.heap.size + 2) 4 #[.bool false] := by
    rw [hw1]
    have := Blk.new ((w.alloc (.cells #[.int .u8 lv] 5)).alloc (.cells #[.int .u8 dr] 5)) 4 #[.bool false]
    simpa using this
  have HW1 := Lib.hid hw1
  have HB1 := Lib.hid hb1
  have HK := Lib.hid (And.intro k1 (And.intro k2 k3))
  clear h hok hw1 hb1 k1 k2 k3
  refine (callsIn_wide (n := 20)).1 ?_
  refine callsIn_of_wp_marks Try.func3 rfl trivial ?_ rfl
  simp only [Try.ntmps3, List.size_toArray, List.length_cons, List.length_nil, Nat.reduceAdd, Nat.reduceSub, Array.replicate_succ, Array.replicate_zero, List.push_toArray, List.append_toArray, List.nil_append, List.cons_append]
  refine wpIn_wide.2 ?_
  go_wp2_with fail
  rw [← HW1.out]
  refine (fit_any _).mono ?_
  rintro e w2 ⟨rfl, hb2⟩
  have HB2 := Lib.hid (HB1.out.trans (hb2.mono HB1.out.size))
  have hs2 := hb2.size
  have HK2 := Lib.hid (And.intro (HK.out.1.below hb2 (by omega)) (And.intro (HK.out.2.1.below hb2 (by omega)) (HK.out.2.2.below hb2 (by omega))))
  clear hb2
  go_wp2_with fail
  refine (light05_any ds A0 c0 w2 OK.out hn (fun hn => by obtain ⟨b, off, e, hB, hc⟩ := (H.out.below HB2.out) hn; exact ⟨b, off, e, by have := HB2.out.size; omega, hc⟩)).mono ?_
  rintro e w3 ⟨rfl, hb3⟩
  have HB3 := Lib.hid (HB2.out.trans (hb3.mono HB2.out.size))
  have hs3 := hb3.size
  have HK3 := Lib.hid (And.intro (HK2.out.1.below hb3 (by omega)) (And.intro (HK2.out.2.1.below hb3 (by omega)) (HK2.out.2.2.below hb3 (by omega))))
  clear hb3
  have r0 := HK3.out.2.2.cell 0
  have rf := HK3.out.2.2.frozen 0
  simp at r0
  by_cases hw : weight5 ds ≤ 500
  · have HWT := Lib.hid hw
    rw [show decide (weight5 ds ≤ 500) = true by simp [hw]]
    clear hw
    go_wp2_with fail
    refine (new_any 0 w.heap.size w3 HB3.out.size).mono ?_
    rintro e w4 ⟨g, b, rfl, har, hb4⟩
    clear r0 rf
    have hs4 := hb4.size
    have hb34 := HB3.out.trans (hb4.mono HB3.out.size)
    obtain ⟨w6, hw6⟩ : ∃ w6, w6 = (w4.alloc (.cells #[.pointer (some ⟨g, 0, none⟩)] 25)).alloc (.cells #[.slice none 0 0] 27) := ⟨_, rfl⟩
    have hb6 : Below w4.heap.size w4 w6 := by rw [hw6]; exact ((Below.refl _ _).alloc (Nat.le_refl _) _).alloc (by simp) _
    have hb06 : Below w.heap.size w w6 := hb34.trans (hb6.mono hb34.size)
    have LP : Lp w w6 w.heap.size g b w4.heap.size none none 0 [] [] ds 0 lv dr w.heap.size (w.heap.size + 1) (w.heap.size + 2) w4.heap.size (w4.heap.size + 1) := by
      refine ⟨har.below hb6, Model.nil_, World.ownsRow_nil _ _ _ _, fun p hp => by simp at hp, by simp [total_nil], hb06, ((HK3.out.1.below hb4 (by omega)).below hb6 (by omega)), ((HK3.out.2.1.below hb4 (by omega)).below hb6 (by omega)), ((HK3.out.2.2.below hb4 (by omega)).below hb6 (by omega)), ?_, ?_⟩
      · rw [hw6]; exact (Blk.new w4 _ _).alloc _
      · rw [hw6]
        have := Blk.new (w4.alloc (.cells #[.pointer (some ⟨g, 0, none⟩)] 25)) 27 #[.slice none 0 0]
        simpa using this
    have HLP := Lib.hid LP
    have HW6 := Lib.hid hw6
    have hgD : g < w4.heap.size := har.glt
    have hbD : b < w4.heap.size := har.blt
    have hwD : w.heap.size ≤ w4.heap.size := hb34.size
    clear LP hw6 hb6 hb06 hb34 hb4 har
    go_wp2_with fail
    rw [← HW6.out]
    go_loopg [25] (ds.length + 1) (fun gk i wr => ∃ (k : Nat) (gw : Option Nat) (A : Option Addr) (c : Nat) (ps : List Nat) (cs : List Cl), k ≤ ds.length ∧ gk = ds.length - k + 1 ∧ i = .int .i64 k ∧ Lp w wr w.heap.size g b w4.heap.size gw A c ps cs ds k lv dr w.heap.size (w.heap.size + 1) (w.heap.size + 2) w4.heap.size (w4.heap.size + 1))
    case atStart => exact ⟨0, none, none, 0, [], [], by omega, by omega, rfl, HLP.out⟩
    case round =>
      obtain ⟨k, gw, A, c, ps, cs, hk, rfl, rfl, hlp⟩ := hrel
      have HL := Lib.hid hlp
      have lta := hlp.arena.lt
      have lts := hlp.all.lt
      have xa := hlp.arena.cell 0
      have xs := hlp.all.cell 0
      simp at xa xs
      clear hlp HLP
      by_cases hlt : k < ds.length
      · obtain ⟨b2, off, rfl, _, d, hd, e0, e1, e2, e3, e4⟩ := (H.out.below HL.out.fr).at_ hlt
        have hdo : d.ok := by rw [hd, List.getD, List.getElem?_eq_getElem hlt]; exact OK.out _ (List.getElem_mem hlt)
        obtain ⟨d1, d2, ⟨d3, d4⟩, ⟨d5, d6⟩, d7⟩ := hdo
        have hws := weight5_snoc hlt
        rw [← hd] at hws
        have HWS := Lib.hid hws
        have HWL := Lib.hid (weight5_le ds (k + 1))
        have low := low3 d1
        obtain ⟨wd, hwd⟩ : ∃ wd, wd = wr.alloc (.cells #[.int .u8 d.kd, .int .i64 d.n, .int .i64 d.m, .slice d.a d.ll d.lc, .int .u8 d.wh] 30) := ⟨_, rfl⟩
        have hbd : Below wr.heap.size wr wd := by rw [hwd]; exact (Below.refl _ _).alloc (Nat.le_refl _) _
        have hBr : w.heap.size ≤ wr.heap.size := HL.out.fr.size
        have htot := HL.out.tot
        have hwk := HWL.out
        rw [HWS.out] at hwk
        have hw5 := HWT.out
        have HLD := Lib.hid (HL.out.step (k' := k) (Fr.of_below hbd hBr) (HL.out.ar.below hbd) (HL.out.mo.below hbd) htot)
        have HWD := Lib.hid hwd
        by_cases hk2 : d.kd % 8 < 2
        · have hk2' : (d.kd : Int) % 8 < 2 := by omega
          have hll : d.ll ≤ 500 := by omega
          have HTT := Lib.hid (And.intro htot (And.intro hwk hw5))
          clear hwd hd hws hk2 hbd htot hwk hw5
          go_wp2_with (at_make; refine wpList_make_full _ rfl _ _ 31 rfl wd.heap.size 3 i0 (.int .i64 0) 1 Try.underlying31 hi hz0 hz1 .i64 .i64 _ _ d.ll rfl rfl rfl rfl (by rw [hz2]; omega) (by unfold maxLen; omega) (by rw [HWD.out]; exact Nat.le_refl _) ?_; intro w8 hown8 hg8)
          obtain ⟨wo, rfl⟩ : ∃ wo : World, wo = wr := ⟨_, rfl⟩
          have hb8 : Below wd.heap.size wd w8 := by rw [HWD.out]; exact ⟨hg8.os, hg8.tape, hg8.output, hg8.size, fun k hk => hg8.block k hk (by simp)⟩
          have hwsz : wd.heap.size = wo.heap.size + 1 := by rw [HWD.out]; simp
          rw [fill1_start] at hown8
          rw [hwsz] at hown8 hb8
          simp only [World.size_alloc] at hown8
          have HO8 := Lib.hid hown8
          have HB8 := Lib.hid hb8
          clear hown8 hg8 hb8
          go_loopg [39] (d.ll + 1) (fun gj v wi => ∃ j : Nat, j ≤ d.ll ∧ gj = d.ll - j + 1 ∧ v = .int .i64 j ∧ wi.ownsRow (wo.heap.size + 1) 3 1 (.slice (some ⟨wo.heap.size + 1, 0, none⟩) d.ll d.ll) d.ll ((fill1 d.ll j).map (Value.int .i64)) ∧ Below (wo.heap.size + 1) wd wi)
          case atStart => exact ⟨0, by omega, by omega, rfl, HO8.out, HB8.out⟩
          case round =>
            obtain ⟨j, hj, rfl, rfl, hown, hb⟩ := hrel
            have HOI := Lib.hid hown
            have HBI := Lib.hid hb
            clear hown hb HO8 HB8
            by_cases hjz : j < d.ll
            · obtain ⟨u0, hc0⟩ : ∃ u0 : Value, wr.cell? ⟨wo.heap.size + 1, j, none⟩ = some u0 := by
                rw [World.ownsRow.cellAt HOI.out j (by omega)]
                exact ⟨_, List.getElem?_eq_getElem (by rw [List.length_map, fill1_length]; exact hjz)⟩
              have hf0 := World.ownsRow.frozenAt HOI.out j
              go_wp2_with fail
              go_roundg (d.ll - j)
              case measure => omega
              case rel => exact ⟨j + 1, by omega, by omega, by go_num, by rw [← fill1_step d.ll j hjz]; exact own_put HOI.out j _, HBI.out.setCell (Nat.le_refl _) _⟩
            · obtain rfl : j = d.ll := by omega
              have hbw : Below wd.heap.size wd wr := by rw [hwsz]; exact HBI.out
              have LW := Lib.hid (HLD.out.step (k' := k) (Fr.of_below hbw (by omega)) (HLD.out.ar.below hbw) (HLD.out.mo.below hbw) HLD.out.tot)
              have ya := LW.out.arena.cell 0
              have ys := LW.out.all.cell 0
              simp at ya ys
              clear xa xs e0 e1 e2 e3 e4
              have hsrc := HLD.out.ar.made_source (w1 := wr) (xs := fill1 d.ll d.ll) (c := d.ll) (by rw [fill1_length, hwsz]; exact HOI.out)
              have ht9 := HTT.out
              have AR := Lib.hid (add_room_n LW.out.ar _ (fill1 d.ll d.ll) d.ll d.ll (fill1_length _ _) false 0 (by omega) (by omega) (by omega) (.inl (by omega)) hsrc)
              clear hsrc ht9 hbw
              go_wp2_with fail
              refine AR.out.mono ?_
              rintro e w9 ⟨rfl, ⟨gw9, ha9, hlat⟩, ht9⟩
              obtain ⟨hbL, hlL⟩ := own_whole HOI.out
              have hgw : ∀ q, gw = some q → q < wo.heap.size := fun q hq => (HL.out.ar.wlt q hq).2
              have hnL : some (wo.heap.size + 1) ≠ gw := by intro e; have := hgw _ e.symm; omega
              have hsr : wo.heap.size + 1 < wr.heap.size := hbL.lt
              have hb9 : Blk w9 (wo.heap.size + 1) 3 ((fill1 d.ll d.ll).map (Value.int .i64)).toArray := (ht9.block _ hsr (by omega) (by omega) hnL).trans hbL
              have hnL9 : some (wo.heap.size + 1) ≠ gw9 := by
                rcases hlat with e | ⟨q, e, hq⟩
                · rw [e]; exact hnL
                · rw [e]; intro e'; injection e' with e'; omega
              have hf9 : Fr w.heap.size wr w9 := Fr.of_turn LW.out.ar ht9 LW.out.fr.size
              have hm9 := LW.out.mo.turn LW.out.ar ht9 hgD hbD hlat
              have hrow9 := own_fr LW.out.row hf9 (by decide) (by decide) (by decide)
              have hall9 := hf9.blk _ _ _ LW.out.all (by decide) (by decide) (by decide)
              have hlt9 := hf9.below.size
              have HBL := Lib.hid (And.intro hb9 (And.intro hnL9 hf9))
              have HM9 := Lib.hid hm9
              have HR9 := Lib.hid hrow9
              have HA9 := Lib.hid ha9
              have HAL9 := Lib.hid hall9
              have zs := hall9.cell 0
              have zf := hall9.frozen 0
              simp at zs
              have hl9 := LW.out.mo.len
              have hl8 := length_le_total cs
              have ht8 := HTT.out
              have hps : ps.length ≤ 1500 := by omega
              clear hl9 hl8 ht8
              clear hbL hlL hgw hnL hb9 hnL9 hf9 hm9 hrow9 ha9 hall9 ht9 hlat ya ys AR
              go_wp2_with (at_builtin; refine wpList_append1 _ rfl _ _ 27 rfl w4.heap.size 34 ip (.pointer none) 8 Try.underlying27 hip hzp0 hzp1 hzp2 rfl _ ps.length _ rfl ((HR9.out.alloc _).alloc _) (.pointer (some ⟨w9.heap.size, 0, none⟩)) (w9.heap.size + 1) rfl (by simp) rfl (by unfold maxLen; omega) (by omega) (by have := hs4; simp; omega) ?_)
              intro v' w10 hown10 hg10 hat10
              obtain ⟨A10, c10, hv10, -⟩ := own_slice hown10
              subst hv10
              have LP11 := Lib.hid (Lp.add (k := k + 1) (cl := ⟨fill1 d.ll d.ll, false, least 0, 0, true⟩) (L := wo.heap.size + 1) (zs := fill1 d.ll d.ll) HA9.out HM9.out HR9.out (fun p hp => Nat.lt_of_lt_of_le (LW.out.low p hp) hlt9) (by rw [total_snoc, HWS.out]; have := HTT.out; simp only [Cl.size, fill1_length]; omega) (LW.out.fr.trans HBL.out.2.2.below)
                (HBL.out.2.2.blk _ _ _ LW.out.leave (by decide) (by decide) (by decide)) (HBL.out.2.2.blk _ _ _ LW.out.drop (by decide) (by decide) (by decide)) (HBL.out.2.2.blk _ _ _ LW.out.res (by decide) (by decide) (by decide)) (HBL.out.2.2.blk _ _ _ LW.out.arena (by decide) (by decide) (by decide)) HAL9.out
                HBL.out.1 rfl HBL.out.2.1 (by omega) hgD hbD hwD rfl (by omega) (by omega) (by simp only [fill1_length]; exact hg10) hown10)
              have hb10 : Blk w10 (w4.heap.size + 1) 27 #[.slice A ps.length c] := by
                refine Blk.grown ?_ hg10 ?_
                · exact (HAL9.out.alloc _).alloc _
                · exact own_blk_ne HR9.out HAL9.out (by decide)
              have y1 := hb10.cell 0
              have y2 := hb10.frozen 0
              simp at y1
              clear hown10 hg10 hat10 hb10 zs zf
              go_wp2_with fail
              go_roundg (ds.length - k)
              case measure => omega
              case rel => exact ⟨k + 1, gw9, A10, c10, _, _, by omega, by omega, by go_num, LP11.out⟩
        · have hk2' : ¬ ((d.kd : Int) % 8 < 2) := by omega
          have DA := Lib.hid (do_any HLD.out.ar HLD.out.mo hgD hbD hwD (by omega) A c (cells_of_ptrs HLD.out.row) d.kd d.wh d.ll d.lc d.n d.m d.a d1 d2 d3 d4 d5 d6)
          clear hwd hd hws hk2 hbd htot hwk hw5
          go_wp2_with fail
          rw [← HWD.out]
          refine DA.out.mono ?_
          rintro e w7 ⟨rfl, cs', ha7, hm7, hz7, hf7⟩
          have LP7 := Lib.hid (HLD.out.step (k' := k + 1) hf7 ha7 hm7 (by rw [total_of_sizes hz7, HWS.out]; have := HLD.out.tot; omega))
          clear ha7 hm7 hz7 hf7
          go_wp2_with fail
          go_roundg (ds.length - k)
          case measure => omega
          case rel => exact ⟨k + 1, gw, A, c, ps, cs', by omega, by omega, by go_num, LP7.out⟩
      · obtain rfl : k = ds.length := by omega
        have hBr := HL.out.fr.size
        have hNl : cs.length ≤ 1500 := by have h1 := length_le_total cs; have h2 := HL.out.tot; have h3 := HWT.out; rw [List.take_length] at h2; omega
        have htt : total cs ≤ 1500 := by have h2 := HL.out.tot; have h3 := HWT.out; rw [List.take_length] at h2; omega
        have hpl := HL.out.mo.len
        have WK := Wk.start HL.out hBr (by omega)
        obtain ⟨N, hN⟩ : ∃ N, N = cs.length := ⟨_, rfl⟩
        have HN := Lib.hid hN
        have HNL : Hid (N ≤ 1500) := Lib.hid (by rw [hN]; exact hNl)
        have HTT := Lib.hid htt
        have HPL : Hid (ps.length = N) := Lib.hid (by rw [hN]; exact hpl)
        have HWK0 := Lib.hid WK
        have hbrB : w.heap.size + 2 < wr.heap.size := HL.out.res.lt
        clear hNl htt hpl WK hN
        go_wp2_with fail
        refine (all_any _ _).mono ?_
        rintro e w7 ⟨rfl, rfl⟩
        go_wp2_with fail
        obtain ⟨bk, hbk⟩ : ∃ bk, bk = wr.heap.size := ⟨_, rfl⟩
        obtain ⟨wl, hwl⟩ : ∃ wl, wl = (wr.alloc (.cells #[.int .i64 0] 3)).alloc (.cells #[.pointer (some ⟨g, 0, none⟩)] 25) := ⟨_, rfl⟩
        have HWK := HWK0.out
        have hsl : wl.heap.size = bk + 2 := by rw [hwl, hbk]; simp
        rw [← hwl, ← hbk] at HWK
        rw [← hwl]
        try rw [World.size_alloc]
        rw [← hbk]
        have HW := Lib.hid HWK
        rw [← hbk] at hbrB
        have HSL := Lib.hid hsl
        clear HWK HWK0 hwl HL xa xs hlt hk lta lts hbk
        have HSEQ := Lib.hid (all_seq_of HW.out.ar (by have := HTT.out; omega) (bk + 1) (by omega) (HW.out.abox.cell 0) 19 (by omega))
        clear hsl
        refine (wpIn_wide (n := 20)).1 ?_
        refine range_at rfl (enters_of Try.func25 (by kernel_rfl) rfl) HSEQ.out rfl
          (fun K W => ∃ (cs' : List Cl) (kk : Nat), cs'.map Cl.size = cs.map Cl.size ∧ kk ≤ K ∧ (∀ j cl, kk ≤ j → j < K → cs'[j]? = some cl → cl.alive = false) ∧ Wk w W w.heap.size g b w4.heap.size (bk + 2) gw A c ps cs' kk lv dr w.heap.size (w.heap.size + 1) (w.heap.size + 2) w4.heap.size (w4.heap.size + 1) bk (bk + 1))
          (fun cd W => cd = .ret ∧ Below w.heap.size w W ∧ W.cell? ⟨w.heap.size + 2, 0, none⟩ = some (.bool true)) ?hI ?hIx ⟨cs, 0, rfl, Nat.le_refl _, fun j cl _ h2 => absurd h2 (Nat.not_lt_zero _), HW.out⟩ ?hgone ?hrd ?a1 ?hassign ?hbody ?hhere ?hdone ?hstop
        case hassign =>
          intro l k W K hK
          gi_wp2
          exact hK
        case hI =>
          rintro K W W' ⟨cs', kk, h1, h2, h3, h4⟩ hb
          rw [HSL.out] at hb
          exact ⟨cs', kk, h1, h2, h3, h4.lower hb⟩
        case hIx =>
          rintro cd W W' ⟨h1, h2, h3⟩ hb
          have hs := HSL.out
          exact ⟨h1, h2.trans (hb.mono (by omega)), (hb.cell (p := ⟨w.heap.size + 2, 0, none⟩) (by show w.heap.size + 2 < _; omega)).trans h3⟩
        case hgone =>
          rintro K W ⟨cs', kk, h1, h2, h3, h4⟩ hk ⟨al, hal, hf⟩
          refine ⟨cs', kk, h1, by omega, ?_, h4⟩
          intro j cl hj1 hj2 hc
          by_cases e : j < K
          · exact h3 j cl hj1 e hc
          · obtain rfl : j = K := by omega
            rw [← h4.tells h1 hal hc]; exact hf
        case hrd =>
          rintro K W ⟨cs', kk, h1, h2, h3, h4⟩
          exact ⟨h4.abox.cell 0, _, h4.ar.hasAt⟩
        case hhere =>
          rintro K W W' ⟨al, h1, h2⟩ ⟨cs', kk, _, _, _, h4⟩ hb
          have hs := HSL.out
          exact ⟨al, h1.below hb (by have := h4.lo.g; omega) (by have := h4.lo.b; omega), h2⟩
        case hbody =>
          rintro l K W hWs ⟨cs', kk0, hz, hkk0, hgn0, hwk0⟩ hK ⟨al, hal, htr⟩
          have hl' : cs'.length = cs.length := by have := congrArg List.length hz; simpa using this
          have hn := HN.out
          have hpl := HPL.out
          obtain ⟨cl, hcl⟩ : ∃ cl, cs'[K]? = some cl := ⟨_, List.getElem?_eq_getElem (by omega)⟩
          have hav : cl.alive = true := (hwk0.tells hz hal hcl).symm.trans htr
          have hst : startOf cs K = startOf cs' K := (startOf_sizes hz K).symm
          rw [hst]
          obtain ⟨gr, rfl, -, -⟩ := own_addr hwk0.row (by omega)
          obtain ⟨r, hr⟩ : ∃ r, r = startOf cs' K := ⟨_, rfl⟩
          rw [← hr]
          have hKN : K < N := by omega
          have HZ := Lib.hid hz
          have HGN0 := Lib.hid hgn0
          have HWK0 := Lib.hid hwk0
          have HCL := Lib.hid hcl
          have HAV := Lib.hid hav
          have HR := Lib.hid hr
          have HL1 : Hid (cs'.length = N) := Lib.hid (by omega)
          have hnl := HNL.out
          obtain ⟨pl, hpl2⟩ : ∃ pl, pl = ps.length := ⟨_, rfl⟩
          have HP := Lib.hid hpl2
          have hpn : pl = N := by omega
          subst hpn
          clear hz hgn0 hwk0 hcl hav hr hst hal htr hl' hn hpl hpl2 hK
          gi_wp2
          gi_loopg [] (K - kk0 + 1) (fun gk wi => ∃ kk : Nat, kk ≤ K ∧ gk = K - kk + 1 ∧ (∀ j cl, kk ≤ j → j < K → cs'[j]? = some cl → cl.alive = false) ∧ KeptUp (bk + 2) W wi ∧ Wk w wi w.heap.size g b w4.heap.size (bk + 2) gw (some ⟨gr, 0, none⟩) c ps cs' kk lv dr w.heap.size (w.heap.size + 1) (w.heap.size + 2) w4.heap.size (w4.heap.size + 1) bk (bk + 1))
          case atStart => exact ⟨kk0, hkk0, rfl, HGN0.out, KeptUp.refl _ _, HWK0.out⟩
          case round =>
            obtain ⟨kk, hkk, rfl, hgn, hku, hwk⟩ := hrel
            obtain ⟨wi, hwi⟩ : ∃ wi : World, wi = wr := ⟨_, rfl⟩
            obtain ⟨b1, b2, b3, b4, b5, b6, b7, b8⟩ := hwk.boxes
            have xr := hwk.rowcell (j := kk) (by have := HP.out; omega)
            have hpp := HP.out
            rw [← hpp] at b3
            obtain ⟨ck, hck⟩ : ∃ ck, cs'[kk]? = some ck := ⟨_, List.getElem?_eq_getElem (by have := HL1.out; omega)⟩
            obtain ⟨y0, y5, y1, y2, y3, y4, y6⟩ := hwk.clause hck
            obtain ⟨p, hp⟩ : ∃ p, p = ps.getD kk 0 := ⟨_, rfl⟩
            rw [← hp] at xr y0 y5 y1 y2 y3 y4 y6
            have r0 := hwk.res.cell 0
            have r1 := hwk.res.frozen 0
            simp at r0
            have r2 : w.heap.size + 1 + 1 ≠ bk := by omega
            have HWI := Lib.hid hwk
            have HKU := Lib.hid hku
            have HGN := Lib.hid hgn
            have HPP := Lib.hid hp
            have HCK := Lib.hid hck
            clear hwk hku hgn hp hck hpp hwi
            by_cases e : kk = K
            · subst e
              have hcc : ck = cl := by have h1 := HCK.out; rw [HCL.out] at h1; exact (Option.some.inj h1).symm
              subst hcc
              have hav := HAV.out
              rw [hav] at y5
              rw [← HR.out] at y0
              have hkp : (kk : Int) < (pl : Int) := by omega
              clear hav hkk0 hkk hWs
              by_cases hd : (dr : Int) % 9 = (kk : Int)
              · by_cases hn1 : kk + 1 < pl
                · have hn2 : (kk : Int) + 1 < (pl : Int) := by omega
                  obtain ⟨c2, hc2⟩ : ∃ c2, cs'[kk + 1]? = some c2 := ⟨_, List.getElem?_eq_getElem (by have := HL1.out; omega)⟩
                  obtain ⟨z0, z5, z1, z2, z3, z4, z6⟩ := HWI.out.clause hc2
                  have zr := HWI.out.rowcell (j := kk + 1) (by have := HP.out; omega)
                  obtain ⟨pre, post, hsp, hpre⟩ := split_at hc2
                  have hst2 : startOf cs' (kk + 1) = (total pre : Nat) := by rw [hsp, ← hpre]; exact startOf_mid pre c2 post
                  have htp2 : total cs' ≤ 1099511627776 := by rw [total_of_sizes HZ.out]; have := HTT.out; omega
                  have htq : total pre ≤ 1500 := by have h1 := size_le_total pre post c2; rw [← hsp, total_of_sizes HZ.out] at h1; have := HTT.out; omega
                  have HDR := Lib.hid (Wk.calldrop (cl := c2) (pre := pre) (post := post) (by rw [← hsp]; exact HWI.out.drew) (by rw [← hsp]; exact htp2) hgD hbD hwD)
                  rw [hpre] at HDR
                  rw [hst2] at z0
                  have HZ2 : Hid ((pre ++ kill c2 :: post).map Cl.size = cs.map Cl.size) := Lib.hid (by rw [← HZ.out, hsp]; simp [kill_size])
                  obtain ⟨q, hq⟩ : ∃ q, q = ps.getD (kk + 1) 0 := ⟨_, rfl⟩
                  rw [← hq] at z0 z5 z1 z2 z3 z4 zr HDR z6
                  obtain ⟨t, ht⟩ : ∃ t : Nat, t = total pre := ⟨_, rfl⟩
                  rw [← ht] at z0 HDR htq
                  have hpp := HP.out
                  rw [← hpp] at HDR
                  have HQ := Lib.hid hq
                  clear hc2 hsp hpre hst2 htp2 hq ht hpp
                  gi_wp2_with fail
                  refine region_round (fun w' => w'.cell? ⟨w4.heap.size, 0, none⟩ = some (.pointer (some ⟨g, 0, none⟩)) ∧ w'.cell? ⟨w4.heap.size + 1, 0, none⟩ = some (.slice (some ⟨gr, 0, none⟩) pl c) ∧ w'.cell? ⟨bk, 0, none⟩ = some (.int .i64 kk) ∧ w'.cell? ⟨gr, kk + 1, none⟩ = some (.pointer (some ⟨q, 0, none⟩)) ∧ w'.cell? ⟨q, 0, none⟩ = some (.int .i64 t)) (by kernel_rfl) (by kernel_rfl) ⟨b4, b3, b1, zr, z0⟩ (fun hHeld => ?_)
                  refine wpAnyH_take (i := 0) (v := .pointer (some ⟨g, 0, none⟩)) rfl (by kernel_rfl) (by kernel_rfl) (by kernel_rfl) (fun _ _ _ h => h) (Or.inl ⟨by rfl, ?_⟩) (by assumption) ?_
                  · (intro w9 hSw; obtain ⟨s1, s2, s3, s4, s5⟩ := hSw; go_simp)
                  try simp only [Act.put, List.setIfInBounds_toArray, List.set_cons_zero, List.set_cons_succ]
                  refine wpAnyH_take (i := 1) (v := .slice (some ⟨gr, 0, none⟩) pl c) rfl (by kernel_rfl) (by kernel_rfl) (by kernel_rfl) (fun _ _ _ h => h) (Or.inl ⟨by rfl, ?_⟩) (by assumption) ?_
                  · (intro w9 hSw; obtain ⟨s1, s2, s3, s4, s5⟩ := hSw; go_simp)
                  try simp only [Act.put, List.setIfInBounds_toArray, List.set_cons_zero, List.set_cons_succ]
                  refine wpAnyH_take (i := 2) (v := .int .i64 kk) rfl (by kernel_rfl) (by kernel_rfl) (by kernel_rfl) (fun _ _ _ h => h) (Or.inl ⟨by rfl, ?_⟩) (by assumption) ?_
                  · (intro w9 hSw; obtain ⟨s1, s2, s3, s4, s5⟩ := hSw; go_simp)
                  try simp only [Act.put, List.setIfInBounds_toArray, List.set_cons_zero, List.set_cons_succ]
                  refine wpAnyH_take (i := 3) (v := .int .i64 ((kk : Int) + 1)) rfl (by kernel_rfl) (by kernel_rfl) (by kernel_rfl) (fun _ _ _ h => h) (Or.inl ⟨by rfl, ?_⟩) (by assumption) ?_
                  · (intro w9 hSw; obtain ⟨s1, s2, s3, s4, s5⟩ := hSw; go_simp; exact IntWalk.i64_in _ (by omega))
                  try simp only [Act.put, List.setIfInBounds_toArray, List.set_cons_zero, List.set_cons_succ]
                  refine wpAnyH_take (i := 4) (v := .pointer (some ⟨gr, kk + 1, none⟩)) rfl (by kernel_rfl) (by kernel_rfl) (by kernel_rfl) (fun _ _ _ h => h) (Or.inl ⟨by rfl, ?_⟩) (by assumption) ?_
                  · (intro w9 hSw; obtain ⟨s1, s2, s3, s4, s5⟩ := hSw; go_simp; intro h9; omega)
                  try simp only [Act.put, List.setIfInBounds_toArray, List.set_cons_zero, List.set_cons_succ]
                  refine wpAnyH_take (i := 5) (v := .pointer (some ⟨q, 0, none⟩)) rfl (by kernel_rfl) (by kernel_rfl) (by kernel_rfl) (fun _ _ _ h => h) (Or.inl ⟨by rfl, ?_⟩) (by assumption) ?_
                  · (intro w9 hSw; obtain ⟨s1, s2, s3, s4, s5⟩ := hSw; go_simp)
                  try simp only [Act.put, List.setIfInBounds_toArray, List.set_cons_zero, List.set_cons_succ]
                  refine wpAnyH_take (i := 6) (v := .pointer (some ⟨q, 0, none⟩)) rfl (by kernel_rfl) (by kernel_rfl) (by kernel_rfl) (fun _ _ _ h => h) (Or.inl ⟨by rfl, ?_⟩) (by assumption) ?_
                  · (intro w9 hSw; obtain ⟨s1, s2, s3, s4, s5⟩ := hSw; go_simp)
                  try simp only [Act.put, List.setIfInBounds_toArray, List.set_cons_zero, List.set_cons_succ]
                  refine wpAnyH_take (i := 7) (v := .pointer (some ⟨q, 0, none⟩)) rfl (by kernel_rfl) (by kernel_rfl) (by kernel_rfl) (fun _ _ _ h => h) (Or.inl ⟨by rfl, ?_⟩) (by assumption) ?_
                  · (intro w9 hSw; obtain ⟨s1, s2, s3, s4, s5⟩ := hSw; go_simp)
                  try simp only [Act.put, List.setIfInBounds_toArray, List.set_cons_zero, List.set_cons_succ]
                  refine wpAnyH_take (i := 8) (v := .int .i64 t) rfl (by kernel_rfl) (by kernel_rfl) (by kernel_rfl) (fun _ _ _ h => h) (Or.inl ⟨by rfl, ?_⟩) (by assumption) ?_
                  · (intro w9 hSw; obtain ⟨s1, s2, s3, s4, s5⟩ := hSw; go_simp)
                  try simp only [Act.put, List.setIfInBounds_toArray, List.set_cons_zero, List.set_cons_succ]
                  refine wpAnyH_ready (rs := [9]) (by kernel_rfl) (by simp) ?_
                  refine AllReadyH.cons rfl (fun K hK => ?_) AllReadyH.nil
                  go_simp
                  refine HDR.out.mono ?_
                  rintro e1 w2 ⟨rfl, ⟨xb, n5⟩, n6, ⟨k1, k2, k3, k4, k5, k6⟩, n9, n10, n11⟩
                  have m1 := k5.cell 0
                  have m2 := k2.cell 0
                  have m3 := k1.cell 0
                  have m4 := n9 gr (kk + 1) rfl (by have := HP.out; omega)
                  rw [← HQ.out] at m4
                  simp at m1 m2 m3
                  have hHeld2 : w2.cell? ⟨w4.heap.size, 0, none⟩ = some (.pointer (some ⟨g, 0, none⟩)) ∧ w2.cell? ⟨w4.heap.size + 1, 0, none⟩ = some (.slice (some ⟨gr, 0, none⟩) pl c) ∧ w2.cell? ⟨bk, 0, none⟩ = some (.int .i64 kk) ∧ w2.cell? ⟨gr, kk + 1, none⟩ = some (.pointer (some ⟨q, 0, none⟩)) ∧ w2.cell? ⟨q, 0, none⟩ = some (.int .i64 t) := ⟨m1, m2, m3, m4, k6⟩
                  refine hK.out _ _ hHeld2 (fun hHeld3 => ?_)
                  clear hK HDR m1 m2 m3 hHeld2 hHeld3 k5 k6
                  refine wpAnyH_done (by kernel_rfl) ?_ _
                  dsimp only [Calm]
                  have n7 := k1.cell 0
                  have n7f := k1.frozen 0
                  have n8 := k2.cell 0
                  have n3 := k3.cell 0
                  have n4 := k4.cell 0
                  have n4f := k4.frozen 0
                  have nr := m4
                  simp at n7 n8 n3 n4
                  try simp only [Act.put, List.setIfInBounds_toArray, List.set_cons_zero, List.set_cons_succ]
                  have HW2 := Lib.hid n11
                  have HK2 := Lib.hid (HKU.out.trans (KeptUp.trans (Y := wr.drew) ⟨Nat.le_refl _, fun _ _ _ => rfl⟩ n10))
                  clear k1 k2 k3 k4 n9 n10 n11 hHeld
                  by_cases hlv2 : (lv : Int) = (kk : Int) + 1
                  · gi_wp2
                    have H2 := HW2.out.kset (kk + 1)
                    rw [show ((kk + 1 : Nat) : Int) = (kk : Int) + 1 by omega] at H2
                    exact (show KeptUp wl.heap.size W _ ∧ (Code.ret = Code.ret ∧ Below w.heap.size w _ ∧ World.cell? _ _ = _) from ⟨by rw [HSL.out]; exact (HK2.out.trans (keptUp_set _ _ _ _ (by show bk < _; omega))).trans (keptUp_set _ _ _ _ (by show w.heap.size + 1 + 1 < _; omega)), rfl, H2.fr.setCell (by show w.heap.size ≤ w.heap.size + 1 + 1; omega) _, by have := (H2.res.set_ 0 (.bool true)).cell 0; simpa using this⟩)
                  · gi_wp2
                    have H2 := HW2.out.kset (kk + 1)
                    rw [show ((kk + 1 : Nat) : Int) = (kk : Int) + 1 by omega] at H2
                    first
                    | exact (show KeptUp wl.heap.size W _ ∧ ∃ (cs1 : List Cl) (k1 : Nat), cs1.map Cl.size = cs.map Cl.size ∧ k1 ≤ kk + 1 ∧ (∀ j cl, k1 ≤ j → j < kk + 1 → cs1[j]? = some cl → cl.alive = false) ∧ Wk w _ w.heap.size g b w4.heap.size (bk + 2) gw (some ⟨gr, 0, none⟩) c ps cs1 k1 lv dr w.heap.size (w.heap.size + 1) (w.heap.size + 2) w4.heap.size (w4.heap.size + 1) bk (bk + 1) from ⟨by rw [HSL.out]; exact HK2.out.trans (keptUp_set _ _ _ _ (by show bk < _; omega)), _, kk + 1, HZ2.out, Nat.le_refl _, fun j cl h1 h2 _ => (by omega), H2⟩)
                    | exact (show KeptUp wl.heap.size W _ ∧ ∃ (cs1 : List Cl), cs1.map Cl.size = cs.map Cl.size ∧ ∃ (k1 : Nat), k1 ≤ kk + 1 ∧ (∀ j cl, k1 ≤ j → j < kk + 1 → cs1[j]? = some cl → cl.alive = false) ∧ Wk w _ w.heap.size g b w4.heap.size (bk + 2) gw (some ⟨gr, 0, none⟩) c ps cs1 k1 lv dr w.heap.size (w.heap.size + 1) (w.heap.size + 2) w4.heap.size (w4.heap.size + 1) bk (bk + 1) from ⟨by rw [HSL.out]; exact HK2.out.trans (keptUp_set _ _ _ _ (by show bk < _; omega)), _, HZ2.out, kk + 1, Nat.le_refl _, fun j cl h1 h2 _ => (by omega), H2⟩)
                · have hn2 : ¬ ((kk : Int) + 1 < (pl : Int)) := by omega
                  by_cases hlv2 : (lv : Int) = (kk : Int) + 1
                  · gi_wp2
                    have H2 := HWI.out.kset (kk + 1)
                    rw [show ((kk + 1 : Nat) : Int) = (kk : Int) + 1 by omega] at H2
                    exact (show KeptUp wl.heap.size W _ ∧ (Code.ret = Code.ret ∧ Below w.heap.size w _ ∧ World.cell? _ _ = _) from ⟨by rw [HSL.out]; exact (HKU.out.trans (keptUp_set _ _ _ _ (by show bk < _; omega))).trans (keptUp_set _ _ _ _ (by show w.heap.size + 1 + 1 < _; omega)), rfl, H2.fr.setCell (by show w.heap.size ≤ w.heap.size + 1 + 1; omega) _, by have := (H2.res.set_ 0 (.bool true)).cell 0; simpa using this⟩)
                  · gi_wp2
                    have H2 := HWI.out.kset (kk + 1)
                    rw [show ((kk + 1 : Nat) : Int) = (kk : Int) + 1 by omega] at H2
                    first
                    | exact (show KeptUp wl.heap.size W _ ∧ ∃ (cs1 : List Cl) (k1 : Nat), cs1.map Cl.size = cs.map Cl.size ∧ k1 ≤ kk + 1 ∧ (∀ j cl, k1 ≤ j → j < kk + 1 → cs1[j]? = some cl → cl.alive = false) ∧ Wk w _ w.heap.size g b w4.heap.size (bk + 2) gw (some ⟨gr, 0, none⟩) c ps cs1 k1 lv dr w.heap.size (w.heap.size + 1) (w.heap.size + 2) w4.heap.size (w4.heap.size + 1) bk (bk + 1) from ⟨by rw [HSL.out]; exact HKU.out.trans (keptUp_set _ _ _ _ (by show bk < _; omega)), cs', kk + 1, HZ.out, Nat.le_refl _, fun j cl h1 h2 _ => (by omega), H2⟩)
                    | exact (show KeptUp wl.heap.size W _ ∧ ∃ (cs1 : List Cl), cs1.map Cl.size = cs.map Cl.size ∧ ∃ (k1 : Nat), k1 ≤ kk + 1 ∧ (∀ j cl, k1 ≤ j → j < kk + 1 → cs1[j]? = some cl → cl.alive = false) ∧ Wk w _ w.heap.size g b w4.heap.size (bk + 2) gw (some ⟨gr, 0, none⟩) c ps cs1 k1 lv dr w.heap.size (w.heap.size + 1) (w.heap.size + 2) w4.heap.size (w4.heap.size + 1) bk (bk + 1) from ⟨by rw [HSL.out]; exact HKU.out.trans (keptUp_set _ _ _ _ (by show bk < _; omega)), cs', HZ.out, kk + 1, Nat.le_refl _, fun j cl h1 h2 _ => (by omega), H2⟩)
              · by_cases hlv2 : (lv : Int) = (kk : Int) + 1
                · gi_wp2
                  have H2 := HWI.out.kset (kk + 1)
                  rw [show ((kk + 1 : Nat) : Int) = (kk : Int) + 1 by omega] at H2
                  exact (show KeptUp wl.heap.size W _ ∧ (Code.ret = Code.ret ∧ Below w.heap.size w _ ∧ World.cell? _ _ = _) from ⟨by rw [HSL.out]; exact (HKU.out.trans (keptUp_set _ _ _ _ (by show bk < _; omega))).trans (keptUp_set _ _ _ _ (by show w.heap.size + 1 + 1 < _; omega)), rfl, H2.fr.setCell (by show w.heap.size ≤ w.heap.size + 1 + 1; omega) _, by have := (H2.res.set_ 0 (.bool true)).cell 0; simpa using this⟩)
                · gi_wp2
                  have H2 := HWI.out.kset (kk + 1)
                  rw [show ((kk + 1 : Nat) : Int) = (kk : Int) + 1 by omega] at H2
                  first
                  | exact (show KeptUp wl.heap.size W _ ∧ ∃ (cs1 : List Cl) (k1 : Nat), cs1.map Cl.size = cs.map Cl.size ∧ k1 ≤ kk + 1 ∧ (∀ j cl, k1 ≤ j → j < kk + 1 → cs1[j]? = some cl → cl.alive = false) ∧ Wk w _ w.heap.size g b w4.heap.size (bk + 2) gw (some ⟨gr, 0, none⟩) c ps cs1 k1 lv dr w.heap.size (w.heap.size + 1) (w.heap.size + 2) w4.heap.size (w4.heap.size + 1) bk (bk + 1) from ⟨by rw [HSL.out]; exact HKU.out.trans (keptUp_set _ _ _ _ (by show bk < _; omega)), cs', kk + 1, HZ.out, Nat.le_refl _, fun j cl h1 h2 _ => (by omega), H2⟩)
                  | exact (show KeptUp wl.heap.size W _ ∧ ∃ (cs1 : List Cl), cs1.map Cl.size = cs.map Cl.size ∧ ∃ (k1 : Nat), k1 ≤ kk + 1 ∧ (∀ j cl, k1 ≤ j → j < kk + 1 → cs1[j]? = some cl → cl.alive = false) ∧ Wk w _ w.heap.size g b w4.heap.size (bk + 2) gw (some ⟨gr, 0, none⟩) c ps cs1 k1 lv dr w.heap.size (w.heap.size + 1) (w.heap.size + 2) w4.heap.size (w4.heap.size + 1) bk (bk + 1) from ⟨by rw [HSL.out]; exact HKU.out.trans (keptUp_set _ _ _ _ (by show bk < _; omega)), cs', HZ.out, kk + 1, Nat.le_refl _, fun j cl h1 h2 _ => (by omega), H2⟩)
            · have hga := HGN.out kk ck (Nat.le_refl _) (by omega) HCK.out
              rw [hga] at y5
              have hkp : (kk : Int) < (pl : Int) := by omega
              clear hga
              gi_wp2
              gi_roundg (K - kk)
              case measure => omega
              case rel => exact ⟨kk + 1, by omega, by omega, fun j cl h1 h2 h3 => HGN.out j cl (by omega) h2 h3, HKU.out.trans (keptUp_set _ _ _ _ (by show bk < _; omega)), HWI.out.kset (kk + 1)⟩
        case hstop =>
          rintro D cd W hD ⟨rfl, hb, hr⟩ hdf
          have hs := HSL.out
          have hDl : D < W.heap.size := (Array.getElem?_eq_some_iff.1 hdf).1
          gi_wp2_with fail
          refine ⟨by simp, .inl ⟨_, _, rfl, run_takeDeferred hdf, ?_⟩⟩
          have hbp : Below (bk + 2) W (W.putObj D (.deferred none)) := below_put W D _ (by omega) (by omega)
          exact ⟨_, results_cell0 rfl rfl (load_bool ((hbp.cell (p := ⟨w.heap.size + 2, 0, none⟩) (by show w.heap.size + 2 < _; omega)).trans hr)), rfl, hb.trans (hbp.mono (by omega))⟩
        case hdone =>
          rintro D W hD ⟨cs', kk0, hz, hkk0, hgn0, hwk0⟩ hdf
          have hs := HSL.out
          have hl' : cs'.length = cs.length := by have := congrArg List.length hz; simpa using this
          have hn := HN.out
          have HL1 : Hid (cs'.length = N) := Lib.hid (by omega)
          rw [← hn] at hkk0 hgn0
          have hnl := HNL.out
          obtain ⟨pl, hpl2⟩ : ∃ pl, pl = ps.length := ⟨_, rfl⟩
          have HP := Lib.hid hpl2
          have hpn : pl = N := by have := HPL.out; omega
          subst hpn
          have HWK0 := Lib.hid hwk0
          have HGN0 := Lib.hid hgn0
          have HDF := Lib.hid hdf
          have HD := Lib.hid (show bk + 2 ≤ D by omega)
          clear hwk0 hgn0 hdf hz hl' hn hpl2 hD hs
          go_wp2_with fail
          go_loopg [] (pl - kk0 + 1) (fun gk wi => ∃ kk : Nat, kk ≤ pl ∧ gk = pl - kk + 1 ∧ (∀ j cl, kk ≤ j → j < pl → cs'[j]? = some cl → cl.alive = false) ∧ wi.heap[D]? = some (.deferred (some [])) ∧ Wk w wi w.heap.size g b w4.heap.size (bk + 2) gw A c ps cs' kk lv dr w.heap.size (w.heap.size + 1) (w.heap.size + 2) w4.heap.size (w4.heap.size + 1) bk (bk + 1))
          case atStart => exact ⟨kk0, hkk0, rfl, HGN0.out, HDF.out, HWK0.out⟩
          case round =>
            obtain ⟨kk, hkk, rfl, hgn, hdf, hwk⟩ := hrel
            obtain ⟨b1, b2, b3, b4, b5, b6, b7, b8⟩ := hwk.boxes
            have hpp := HP.out
            rw [← hpp] at b3
            have HWI := Lib.hid hwk
            have HGN := Lib.hid hgn
            have HDI := Lib.hid hdf
            have r0 := hwk.res.cell 0
            have r1 := hwk.res.frozen 0
            simp at r0
            clear hgn hdf hkk0
            by_cases e : kk < pl
            · obtain ⟨gr, rfl, -, -⟩ := own_addr hwk.row (by omega)
              have xr := hwk.rowcell (j := kk) (by omega)
              obtain ⟨ck, hck⟩ : ∃ ck, cs'[kk]? = some ck := ⟨_, List.getElem?_eq_getElem (by have := HL1.out; omega)⟩
              obtain ⟨y0, y5, y1, y2, y3, y4, y6⟩ := hwk.clause hck
              rw [HGN.out kk ck (Nat.le_refl _) e hck] at y5
              obtain ⟨p, hp⟩ : ∃ p, p = ps.getD kk 0 := ⟨_, rfl⟩
              rw [← hp] at xr y0 y5 y1 y2 y3 y4 y6
              have hkp : (kk : Int) < (pl : Int) := by omega
              clear hwk hck hp hpp e
              go_wp2
              go_roundg (pl - kk)
              case measure => omega
              case rel => exact ⟨kk + 1, by omega, by omega, fun j cl h1 h2 h3 => HGN.out j cl (by omega) h2 h3, (Below.heap_setCell _ _ _ D (by show D ≠ bk; have := HD.out; omega)).trans HDI.out, HWI.out.kset (kk + 1)⟩
            · obtain rfl : kk = pl := by omega
              have HRES := Lib.hid ((hwk.res.set_ 0 (.bool true)).cell 0)
              have HFR := Lib.hid (hwk.fr.setCell (p := ⟨w.heap.size + 2, 0, none⟩) (show w.heap.size ≤ w.heap.size + 2 by omega) (.bool true))
              have hws := hwk.loB.2.2.2
              have hdl : D < wr.heap.size := (Array.getElem?_eq_some_iff.1 HDI.out).1
              have hdd := HD.out
              have HDI2 := Lib.hid (show (wr.setCell ⟨w.heap.size + 2, 0, none⟩ (.bool true)).heap[D]? = some (.deferred (some [])) from (Below.heap_setCell wr ⟨w.heap.size + 2, 0, none⟩ (.bool true) D (by show D ≠ w.heap.size + 2; omega)).trans HDI.out)
              clear hwk hpp
              go_wp2_with fail
              refine ⟨by simp, .inl ⟨_, _, rfl, run_takeDeferred HDI2.out, ?_⟩⟩
              obtain ⟨X, hX⟩ : ∃ X, X = wr.setCell ⟨w.heap.size + 2, 0, none⟩ (.bool true) := ⟨_, rfl⟩
              have hxs : X.heap.size = wr.heap.size := by rw [hX]; simp [World.setCell]
              have hres := HRES.out
              have hfr := HFR.out
              rw [← hX] at hres hfr
              have hbp : Below (bk + 2) X (X.putObj D (.deferred none)) := below_put X D _ (by omega) (by omega)
              show ∃ x, _
              have hfin : (X.putObj D (.deferred none)).cell? ⟨w.heap.size + 2, 0, none⟩ = some (.bool true) := (hbp.cell (p := ⟨w.heap.size + 2, 0, none⟩) (by show w.heap.size + 2 < _; omega)).trans (by simpa using hres)
              have hfrr := hfr.trans (hbp.mono (by omega))
              rw [hX] at hfin hfrr
              exact ⟨_, results_cell0 rfl rfl (load_bool hfin), rfl, hfrr⟩
  · rw [show decide (weight5 ds ≤ 500) = false by simp [hw]]
    clear hw
    have k9 := HK3.out.2.2.set_ 0 (.bool true)
    have HB9 := Lib.hid (show Below w.heap.size w (w3.setCell ⟨w.heap.size + 2, 0, none⟩ (.bool true)) from HB3.out.setCell (by simp) _)
    have K9 := Lib.hid (k9.cell 0)
    clear k9
    go_wp2
    exact ⟨_, results_cell0 rfl rfl (load_bool K9.out), rfl, HB9.out⟩
end Go.Proofs.Ytnjcegjcaaplgaa
