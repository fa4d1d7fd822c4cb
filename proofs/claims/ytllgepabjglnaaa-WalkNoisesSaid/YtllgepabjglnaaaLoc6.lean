/- local's state: what was the best one, and a variable turned. -/
import Derived.Test.YtllgepabjglnaaaLoc5
namespace Go.Proofs.Ytllgepabjglnaaa
open Go.RowKit
set_option linter.unusedVariables false
set_option linter.unusedSimpArgs false

theorem turn_map {z : List Bool} {v : Nat} (h1 : 1 ≤ v) (h2 : v ≤ z.length) : (turn z v).map Value.bool = (z.map Value.bool).set (v - 1) (.bool (!z.getD (v - 1) false)) := by
  unfold turn
  rw [List.map_set]
theorem undo_snoc (z : List Bool) (vs : List Nat) (v : Nat) : undo z (vs ++ [v]) = turn (undo z vs) v := by simp [undo]
section
variable {w : World} {ρ : Nat → Nat} {p : Lx} {m : MS}
set_option maxRecDepth 100000 in
set_option maxHeartbeats 1000000 in
theorem lookback_any (h : LM w ρ p m) (hz : m.z.length ≤ 1000) (hv : ∀ v ∈ m.b.since, 1 ≤ v ∧ v ≤ m.z.length) (hs : m.b.since.length ≤ 2000) :
    Calls Try.prog 62 #[.pointer (some ⟨p.g, 0, none⟩)] w fun e w' => ∃ A c, e = .returned (.slice A m.z.length c) ∧
      w'.ownsRow w.heap.size 4 1 (.slice A m.z.length c) m.z.length ((undo m.z m.b.since).map .bool) ∧ Below w.heap.size w w' := by
  have c0 := h.cells.1
  have c7 := h.cells.2.2.2.2.2.2.2.1
  have HC := Lib.hid (cloneB _ _ _ p.vA p.vc w (by omega) (fun j _ => rfl) (bools_cells h.vs.1) (Nat.le_refl _))
  rw [bools_map m.z] at HC
  have hsw := h.sw
  have HG := Lib.hid (And.intro h.lt hsw)
  obtain ⟨vs, hvs⟩ : ∃ vs, m.b.since = vs := ⟨_, rfl⟩
  obtain ⟨z, hzz⟩ : ∃ z, m.z = z := ⟨_, rfl⟩
  rw [hvs] at hv hs c7 HG ⊢
  rw [hzz] at c0 HC hz hv ⊢
  obtain ⟨SA, hSA⟩ : ∃ SA, p.sA = SA := ⟨_, rfl⟩
  rw [hSA] at c7 HG
  have HV := Lib.hid hv
  have hgl := h.lt
  clear h hvs hzz hsw hv hSA
  go_enter Try.func62, Try.ntmps62
  go_wp2_with fail
  refine HC.out.mono ?_
  rintro e w1 ⟨A1, cc1, rfl, ho, hb⟩
  have HO := Lib.hid ho
  have HB := Lib.hid hb
  have d7 : w1.cell? ⟨p.g, 7, none⟩ = some (.slice SA vs.length p.sc) := (hb.cell hgl).trans c7
  clear ho hb c0 c7
  go_wp2
  go_loopg [16] (vs.length + 1) (fun gk ti wr => ∃ j : Nat, j ≤ vs.length ∧ gk = vs.length - j + 1 ∧ ti = .int .i64 (j : Nat) ∧ Hid (wr.ownsRow w.heap.size 4 1 (.slice A1 z.length cc1) z.length ((undo z (vs.take j)).map .bool)) ∧ Hid (Below w.heap.size w wr))
  case atStart => exact ⟨0, by omega, by omega, rfl, HO, HB⟩
  case round =>
    obtain ⟨j, hj, rfl, rfl, HOr, HBr⟩ := hrel
    clear d7
    by_cases hlt : j < vs.length
    · obtain ⟨q, eq, _, ql, _, qc, _⟩ := HG.out.2.at_ (by omega)
      have cv := qc j (by omega)
      rw [show (natsV vs)[j]? = some (.int .i64 (vs.getD j 0 : Nat)) by simp [natsV, List.getD, hlt]] at cv
      have cvr : wr.cell? ⟨q, j, none⟩ = some (.int .i64 (vs.getD j 0 : Nat)) := (HBr.out.cell ql).trans cv
      have hvj := HV.out (vs.getD j 0) (by simp only [List.getD, List.getElem?_eq_getElem hlt, Option.getD_some]; exact List.getElem_mem hlt)
      have hnext : undo z (vs.take (j + 1)) = turn (undo z (vs.take j)) (vs.getD j 0) := by
        rw [List.take_succ_eq_append_getElem hlt, undo_snoc]
        simp [List.getD, hlt]
      have hul := undo_len (vs.take j) z
      obtain ⟨y, hy⟩ : ∃ y, undo z (vs.take j) = y := ⟨_, rfl⟩
      obtain ⟨k, hk⟩ : ∃ k, vs.getD j 0 = k + 1 := ⟨vs.getD j 0 - 1, by omega⟩
      rw [hy] at hnext HOr hul
      rw [hk] at hnext cvr hvj
      obtain ⟨g, eg, hg1, hg2⟩ := own_addr HOr.out (by omega)
      subst eg
      have ck := World.ownsRow.cellAt HOr.out k (by omega)
      rw [show (y.map Value.bool)[k]? = some (.bool (y.getD k false)) by simp [List.getD, show k < y.length by omega]] at ck
      have fk := World.ownsRow.frozenAt HOr.out k
      have HN := Lib.hid hnext
      have HST := Lib.hid ((HOr.out.stored k (.bool (!y.getD k false))))
      have htm := turn_map (z := y) (v := k + 1) (by omega) (by omega)
      rw [Nat.add_sub_cancel] at htm
      have HTM := Lib.hid htm
      obtain ⟨yb, hyb⟩ : ∃ yb, y.getD k false = yb := ⟨_, rfl⟩
      rw [hyb] at ck HST HTM
      have hkz : (k : Int) < (z.length : Int) := by omega
      have hkb : (k : Int) ≤ 1000 := by omega
      subst eq
      clear cv hk hy hul hnext htm hyb qc hvj
      go_wp2
      go_roundg (vs.length - j)
      case measure => omega
      case rel => exact ⟨j + 1, by omega, by omega, by go_num, Lib.hid (by rw [HN.out, HTM.out]; exact HST.out.1), Lib.hid (HBr.out.setCell hg1 _)⟩
    · have hjl : vs.length = j := by omega
      subst hjl
      rw [List.take_length] at HOr
      clear hlt hj
      go_wp2
      go_ret
      exact ⟨_, _, rfl, HOr.out, HBr.out⟩
end

/-- a variable was turned: what is remembered, but for the count -/
def BS.cmp (b : BS) (u v : Nat) (z : List Bool) : BS :=
  if u < b.fewest then { b with fewest := u, since := [], best := none }
  else match b.best with
    | some _ => b
    | none => { b with since := b.since ++ [v], best := if z.length ≤ b.since.length + 1 then some (undo z (b.since ++ [v])) else none }
theorem cmp_next (b : BS) (u v : Nat) (z : List Bool) : ({ b with flips := b.flips + 1 } : BS).cmp u v z = b.next u v z := by
  unfold BS.cmp BS.next
  split
  · rfl
  · rcases b.best with _ | a <;> rfl
theorem run_front_nil {P : Program} {t e : TypeId} (ht : P.underlying t = some (.slice e)) (w : World) (hz : (sizeOf e).run P w = .ok 1 w) : (Instr.slice t (.slice none 0 0) none (some (.int .i64 0)) none).run P w = .ok (.slice none 0 0) w := by
  simp [Instr.slice, run_underlying ht, Instr.sliceBounds, go_sem, hz, Result.andThen]
theorem own_none {w : World} {base e n c : Nat} {xs : List Value} {s : Nat} (h : w.ownsRow base e s (.slice none n c) n xs) : n = 0 ∧ c = 0 := by
  rcases h.2 with ⟨hv, h0⟩ | ⟨g, cap, cur, hv, _⟩
  · injection hv with _ _ hc
    exact ⟨h0, hc⟩
  · cases hv
section
variable {w w' : World} {ρ ρ' : Nat → Nat} {p : Lx} {m : MS}
/-- what is remembered, written anew -/
theorem LM.reB (h : LM w ρ p m) (S : Stay w w' ρ [2, 6, 10]) (hp : ∀ q, q < w.heap.size → ρ' q = ρ q) (hf : ∀ q, ρ' q ≠ 0 → q < w'.heap.size) {A' E' : Option Addr} {c' d' : Nat} {b' : BS}
    (hs : Blk w' p.g 75 (stC { p with sA := A', sc := c', eA := E', ec := d' } { m with b := b' }))
    (sw' : Oz w' ρ' 2 3 1 (.slice A' b'.since.length c') b'.since.length (natsV b'.since)) (e0' : b'.best = none → E' = none ∧ d' = 0)
    (ew' : ∀ a, b'.best = some a → 0 < a.length ∧ Oz w' ρ' 10 4 1 (.slice E' a.length d') a.length (a.map .bool)) : LM w' ρ' { p with sA := A', sc := c', eA := E', ec := d' } { m with b := b' } := by
  have R : ∀ {r t s n : Nat} {v : Value} {ys : List Value}, Oz w ρ r t s v n ys → r ∉ [2, 6, 10] → Oz w' ρ' r t s v n ys := fun ho hr => by
    have h1 := S.oz ho hr
    exact ⟨h1.1, fun q hq => (hp q (ho.1.lt q hq).2).trans (h1.2 q hq)⟩
  have R' : ∀ {r : Nat} {vs : List Value} {xss : List (List Int)}, OLr w ρ r vs xss → r ∉ [2, 6, 10] → OLr w' ρ' r vs xss := fun ho hr => by
    have h1 := S.olr ho hr
    exact ⟨h1.own, h1.len, fun j q hj hq => (hp q (ho.own.lt hj hq).2).trans (h1.part j q hj hq)⟩
  obtain ⟨xs, x1, x2⟩ := h.cs
  exact ⟨hf, hs, (hp _ h.lt).trans h.sr, R h.vs (by decide), ⟨xs, R x1 (by decide), ⟨x2.c0, x2.c1, x2.c2, x2.c3, x2.pl⟩⟩, h.rin, R' h.ls (by decide), h.lc, R h.hs (by decide), R' h.hl (by decide), h.hn, R h.rw_ (by decide), R h.kw (by decide), sw', e0', ew'⟩
theorem Stay.fresh {rs : List Nat} (S : Stay w w' ρ rs) (h : LM w ρ p m) : ∀ q, ρ q ≠ 0 → q < w'.heap.size := fun q hq => Nat.lt_of_lt_of_le (h.fresh q hq) S.1
/-- a number among what is remembered -/
theorem LM.setFew (h : LM w ρ p m) (u : Nat) : LM (w.setCell ⟨p.g, 6, none⟩ (.int .i64 (u : Nat))) ρ p { m with b := { m.b with fewest := u } } ∧ LStep w ρ (w.setCell ⟨p.g, 6, none⟩ (.int .i64 (u : Nat))) ρ := by
  have S : Stay w (w.setCell ⟨p.g, 6, none⟩ (.int .i64 (u : Nat))) ρ [6] := Stay.refl.set (by rw [h.sr]; decide) _ _
  have S' : Stay w (w.setCell ⟨p.g, 6, none⟩ (.int .i64 (u : Nat))) ρ [2, 6, 10] := Stay.refl.set (by rw [h.sr]; decide) _ _
  exact ⟨h.reB (A' := p.sA) (E' := p.eA) (c' := p.sc) (d' := p.ec) (b' := { m.b with fewest := u }) S' (fun _ _ => rfl) (S.fresh h) (h.str.set_ 6 (.int .i64 (u : Nat))) (S.oz h.sw (by decide)) h.e0 fun a ha => ⟨(h.ew a ha).1, S.oz (h.ew a ha).2 (by decide)⟩, S.step (by decide) rfl rfl rfl⟩
theorem LM.setFlips (h : LM w ρ p m) (u : Nat) : LM (w.setCell ⟨p.g, 5, none⟩ (.int .i64 (u : Nat))) ρ p { m with b := { m.b with flips := u } } ∧ LStep w ρ (w.setCell ⟨p.g, 5, none⟩ (.int .i64 (u : Nat))) ρ := by
  have S : Stay w (w.setCell ⟨p.g, 5, none⟩ (.int .i64 (u : Nat))) ρ [6] := Stay.refl.set (by rw [h.sr]; decide) _ _
  have S' : Stay w (w.setCell ⟨p.g, 5, none⟩ (.int .i64 (u : Nat))) ρ [2, 6, 10] := Stay.refl.set (by rw [h.sr]; decide) _ _
  exact ⟨h.reB (A' := p.sA) (E' := p.eA) (c' := p.sc) (d' := p.ec) (b' := { m.b with flips := u }) S' (fun _ _ => rfl) (S.fresh h) (h.str.set_ 5 (.int .i64 (u : Nat))) (S.oz h.sw (by decide)) h.e0 fun a ha => ⟨(h.ew a ha).1, S.oz (h.ew a ha).2 (by decide)⟩, S.step (by decide) rfl rfl rfl⟩
theorem LM.since0 (h : LM w ρ p m) : LM ((w.setCell ⟨p.g, 7, none⟩ (.slice p.sA 0 p.sc)).setCell ⟨p.g, 8, none⟩ (.slice none 0 0)) ρ { p with eA := none, ec := 0 } { m with b := { m.b with since := [], best := none } } ∧ LStep w ρ ((w.setCell ⟨p.g, 7, none⟩ (.slice p.sA 0 p.sc)).setCell ⟨p.g, 8, none⟩ (.slice none 0 0)) ρ := by
  have S : Stay w ((w.setCell ⟨p.g, 7, none⟩ (.slice p.sA 0 p.sc)).setCell ⟨p.g, 8, none⟩ (.slice none 0 0)) ρ [6] := (Stay.refl.set (by rw [h.sr]; decide) _ _).set (by rw [h.sr]; decide) _ _
  have S' : Stay w ((w.setCell ⟨p.g, 7, none⟩ (.slice p.sA 0 p.sc)).setCell ⟨p.g, 8, none⟩ (.slice none 0 0)) ρ [2, 6, 10] := (Stay.refl.set (by rw [h.sr]; decide) _ _).set (by rw [h.sr]; decide) _ _
  refine ⟨h.reB (A' := p.sA) (E' := none) (c' := p.sc) (d' := 0) (b' := { m.b with since := [], best := none }) S' (fun _ _ => rfl) (S.fresh h) ((h.str.set_ 7 (.slice p.sA 0 p.sc)).set_ 8 (.slice none 0 0)) ?_ (fun _ => ⟨rfl, rfl⟩) (fun a ha => by cases ha), S.step (by decide) rfl rfl rfl⟩
  have y := S.oz h.sw (by decide)
  rcases hA : p.sA with _ | a
  · rw [hA] at y
    obtain ⟨_, hc⟩ := own_none y.1
    rw [hc]
    exact Oz.nil_
  · rw [hA] at y
    have y2 := own_take14 y.1 (Nat.zero_le _) (by simp)
    rw [hA] at S
    exact ⟨by simpa [natsV] using y2, fun q hq => y.2 q hq⟩
/-- one more that was turned since -/
theorem LM.sinceOn (h : LM w ρ p m) {v : Nat} {wa w9 : World} {A' : Option Addr} {c' : Nat} (hba : Below w.heap.size w wa) (ho : w9.ownsRow 0 3 1 (.slice A' (m.b.since.length + 1) c') (m.b.since.length + 1) (natsV m.b.since ++ [.int .i64 (v : Nat)])) (hg : wa.grownBy w9 (Value.slice p.sA m.b.since.length p.sc).ownBlock)
    (hv : (Value.slice A' (m.b.since.length + 1) c').ownBlock = (Value.slice p.sA m.b.since.length p.sc).ownBlock ∨ (Value.slice A' (m.b.since.length + 1) c').ownBlock = some wa.heap.size) :
    ∃ ρ', LM (w9.setCell ⟨p.g, 7, none⟩ (.slice A' (m.b.since.length + 1) c')) ρ' { p with sA := A', sc := c' } { m with b := { m.b with since := m.b.since ++ [v] } } ∧ LStep w ρ (w9.setCell ⟨p.g, 7, none⟩ (.slice A' (m.b.since.length + 1) c')) ρ' := by
  have hrow : ∀ q, (Value.slice p.sA m.b.since.length p.sc).ownBlock = some q → ρ q = 2 := h.sw.2
  have hsz : w.heap.size ≤ wa.heap.size := hba.size
  have S : Stay w (w9.setCell ⟨p.g, 7, none⟩ (.slice A' (m.b.since.length + 1) c')) ρ [2, 6] := ((Stay.refl.below hba).grown hg fun q hq => by rw [hrow q hq]; decide).set (by rw [h.sr]; decide) _ _
  have S' : Stay w (w9.setCell ⟨p.g, 7, none⟩ (.slice A' (m.b.since.length + 1) c')) ρ [2, 6, 10] := ((Stay.refl.below hba).grown hg fun q hq => by rw [hrow q hq]; decide).set (by rw [h.sr]; decide) _ _
  obtain ⟨ρ', hρ'⟩ : ∃ ρ' : Nat → Nat, ρ' = fun q => if (Value.slice A' (m.b.since.length + 1) c').ownBlock = some q then 2 else ρ q := ⟨_, rfl⟩
  have hp : ∀ q, q < w.heap.size → ρ' q = ρ q := fun q hq => by
    rw [hρ']
    simp only
    split
    · rename_i e
      rcases hv with hv | hv
      · exact (hrow q (by rw [← hv]; exact e)).symm
      · rw [hv] at e
        injection e with e
        omega
    · rfl
  have hgn : some p.g ≠ (Value.slice A' (m.b.since.length + 1) c').ownBlock := fun e => by
    rcases hv with hv | hv
    · have := hrow p.g (by rw [← hv]; exact e.symm)
      rw [h.sr] at this
      cases this
    · rw [hv] at e
      injection e with e
      have := h.lt
      omega
  refine ⟨ρ', h.reB (A' := A') (E' := p.eA) (c' := c') (d' := p.ec) (b' := { m.b with since := m.b.since ++ [v] }) S' hp (fun q hq => ?_) ?_ ?_ h.e0 (fun a ha => ⟨(h.ew a ha).1, ?_⟩), ⟨((((Ft.refl w).low (F := fun q => ρ q ≠ 0) hba).grown hg fun q hq _ => by rw [hrow q hq]; decide).set (fun _ => by rw [h.sr]; decide) _ _), hp⟩⟩
  · rw [hρ'] at hq
    simp only at hq
    split at hq
    · rename_i e
      have := (ho.lt q e).2
      simpa [World.setCell] using this
    · exact Nat.lt_of_lt_of_le (h.fresh q hq) S.1
  · have g2 := (h.str.below hba h.lt).grown hg fun e => by
      have := hrow _ e.symm
      rw [h.sr] at this
      cases this
    have := g2.set_ 7 (.slice A' (m.b.since.length + 1) c')
    unfold stC at this ⊢
    rw [show ({ m.b with since := m.b.since ++ [v] } : BS).since.length = m.b.since.length + 1 by simp]
    exact this
  · have e : natsV (m.b.since ++ [v]) = natsV m.b.since ++ [.int .i64 (v : Nat)] := by simp [natsV]
    show Oz _ _ _ _ _ (.slice A' (m.b.since ++ [v]).length c') (m.b.since ++ [v]).length (natsV (m.b.since ++ [v]))
    rw [show (m.b.since ++ [v]).length = m.b.since.length + 1 by simp, e]
    refine ⟨own_setCell ho _ hgn, fun q hq => ?_⟩
    rw [hρ']
    simp only
    rw [if_pos hq]
  · have y := (h.ew a ha).2
    have y2 := S.oz y (by decide)
    exact ⟨y2.1, fun q hq => (hp q (y.1.lt q hq).2).trans (y2.2 q hq)⟩
/-- the best one, kept as a row of its own -/
theorem LM.bestOn (h : LM w ρ p m) {a : List Bool} {w9 : World} {A' : Option Addr} {c' : Nat} (ha : 0 < a.length) (hba : Below w.heap.size w w9) (ho : w9.ownsRow w.heap.size 4 1 (.slice A' a.length c') a.length (a.map .bool)) :
    ∃ ρ', LM (w9.setCell ⟨p.g, 8, none⟩ (.slice A' a.length c')) ρ' { p with eA := A', ec := c' } { m with b := { m.b with best := some a } } ∧ LStep w ρ (w9.setCell ⟨p.g, 8, none⟩ (.slice A' a.length c')) ρ' := by
  have S : Stay w (w9.setCell ⟨p.g, 8, none⟩ (.slice A' a.length c')) ρ [6] := (Stay.refl.below hba).set (by rw [h.sr]; decide) _ _
  have S' : Stay w (w9.setCell ⟨p.g, 8, none⟩ (.slice A' a.length c')) ρ [2, 6, 10] := (Stay.refl.below hba).set (by rw [h.sr]; decide) _ _
  obtain ⟨ρ', hρ'⟩ : ∃ ρ' : Nat → Nat, ρ' = fun q => if (Value.slice A' a.length c').ownBlock = some q then 10 else ρ q := ⟨_, rfl⟩
  have hp : ∀ q, q < w.heap.size → ρ' q = ρ q := fun q hq => by
    rw [hρ']
    simp only
    split
    · rename_i e
      have := (ho.lt q e).1
      omega
    · rfl
  have hgn : some p.g ≠ (Value.slice A' a.length c').ownBlock := fun e => by
    have := (ho.lt _ e.symm).1
    have := h.lt
    omega
  refine ⟨ρ', h.reB (A' := p.sA) (E' := A') (c' := p.sc) (d' := c') (b' := { m.b with best := some a }) S' hp (fun q hq => ?_) ?_ ?_ (fun hn => by cases hn) (fun a' ha' => ?_), ⟨((Ft.refl w).low (F := fun q => ρ q ≠ 0) hba).set (fun _ => by rw [h.sr]; decide) _ _, hp⟩⟩
  · rw [hρ'] at hq
    simp only at hq
    split at hq
    · rename_i e
      have := (ho.lt q e).2
      simpa [World.setCell] using this
    · exact Nat.lt_of_lt_of_le (h.fresh q hq) S.1
  · have g2 := h.str.below hba h.lt
    exact g2.set_ 8 (.slice A' a.length c')
  · have y2 := S.oz h.sw (by decide)
    exact ⟨y2.1, fun q hq => (hp q (h.sw.1.lt q hq).2).trans (y2.2 q hq)⟩
  · injection ha' with ha'
    subst ha'
    refine ⟨ha, own_more (own_setCell ho _ hgn) (Nat.zero_le _), fun q hq => ?_⟩
    rw [hρ']
    simp only
    rw [if_pos hq]
end
end Go.Proofs.Ytllgepabjglnaaa
