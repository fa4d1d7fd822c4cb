/- What turns a trail: Put, Decide, SetPhase; New. -/
import Derived.Test.YtihljekdipengaaTrl3
import Derived.Deep.RegionLaw
import Derived.Laws.OwnMore
import Derived.Deep.DeepCutAuto
import Derived.Deep.OwnRows
namespace Go.Proofs.Ytihljekdipengaa
open Go.RowKit
set_option linter.unusedVariables false
set_option linter.unusedSimpArgs false

theorem step_app12 {P : Program} {ops : Array Oper} {o : Oper} {a : Act} {w : World} {K : Act → World → Prop} {Q : Exit → Act → World → Prop} {E : Prop}
    (hg : o.guard = none) (s x : Operand) (t : TypeId) (hop : o.op = Op.call { callee := Callee.builtin Builtin.append, args := #[s, x], argTypes := #[t, t] })
    (base : Nat) (e : TypeId) (i : TypeInfo) (z : Value) (bytes : Nat) (ht : P.underlying t = some (.slice e)) (hi : P.info? e = some i) (hz : i.zero = some z)
    (hsize : i.size = 1) (hby : i.bytes = bytes) (hzs : z.cells.size = 1)
    (v : Value) (n : Nat) (xs : List Value) (hs : a.eval s = v) (hown : w.ownsRow base e 1 v n xs)
    (u : Value) (g : Nat) (hx : a.eval x = .slice (some ⟨g, 0, none⟩) 1 1) (hc : w.cell? ⟨g, 0, none⟩ = some u) (h1 : u.oneCell' = true)
    (h63 : n + 1 ≤ maxLen) (hbytes : (n + 1) * bytes ≤ 140737488355328) (hbase : base ≤ w.heap.size)
    (hK : ∀ v' w', w'.ownsRow base e 1 v' (n + 1) (xs ++ [u]) → w.grownBy w' v.ownBlock → (v'.ownBlock = v.ownBlock ∨ v'.ownBlock = some w.heap.size) → K (a.put o.dst v') w') :
    if Region.wanted o (yielded ops a.tmps) = true then Oper.wp P o a w K Q else E := by
  have hw : Region.wanted o (yielded ops a.tmps) = true := by simp [Region.wanted, hg]
  rw [if_pos hw]
  obtain ⟨v', w', hrun, h2, h3, _, hat⟩ := run_append_own_at (P := P) w base t o.type e i z 1 bytes ht hi hz hsize hby hzs (by decide) v n xs hown ⟨g, 0, none⟩ 1 1 [u] rfl
    (by intro j u' hu; match j, hu with | 0, hu => simp at hu; subst hu; simpa [Addr.add] using hc) (by intro u' hu; simp at hu; subst hu; exact h1) h63 hbytes hbase
  unfold Oper.wp
  simp [execOp, hop, resolve, invoke, builtin, hs, hx, hrun, Result.andThen]
  exact hK v' w' h2 h3 hat

theorem TrM.drewE {w w' : World} {base g P : Nat} {t : TS} (h : TrM w base g P t) (hd : ∃ m, w' = w.drewN m) : TrM w' base g P t := by
  obtain ⟨m, rfl⟩ := hd
  exact ⟨h.ex, h.phs, h.hg, h.hP⟩
abbrev allT : List TypeId := [3, 59, 62, 55]
section
variable {w : World} {base g P : Nat} {t : TS}
theorem put_any (h : Tr w base g P t) (hB : base ≤ w.heap.size) (l rs : Int) (h0 : -9223372036854775808 ≤ l ∧ l ≤ 9223372036854775807) :
    Calls Try.prog 9 #[.pointer (some ⟨g, 0, none⟩), .int .i64 l, .int .i64 rs] w fun e w' => e = .returned (.bool (t.takes l)) ∧ Tr w' base g P (t.put l rs) ∧ Tn allT base P w w' := by
  have HT := Lib.hid (takes_any h l h0)
  have H := Lib.hid h
  clear h
  rcases ht : t.takes l with _ | _
  · have e : t.put l rs = t := by unfold TS.put; rw [if_neg (by simp [ht])]
    rw [e]
    rw [ht] at HT
    clear ht e
    go_enter Try.func9, Try.ntmps9
    go_wp2_with fail
    refine HT.out.mono ?_
    rintro e w1 ⟨rfl, hw⟩
    have HW := Lib.hid hw
    clear hw
    go_wp2
    go_ret
    exact ⟨rfl, H.out.drewE HW.out, (Tn.refl _).drewE HW.out⟩
  · have e : t.put l rs = t.push l rs := by unfold TS.put; rw [if_pos ht]
    obtain ⟨h1, h2⟩ := (TS.takes_iff H.out.good.few).1 ht
    rw [e]
    rw [ht] at HT
    have HG := Lib.hid (H.out.good.push h1 h2 rs)
    have HL := Lib.hid h1
    have HF := Lib.hid h2
    clear ht e h1 h2
    go_enter Try.func9, Try.ntmps9
    go_wp2_with fail
    refine HT.out.mono ?_
    rintro e w1 ⟨rfl, hw⟩
    have HW := Lib.hid hw
    have HS := Lib.hid (show base ≤ w1.heap.size by obtain ⟨m, rfl⟩ := hw; exact hB)
    clear hw hB
    go_wp2_with fail
    refine (push_any (H.out.drewE HW.out).toTrM HS.out l rs HL.out HF.out (fun r hr => (H.out.good.lit r hr).1) H.out.good.few (by have := H.out.good.len; have := H.out.good.few; omega)).mono ?_
    rintro e w2 ⟨rfl, h2, h3⟩
    have H2 := Lib.hid h2
    have H3 := Lib.hid h3
    clear h2 h3
    go_wp2
    go_ret
    exact ⟨rfl, ⟨H2.out, HG.out⟩, ((Tn.refl _).drewE HW.out).trans H3.out⟩

theorem TrM.upped {w1 wa w3 : World} {A3 : Option Addr} {c3 : Nat} {V S : Nat} {A D : Option Addr} {c d : Nat} (b1 : Blk w1 g 55 #[.slice A t.recs.length c, .slice D t.starts.length d, .slice (some ⟨V, 0, none⟩) t.ph.length t.ph.length, .slice (some ⟨S, 0, none⟩) t.ph.length t.ph.length, .slice (some ⟨P, 0, none⟩) t.ph.length t.ph.length])
    (b2 : w1.ownsRow base 3 1 (.slice A t.recs.length c) t.recs.length (litsV t.recs)) (b3 : w1.ownsRow base 3 1 (.slice D t.starts.length d) t.starts.length (startsV t.starts))
    (hne : ∀ q, (Value.slice A t.recs.length c).ownBlock = some q → (Value.slice D t.starts.length d).ownBlock = some q → False)
    (b4 : Vals w1 V t.ph.length t.recs) (b5 : Spots w1 S t.ph.length t.recs) (b6 : BlkB w1 P 4 t.ph) (hV : base ≤ V) (hS : base ≤ S) (hP : base ≤ P) (hg : base ≤ g) (hB : base ≤ w1.heap.size)
    (ba : Below w1.heap.size w1 wa) (ho : w3.ownsRow base 3 1 (.slice A3 (t.starts.length + 1) c3) (t.starts.length + 1) (startsV t.starts ++ [.int .i64 (t.recs.length : Nat)])) (hgr : wa.grownBy w3 (Value.slice D t.starts.length d).ownBlock)
    (hv : (Value.slice A3 (t.starts.length + 1) c3).ownBlock = (Value.slice D t.starts.length d).ownBlock ∨ (Value.slice A3 (t.starts.length + 1) c3).ownBlock = some wa.heap.size) :
    TrM (w3.setCell ⟨g, 1, none⟩ (.slice A3 (t.starts.length + 1) c3)) base g P t.up ∧ Tn allT base P w1 (w3.setCell ⟨g, 1, none⟩ (.slice A3 (t.starts.length + 1) c3)) ∧ base ≤ (w3.setCell ⟨g, 1, none⟩ (.slice A3 (t.starts.length + 1) c3)).heap.size := by
  have hsz := ba.size
  have rlA := own_below b2 ba fun q hq => (b2.lt q hq).2
  have rdA := own_below b3 ba fun q hq => (b3.lt q hq).2
  have K : ∀ {q : Nat} {ty : TypeId} {X : Array Value}, Blk w1 q ty X → ty ≠ 3 → Blk w3 q ty X := fun hq hne => (hq.below ba hq.lt).grown hgr (own_blk_ne rdA (hq.below ba hq.lt) (Ne.symm hne))
  have hg9 := K b1 (by decide)
  have K2 : ∀ {q : Nat} {ty : TypeId} {X : Array Value} (v : Value), Blk w3 q ty X → ty ≠ 55 → Blk (w3.setCell ⟨g, 1, none⟩ v) q ty X := fun v hq hne => hq.far (hq.ne_ hg9 hne) v
  have rl9 : w3.ownsRow base 3 1 (.slice A t.recs.length c) t.recs.length (litsV t.recs) := rlA.kept hgr (by
    rcases hq : (Value.slice A t.recs.length c).ownBlock with _ | q
    · exact .inl rfl
    · exact .inr fun e => hne q hq e.symm)
  refine ⟨⟨⟨V, S, A, A3, c, c3, ?_, ?_, ?_, ?_, b4.keep fun X hX => K2 _ (K hX (by decide)) (by decide), b5.keep fun X hX => K2 _ (K hX (by decide)) (by decide), hV, hS⟩, K2 _ (K b6 (by decide)) (by decide), hg, hP⟩, ?_, ?_⟩
  · have := hg9.set_ 1 (.slice A3 (t.starts.length + 1) c3)
    simpa [TS.up] using this
  · exact own_setCell rl9 (p := ⟨g, 1, none⟩) _ (own_blk_ne rl9 hg9 (by decide))
  · have := own_setCell ho (p := ⟨g, 1, none⟩) (.slice A3 (t.starts.length + 1) c3) (own_blk_ne ho hg9 (by decide))
    simpa [TS.up, startsV] using this
  · intro q h1 h2
    simp only [TS.up, List.length_append, List.length_singleton] at h2
    rcases hv with e | e
    · rw [h2] at e
      exact hne q h1 e.symm
    · rw [h2] at e
      injection e with e
      have := (b2.lt q h1).2
      omega
  · exact ((Tn.of_below ba hB).grown rdA (by simp [allT]) hgr (by omega)).set hg9 (.inl (by simp [allT])) hg _ _
  · have := hgr.size
    simp [World.setCell]
    omega

set_option maxHeartbeats 2000000 in
theorem decide_any (h : Tr w base g P t) (hB : base ≤ w.heap.size) (l : Int) (h0 : -9223372036854775808 ≤ l ∧ l ≤ 9223372036854775807) :
    Calls Try.prog 11 #[.pointer (some ⟨g, 0, none⟩), .int .i64 l] w fun e w' => e = .returned (.bool (t.takes l)) ∧ Tr w' base g P (t.dec l) ∧ Tn allT base P w w' := by
  have HT := Lib.hid (takes_any h l h0)
  have H := Lib.hid h
  clear h
  rcases ht : t.takes l with _ | _
  · have e : t.dec l = t := by unfold TS.dec; rw [if_neg (by simp [ht])]
    rw [e]
    rw [ht] at HT
    clear ht e
    go_enter Try.func11, Try.ntmps11
    go_wp2_with fail
    refine HT.out.mono ?_
    rintro e w1 ⟨rfl, hw⟩
    have HW := Lib.hid hw
    clear hw
    go_wp2
    go_ret
    exact ⟨rfl, H.out.drewE HW.out, (Tn.refl _).drewE HW.out⟩
  · have e : t.dec l = t.up.push l (-1) := by unfold TS.dec; rw [if_pos ht]
    obtain ⟨h1, h2⟩ := (TS.takes_iff H.out.good.few).1 ht
    rw [e]
    rw [ht] at HT
    have HG := Lib.hid (H.out.good.dpush h1 h2 (-1))
    have HL := Lib.hid h1
    have HF := Lib.hid h2
    obtain ⟨i0, hi, hz0, hz1, hz2⟩ := info_parts infoI12
    have hlen := H.out.good.len
    have hsl := H.out.good.starts_len
    have hfew := H.out.good.few
    clear ht e h1 h2
    go_enter Try.func11, Try.ntmps11
    go_wp2_with fail
    refine HT.out.mono ?_
    rintro e w1 ⟨rfl, hw⟩
    have hB1 : base ≤ w1.heap.size := by obtain ⟨m, rfl⟩ := hw; exact hB
    have HW := Lib.hid hw
    obtain ⟨V, S, A, D, c, d, b1, b2, b3, b4, hvals, hspots, b8, b9⟩ := (H.out.drewE hw).ex
    have c0 := b1.cell 0
    have c1 := b1.cell 1
    simp at c0 c1
    obtain ⟨wa, hwa⟩ : ∃ wa, wa = (w1.alloc (.cells #[.int .i64 (t.recs.length : Nat)] 3)).drew := ⟨_, rfl⟩
    have hba : Below w1.heap.size w1 wa := by rw [hwa]; exact ((Below.refl _ _).alloc (Nat.le_refl _) _).drew
    have HA2 := Lib.hid (own_below b3 hba fun q hq => (b3.lt q hq).2)
    have HAC := Lib.hid (show wa.cell? ⟨w1.heap.size, 0, none⟩ = some (.int .i64 (t.recs.length : Nat)) by rw [hwa]; go_cell)
    have HAS := Lib.hid (show wa.heap.size = w1.heap.size + 1 by rw [hwa]; simp)
    have HAT := Lib.hid (b1.below hba b1.lt)
    have HU := Lib.hid (fun (w3 : World) (A3 : Option Addr) (c3 : Nat) => TrM.upped (w3 := w3) (A3 := A3) (c3 := c3) b1 b2 b3 b4 hvals hspots (H.out.drewE hw).phs b8 b9 H.out.hP H.out.hg hB1 hba)
    have HC1 := Lib.hid c1
    have HB1 := Lib.hid hB1
    have hgl : g < w1.heap.size := b1.lt
    have HWA := Lib.hid hwa
    clear hw hB hba hwa b1 b2 b3 b4 hvals hspots b8 b9 hB1
    go_wp2
    go_region_law (first | (rw [← HWA.out]; refine step_app12 rfl (.tmp 13) (.tmp 19) 36 rfl base 3 i0 (.int .i64 0) 8 Try.underlying36 hi hz0 hz1 hz2 rfl (.slice D t.starts.length d) t.starts.length (startsV t.starts) rfl HA2.out (.int .i64 (t.recs.length : Nat)) w1.heap.size rfl HAC.out rfl (by unfold maxLen; omega) (by omega) (by have := HAS.out; have := HB1.out; omega) ?_; intro v' w3 hown3 hg3 hat3; obtain ⟨A3, c3, hv3, -⟩ := own_slice hown3; subst hv3; have hbk3 := HAT.out.grown hg3 (own_blk_ne HA2.out HAT.out (by decide)); have dF := hbk3.frozen 1; have dC := hbk3.cell 1; simp at dC; have HO3 := Lib.hid hown3; have HG3 := Lib.hid hg3; have HAT3 := Lib.hid hat3; clear hbk3 hown3 hg3 hat3))
    all_goals
      have HE := Lib.hid (HU.out w3 A3 c3 HO3.out HG3.out HAT3.out)
      go_wp2_with fail
      refine (push_any HE.out.1 HE.out.2.2 l (-1) HL.out HF.out (fun r hr => (H.out.good.lit r hr).1) H.out.good.few (by show t.recs.length ≤ _; omega)).mono ?_
      rintro e w2 ⟨rfl, h2, h3⟩
      have H2 := Lib.hid h2
      have H3 := Lib.hid h3
      clear h2 h3
      go_wp2
      go_ret
      exact ⟨rfl, ⟨H2.out, HG.out⟩, (((Tn.refl _).drewE HW.out).trans HE.out.2.1).trans H3.out⟩

theorem setphase_any (h : Tr w base g P t) (v : Int) (b : Bool) :
    Calls Try.prog 14 #[.pointer (some ⟨g, 0, none⟩), .int .i64 v, .bool b] w fun e w' => e = .returned (.bool (t.isVar v)) ∧ Tr w' base g P (t.setPh v b) ∧ Tn [] base P w w' := by
  have HI := Lib.hid (isvar_any h v)
  have HG := Lib.hid (h.good.setPh v b)
  have hfew := h.good.few
  rcases hv : t.isVar v with _ | _
  · have e : t.setPh v b = t := by unfold TS.setPh; rw [if_neg (by simp [hv])]
    rw [e]
    rw [hv] at HI
    have H := Lib.hid h
    clear h hv e
    go_enter Try.func14, Try.ntmps14
    go_wp2_with fail
    refine HI.out.mono ?_
    rintro e w1 ⟨rfl, rfl⟩
    go_wp2
    go_ret
    exact ⟨rfl, H.out, Tn.refl _⟩
  · have e : t.setPh v b = ⟨t.recs, t.starts, t.ph.set (v.toNat - 1) b⟩ := by unfold TS.setPh; rw [if_pos hv]
    obtain ⟨h1, h2⟩ := TS.isVar_iff.1 hv
    rw [e] at HG ⊢
    rw [hv] at HI
    obtain ⟨k, rfl⟩ : ∃ k : Nat, v = (k : Int) + 1 := ⟨v.toNat - 1, by omega⟩
    have hk : k < t.ph.length := by omega
    rw [show ((k : Int) + 1).toNat - 1 = k by omega] at HG ⊢
    obtain ⟨V, S, A, D, c, d, b1, b2, b3, b4, ⟨cv, b5, b5'⟩, ⟨cp, b6, b6'⟩, b8, b9⟩ := h.ex
    have hph := h.phs
    have hpb : Blk w P 4 (boolCells t.ph) := h.phs
    have c4 := b1.cell 4
    simp at c4
    have cp' := hph.cell hk
    have fP := BlkB.frozen hph k
    have HE : Tr (w.setCell ⟨P, k, none⟩ (.bool b)) base g P ⟨t.recs, t.starts, t.ph.set k b⟩ := by
      have hl : (t.ph.set k b).length = t.ph.length := by simp
      refine ⟨⟨⟨V, S, A, D, c, d, ?_, own_setCell b2 _ (own_blk_ne b2 hph (by decide)), own_setCell b3 _ (own_blk_ne b3 hph (by decide)), b4, ⟨cv, b5.far (b5.ne_ hpb (by decide)) _, by simpa using b5'⟩, ⟨cp, b6.far (b6.ne_ hpb (by decide)) _, by simpa using b6'⟩, b8, b9⟩, hph.set_ k b, h.hg, h.hP⟩, HG.out⟩
      rw [hl]
      exact b1.far (b1.ne_ hpb (by decide)) _
    have HE := Lib.hid HE
    have HT := Lib.hid ((Tn.refl (ts := []) (base := base) (P := P) w).set hph (.inr rfl) h.hP k (.bool b))
    have hwk : IntKind.i64.wrap (k : Int) = (k : Int) := i64_ok (by omega)
    have hkk : (k : Int) < (t.ph.length : Int) := by omega
    clear h hv e h1 h2 b1 b2 b3 b4 b5 b5' b6 b6' b8 b9 hph hpb hk
    go_enter Try.func14, Try.ntmps14
    go_wp2_with fail
    refine HI.out.mono ?_
    rintro e w1 ⟨rfl, rfl⟩
    go_wp2
    all_goals go_ret
    all_goals exact ⟨rfl, HE.out, HT.out⟩
end

theorem infoV12 : (Try.prog.info? 59).map (fun i => (i.zero, i.size, i.bytes)) = some (some (.int .i8 0), 1, 1) := by kernel_rfl
theorem infoB12 : (Try.prog.info? 4).map (fun i => (i.zero, i.size, i.bytes)) = some (some (.bool false), 1, 1) := by kernel_rfl
theorem infoS12 : (Try.prog.info? 62).map (fun i => (i.zero, i.size, i.bytes)) = some (some (.agg #[.int .i64 0, .int .i64 0, .int .i64 0]), 3, 24) := by kernel_rfl
theorem new_tr {w W' : World} {n g V S P : Nat} (hn : n ≤ 100000) (h1 : Blk W' g 55 #[.slice none 0 0, .slice none 0 0, .slice (some ⟨V, 0, none⟩) n n, .slice (some ⟨S, 0, none⟩) n n, .slice (some ⟨P, 0, none⟩) n n])
    (h2 : Blk W' V 59 (madeCells #[.int .i8 0] n)) (h3 : Blk W' S 62 (madeCells (Value.agg #[.int .i64 0, .int .i64 0, .int .i64 0]).cells (n * 3))) (h4 : Blk W' P 4 (madeCells #[.bool false] n)) (l1 : w.heap.size ≤ g) (l2 : w.heap.size ≤ V) (l3 : w.heap.size ≤ S) (l4 : w.heap.size ≤ P) :
    Tr W' w.heap.size g P (TS.fresh n) := by
  refine ⟨⟨⟨V, S, none, none, 0, 0, ?_, World.ownsRow_nil _ _ _ _, World.ownsRow_nil _ _ _ _, fun q h => by simp [Value.ownBlock] at h, ⟨_, h2, ?_, fun k hk => ?_⟩, ⟨_, h3, ?_, fun i r hr => by simp [TS.fresh] at hr⟩, l2, l3⟩, ?_, l1, l4⟩, TS.Good.fresh hn⟩
  · simpa [TS.fresh] using h1
  · simp [TS.fresh, size_madeCells]
  · simp [TS.fresh] at hk
    simp [TS.fresh, madeCells, hk, Nat.mod_one, valT, find, findAt]
  · simp [TS.fresh, size_madeCells]
  · unfold BlkB
    have e : madeCells #[Value.bool false] n = boolCells (TS.fresh n).ph := by
      apply Array.ext
      · simp [size_madeCells, TS.fresh, boolCells]
      · intro i h1 h2
        simp [madeCells, TS.fresh, Nat.mod_one, boolCells]
    rw [← e]
    exact h4
theorem below_drew12 {B : Nat} {a b : World} (h : Below B a b) : Below B a b.drew := h.drew

set_option maxHeartbeats 2000000 in
theorem new_any (n : Nat) (hn : n ≤ 100000) (W : World) :
    Calls Try.prog 8 #[.int .i64 n] W fun e W' => ∃ g P, e = .returned (.pointer (some ⟨g, 0, none⟩)) ∧ Tr W' W.heap.size g P (TS.fresh n) ∧ Below W.heap.size W W' := by
  have hm1 := fun (x : Int) (hx : x = n) => hx ▸ run_make_row' (P := Try.prog) 52 59 (.int .i8 0) 1 Try.underlying52 infoV12 rfl .i64 .i64 n (by omega) (by omega)
  have hm2 := fun (x : Int) (hx : x = n) => hx ▸ run_make_row' (P := Try.prog) 49 4 (.bool false) 1 Try.underlying49 infoB12 rfl .i64 .i64 n (by omega) (by omega)
  have hm3 : ∀ (x : Int), x = n → ∀ w : World, (Instr.makeSlice 53 (.int .i64 x) (.int .i64 x)).run Try.prog w = .ok (.slice (some ⟨w.heap.size, 0, none⟩) n n) (w.alloc (.cells (madeCells (Value.agg #[.int .i64 0, .int .i64 0, .int .i64 0]).cells (n * 3)) 62)) := fun x hx w => by
    subst hx
    obtain ⟨i, hi, hzz⟩ := Option.map_eq_some_iff.1 infoS12
    simp only [Prod.mk.injEq] at hzz
    obtain ⟨hz, hs, hb⟩ := hzz
    have hr := run_make (P := Try.prog) w 53 62 i _ Try.underlying53 hi hz .i64 .i64 n n (by omega) (Int.le_refl _) (by rw [hb]; omega) (by omega)
    simp only [Int.toNat_natCast, hs] at hr
    exact hr
  obtain ⟨Z, hZ⟩ : ∃ Z, Z = madeCells (Value.agg #[.int .i64 0, .int .i64 0, .int .i64 0]).cells (n * 3) := ⟨_, rfl⟩
  rw [← hZ] at hm3
  rcases Nat.eq_zero_or_pos n with h0 | hpos
  · have hm1 := hm1 0 (by omega)
    have hm2 := hm2 0 (by omega)
    have hm3 := hm3 0 (by omega)
    have HZ : Hid (Z = madeCells (Value.agg #[.int .i64 0, .int .i64 0, .int .i64 0]).cells (n * 3)) := Lib.hid hZ
    have hn0 : ((n : Nat) : Int) = 0 := by omega
    rw [hn0]
    have HN0 := Lib.hid h0
    clear hZ hn0 h0
    go_enter Try.func8, Try.ntmps8
    go_wp2
    go_region_held3 (fun _ => True) (trivial) (fail)
    all_goals (go_wp2; go_ret)
    all_goals
      obtain rfl := HZ.out
      first
        | (refine ⟨W.heap.size + 1 + 1 + 1, W.heap.size + 1 + 1, rfl, new_tr (V := W.heap.size) (S := W.heap.size + 1) hn ?_ ?_ ?_ ?_ (by omega) (by omega) (by omega) (by omega), below_drew12 (((((Below.refl _ _).alloc (Nat.le_refl _) _).alloc (by simp) _).alloc (by simp; omega) _).alloc (by simp; omega) _)⟩ <;> (try unfold Blk) <;> simp only [World.alloc, World.drew, Array.getElem?_push, Array.size_push] <;> (repeat (first | rw [if_pos rfl] | rw [if_neg (by omega)])) <;> rfl)
        | (refine ⟨W.heap.size + 1 + 1 + 1, W.heap.size + 1, rfl, new_tr (V := W.heap.size) (S := W.heap.size + 1 + 1) hn ?_ ?_ ?_ ?_ (by omega) (by omega) (by omega) (by omega), below_drew12 (((((Below.refl _ _).alloc (Nat.le_refl _) _).alloc (by simp) _).alloc (by simp; omega) _).alloc (by simp; omega) _)⟩ <;> (try unfold Blk) <;> simp only [World.alloc, World.drew, Array.getElem?_push, Array.size_push] <;> (repeat (first | rw [if_pos rfl] | rw [if_neg (by omega)])) <;> rfl)
        | (refine ⟨W.heap.size + 1 + 1 + 1, W.heap.size + 1 + 1, rfl, new_tr (V := W.heap.size + 1) (S := W.heap.size) hn ?_ ?_ ?_ ?_ (by omega) (by omega) (by omega) (by omega), below_drew12 (((((Below.refl _ _).alloc (Nat.le_refl _) _).alloc (by simp) _).alloc (by simp; omega) _).alloc (by simp; omega) _)⟩ <;> (try unfold Blk) <;> simp only [World.alloc, World.drew, Array.getElem?_push, Array.size_push] <;> (repeat (first | rw [if_pos rfl] | rw [if_neg (by omega)])) <;> rfl)
        | (refine ⟨W.heap.size + 1 + 1 + 1, W.heap.size, rfl, new_tr (V := W.heap.size + 1) (S := W.heap.size + 1 + 1) hn ?_ ?_ ?_ ?_ (by omega) (by omega) (by omega) (by omega), below_drew12 (((((Below.refl _ _).alloc (Nat.le_refl _) _).alloc (by simp) _).alloc (by simp; omega) _).alloc (by simp; omega) _)⟩ <;> (try unfold Blk) <;> simp only [World.alloc, World.drew, Array.getElem?_push, Array.size_push] <;> (repeat (first | rw [if_pos rfl] | rw [if_neg (by omega)])) <;> rfl)
        | (refine ⟨W.heap.size + 1 + 1 + 1, W.heap.size + 1, rfl, new_tr (V := W.heap.size + 1 + 1) (S := W.heap.size) hn ?_ ?_ ?_ ?_ (by omega) (by omega) (by omega) (by omega), below_drew12 (((((Below.refl _ _).alloc (Nat.le_refl _) _).alloc (by simp) _).alloc (by simp; omega) _).alloc (by simp; omega) _)⟩ <;> (try unfold Blk) <;> simp only [World.alloc, World.drew, Array.getElem?_push, Array.size_push] <;> (repeat (first | rw [if_pos rfl] | rw [if_neg (by omega)])) <;> rfl)
        | (refine ⟨W.heap.size + 1 + 1 + 1, W.heap.size, rfl, new_tr (V := W.heap.size + 1 + 1) (S := W.heap.size + 1) hn ?_ ?_ ?_ ?_ (by omega) (by omega) (by omega) (by omega), below_drew12 (((((Below.refl _ _).alloc (Nat.le_refl _) _).alloc (by simp) _).alloc (by simp; omega) _).alloc (by simp; omega) _)⟩ <;> (try unfold Blk) <;> simp only [World.alloc, World.drew, Array.getElem?_push, Array.size_push] <;> (repeat (first | rw [if_pos rfl] | rw [if_neg (by omega)])) <;> rfl)
  · have hm1 := hm1 n rfl
    have hm2 := hm2 n rfl
    have hm3 := hm3 n rfl
    have HZ := Lib.hid hZ
    have hcl : max 0 (min (n : Int) 100000) = n := by omega
    clear hZ
    go_enter Try.func8, Try.ntmps8
    go_wp2
    go_region_held3 (fun _ => True) (trivial) (fail)
    all_goals (go_wp2; go_ret)
    all_goals
      obtain rfl := HZ.out
      first
        | (refine ⟨W.heap.size + 1 + 1 + 1, W.heap.size + 1 + 1, rfl, new_tr (V := W.heap.size) (S := W.heap.size + 1) hn ?_ ?_ ?_ ?_ (by omega) (by omega) (by omega) (by omega), below_drew12 (((((Below.refl _ _).alloc (Nat.le_refl _) _).alloc (by simp) _).alloc (by simp; omega) _).alloc (by simp; omega) _)⟩ <;> (try unfold Blk) <;> simp only [World.alloc, World.drew, Array.getElem?_push, Array.size_push] <;> (repeat (first | rw [if_pos rfl] | rw [if_neg (by omega)])) <;> rfl)
        | (refine ⟨W.heap.size + 1 + 1 + 1, W.heap.size + 1, rfl, new_tr (V := W.heap.size) (S := W.heap.size + 1 + 1) hn ?_ ?_ ?_ ?_ (by omega) (by omega) (by omega) (by omega), below_drew12 (((((Below.refl _ _).alloc (Nat.le_refl _) _).alloc (by simp) _).alloc (by simp; omega) _).alloc (by simp; omega) _)⟩ <;> (try unfold Blk) <;> simp only [World.alloc, World.drew, Array.getElem?_push, Array.size_push] <;> (repeat (first | rw [if_pos rfl] | rw [if_neg (by omega)])) <;> rfl)
        | (refine ⟨W.heap.size + 1 + 1 + 1, W.heap.size + 1 + 1, rfl, new_tr (V := W.heap.size + 1) (S := W.heap.size) hn ?_ ?_ ?_ ?_ (by omega) (by omega) (by omega) (by omega), below_drew12 (((((Below.refl _ _).alloc (Nat.le_refl _) _).alloc (by simp) _).alloc (by simp; omega) _).alloc (by simp; omega) _)⟩ <;> (try unfold Blk) <;> simp only [World.alloc, World.drew, Array.getElem?_push, Array.size_push] <;> (repeat (first | rw [if_pos rfl] | rw [if_neg (by omega)])) <;> rfl)
        | (refine ⟨W.heap.size + 1 + 1 + 1, W.heap.size, rfl, new_tr (V := W.heap.size + 1) (S := W.heap.size + 1 + 1) hn ?_ ?_ ?_ ?_ (by omega) (by omega) (by omega) (by omega), below_drew12 (((((Below.refl _ _).alloc (Nat.le_refl _) _).alloc (by simp) _).alloc (by simp; omega) _).alloc (by simp; omega) _)⟩ <;> (try unfold Blk) <;> simp only [World.alloc, World.drew, Array.getElem?_push, Array.size_push] <;> (repeat (first | rw [if_pos rfl] | rw [if_neg (by omega)])) <;> rfl)
        | (refine ⟨W.heap.size + 1 + 1 + 1, W.heap.size + 1, rfl, new_tr (V := W.heap.size + 1 + 1) (S := W.heap.size) hn ?_ ?_ ?_ ?_ (by omega) (by omega) (by omega) (by omega), below_drew12 (((((Below.refl _ _).alloc (Nat.le_refl _) _).alloc (by simp) _).alloc (by simp; omega) _).alloc (by simp; omega) _)⟩ <;> (try unfold Blk) <;> simp only [World.alloc, World.drew, Array.getElem?_push, Array.size_push] <;> (repeat (first | rw [if_pos rfl] | rw [if_neg (by omega)])) <;> rfl)
        | (refine ⟨W.heap.size + 1 + 1 + 1, W.heap.size, rfl, new_tr (V := W.heap.size + 1 + 1) (S := W.heap.size + 1) hn ?_ ?_ ?_ ?_ (by omega) (by omega) (by omega) (by omega), below_drew12 (((((Below.refl _ _).alloc (Nat.le_refl _) _).alloc (by simp) _).alloc (by simp; omega) _).alloc (by simp; omega) _)⟩ <;> (try unfold Blk) <;> simp only [World.alloc, World.drew, Array.getElem?_push, Array.size_push] <;> (repeat (first | rw [if_pos rfl] | rw [if_neg (by omega)])) <;> rfl)
end Go.Proofs.Ytihljekdipengaa
