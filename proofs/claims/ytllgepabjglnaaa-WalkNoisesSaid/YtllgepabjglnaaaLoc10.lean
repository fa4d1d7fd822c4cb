/- local's state: a clause is added: the walk. -/
import Derived.Test.YtllgepabjglnaaaLoc9
namespace Go.Proofs.Ytllgepabjglnaaa
open Go.RowKit
set_option linter.unusedVariables false
set_option linter.unusedSimpArgs false

theorem step_app14 {P : Program} {ops : Array Oper} {o : Oper} {a : Act} {w : World} {K : Act → World → Prop} {Q : Exit → Act → World → Prop} {E : Prop}
    (hg : o.guard = none) (s x : Operand) (t : TypeId) (hop : o.op = Op.call { callee := Callee.builtin Builtin.append, args := #[s, x], argTypes := #[t, t] })
    (base : Nat) (e : TypeId) (i : TypeInfo) (z : Value) (bytes : Nat) (ht : P.underlying t = some (.slice e)) (hi : P.info? e = some i) (hz : i.zero = some z)
    (hsize : i.size = 1) (hby : i.bytes = bytes) (hzs : z.cells.size = 1)
    (v : Value) (n : Nat) (xs : List Value) (hs : a.eval s = v) (hown : w.ownsRow base e 1 v n xs)
    (u0 : Value) (g : Nat) (hx : a.eval x = .slice (some ⟨g, 0, none⟩) 1 1) (hc0 : w.cell? ⟨g, 0, none⟩ = some u0) (h1 : u0.oneCell' = true)
    (h63 : n + 1 ≤ maxLen) (hbytes : (n + 1) * bytes ≤ 140737488355328) (hbase : base ≤ w.heap.size)
    (hK : ∀ v' w', w'.ownsRow base e 1 v' (n + 1) (xs ++ [u0]) → w.grownBy w' v.ownBlock → (v'.ownBlock = v.ownBlock ∨ v'.ownBlock = some w.heap.size) → K (a.put o.dst v') w') :
    if Region.wanted o (yielded ops a.tmps) = true then Oper.wp P o a w K Q else E := by
  have hw : Region.wanted o (yielded ops a.tmps) = true := by simp [Region.wanted, hg]
  rw [if_pos hw]
  obtain ⟨v', w', hrun, h2, h3, _, hat⟩ := run_append_own_at (P := P) w base t o.type e i z 1 bytes ht hi hz hsize hby hzs (by decide) v n xs hown ⟨g, 0, none⟩ 1 1 [u0] rfl
    (by intro j u' hu; match j, hu with | 0, hu => simp at hu; subst hu; simpa [Addr.add] using hc0) (by intro u' hu; simp at hu; subst hu; exact h1) h63 hbytes hbase
  unfold Oper.wp
  simp [execOp, hop, resolve, invoke, builtin, hs, hx, hrun, Result.andThen]
  exact hK v' w' h2 h3 hat
theorem wpList_append4 {P : Program} {w : World} {ops : Array Oper} {rest : List Oper} {o : Oper} {a : Act} {Q : Exit → Act → World → Prop} (hgd : o.guard = none) (s x : Operand) (t : TypeId)
    (ho : o.op = .call { callee := .builtin .append, args := #[s, x], argTypes := #[t, t] })
    (base : Nat) (e : TypeId) (i : TypeInfo) (z : Value) (bytes : Nat) (ht : P.underlying t = some (.slice e)) (hi : P.info? e = some i) (hz : i.zero = some z)
    (hsize : i.size = 4) (hby : i.bytes = bytes) (hzs : z.cells.size = 4)
    (v : Value) (n : Nat) (xs : List Value) (hs : a.eval s = v) (hown : w.ownsRow base e 4 v n xs)
    (u0 u1 u2 u3 : Value) (g : Nat) (hx : a.eval x = .slice (some ⟨g, 0, none⟩) 1 1) (hc0 : w.cell? ⟨g, 0, none⟩ = some u0) (hc1 : w.cell? ⟨g, 1, none⟩ = some u1) (hc2 : w.cell? ⟨g, 2, none⟩ = some u2) (hc3 : w.cell? ⟨g, 3, none⟩ = some u3)
    (h1 : u0.oneCell' = true ∧ u1.oneCell' = true ∧ u2.oneCell' = true ∧ u3.oneCell' = true)
    (h63 : n + 1 ≤ maxLen) (hbytes : (n + 1) * bytes ≤ 140737488355328) (hbase : base ≤ w.heap.size)
    (h : ∀ v' w', w'.ownsRow base e 4 v' (n + 1) (xs ++ [u0, u1, u2, u3]) → w.grownBy w' v.ownBlock → (v'.ownBlock = v.ownBlock ∨ v'.ownBlock = some w.heap.size) → wpList P ops Q rest (a.put o.dst v') w') : wpList P ops Q (o :: rest) a w := by
  obtain ⟨v', w', hrun, h2, h3, _, h4⟩ := run_append_own_at (P := P) w base t o.type e i z 4 bytes ht hi hz hsize hby hzs (by decide) v n xs hown ⟨g, 0, none⟩ 1 1 [u0, u1, u2, u3] rfl
    (by intro j u' hu; match j, hu with | 0, hu => simp at hu; subst hu; simpa [Addr.add] using hc0 | 1, hu => simp at hu; subst hu; simpa [Addr.add] using hc1 | 2, hu => simp at hu; subst hu; simpa [Addr.add] using hc2 | 3, hu => simp at hu; subst hu; simpa [Addr.add] using hc3)
    (by intro u' hu; simp at hu; rcases hu with rfl | rfl | rfl | rfl <;> first | exact h1.1 | exact h1.2.1 | exact h1.2.2.1 | exact h1.2.2.2) h63 hbytes hbase
  refine wpList_plain hgd fun _ hK => ?_
  unfold Oper.wp execOp
  simp only [ho, resolve, invoke, builtin, Sem.run_bind, Sem.run_pure, Result.andThen_ok, List.map_toArray, List.map_cons, List.map_nil, hs, hx, hrun]
  exact hK _ _ (h v' w' h2 h3 h4)
theorem infoC14 : (Try.prog.info? 85).map (fun i => (i.zero, i.size, i.bytes)) = some (some (.agg #[.slice none 0 0, .int .i64 0, .int .i64 0, .int .i64 0]), 4, 48) := by kernel_rfl
theorem info_parts4 {P : Program} {e : TypeId} {z : Value} {n b : Nat} (h : (P.info? e).map (fun i => (i.zero, i.size, i.bytes)) = some (some z, n, b)) : ∃ i, P.info? e = some i ∧ i.zero = some z ∧ i.size = n ∧ i.bytes = b := by
  obtain ⟨i, hi, hzz⟩ := Option.map_eq_some_iff.1 h
  simp only [Prod.mk.injEq] at hzz
  exact ⟨i, hi, hzz.1, hzz.2.1, hzz.2.2⟩
theorem own_slice4 {w : World} {base e n s : Nat} {v : Value} {xs : List Value} (h : w.ownsRow base e s v n xs) : ∃ A c, v = .slice A n c := by
  rcases h.2 with ⟨rfl, rfl⟩ | ⟨g, cap, cur, rfl, _⟩
  · exact ⟨none, 0, rfl⟩
  · exact ⟨some ⟨g, 0, none⟩, cap, rfl⟩
theorem LM.litAt_ {w : World} {ρ : Nat → Nat} {p : Lx} {m : MS} (h : LM w ρ p m) {N : Nat} {c : List Int} (hN : N < p.lss.length) (hc : p.lss.getD N [] = c) {Ac : Option Addr} {cc : Nat} (hh : p.lsV.getD N undef = .slice Ac c.length cc) {j : Nat} (hj : j < c.length) : ∃ b, Ac = some ⟨b, 0, none⟩ ∧ w.cell? ⟨b, j, none⟩ = some (.int .i64 (c.getD j 0)) := by
  obtain ⟨A, c', k1, k2⟩ := h.ls.at_ hN
  rw [List.getD, k1, Option.getD_some, hc] at hh
  injection hh with hA _ hC
  subst hA hC
  rw [hc] at k2
  obtain ⟨b, e1, _, _, _, e4, _⟩ := k2.at_ (by omega)
  refine ⟨b, e1, ?_⟩
  rw [e4 j (by omega)]
  simp [List.getD, hj]
/-- with a clause more -/
def LS.addC (s : LS) (c : List Int) : LS := ⟨s.cls ++ [c], s.hss ++ [[]], s.row ++ [s.cls.length]⟩
theorem getD_snoc {α : Type} (d : α) (l : List α) (a : α) (i : Nat) : (l ++ [a]).getD i d = if i = l.length then a else l.getD i d := by
  simp only [List.getD]
  rcases Nat.lt_trichotomy i l.length with h | h | h
  · rw [List.getElem?_append_left h, if_neg (by omega)]
  · subst h; simp
  · rw [List.getElem?_eq_none (by simp; omega), List.getElem?_eq_none (by omega), if_neg (by omega)]
theorem brk_snoc (hss : List (List Int)) (v : Nat) : brk (hss ++ [[]]) v = brk hss v := by
  unfold brk
  rw [List.countP_append]
  have : soleOf v [] = false := sole_ne (by simp) v
  simp [this]
theorem LS.Good.addC {s : LS} {n : Nat} (h : s.Good n) {c : List Int} (h1 : c.Nodup) (h2 : ∀ x ∈ c, x ≠ 0 ∧ x.natAbs ≤ n) (h3 : c.length ≤ 100) (h4 : s.cls.length < 100) : (s.addC c).Good n := by
  have hss : ∀ i, (s.addC c).hss.getD i [] = s.hss.getD i [] := fun i => by
    show (s.hss ++ [[]]).getD i [] = _
    rw [getD_snoc]
    split
    · rw [List.getD, List.getElem?_eq_none (by omega)]; rfl
    · rfl
  have hcl : ∀ i, (s.addC c).cls.getD i [] = if i = s.cls.length then c else s.cls.getD i [] := fun i => getD_snoc _ _ _ _
  have hN : (s.addC c).cls.length = s.cls.length + 1 := by simp [LS.addC]
  refine ⟨by simp [LS.addC, h.len], fun i => by rw [hss]; exact h.nd i, fun i x hx => ?_, fun i => ?_, fun i x hx => ?_, fun i => ?_, by omega, h.vars, ?_, fun i => ?_⟩
  · rw [hss] at hx
    have := h.sub i x hx
    have hlt := h.lt this
    rw [hcl, if_neg (by omega)]
    exact this
  · rw [hcl]; split
    · exact h1
    · exact h.cnd i
  · rw [hcl] at hx
    split at hx
    · exact h2 x hx
    · exact h.lits i x hx
  · rw [hcl]; split
    · exact h3
    · exact h.short i
  · exact inj_snoc h.rinj fun hm => by have := ((h.rmem _).1 hm).1; omega
  · rw [hss, hN]
    show i ∈ s.row ++ [s.cls.length] ↔ _
    rw [List.mem_append, h.rmem]
    constructor
    · rintro (⟨a, b⟩ | hi)
      · exact ⟨by omega, b⟩
      · obtain rfl : i = s.cls.length := by simpa using hi
        exact ⟨by omega, by rw [List.getD, List.getElem?_eq_none (by rw [h.len]; omega)]; rfl⟩
    · rintro ⟨a, b⟩
      rcases Nat.lt_or_ge i s.cls.length with hlt | hge
      · exact .inl ⟨hlt, b⟩
      · exact .inr (by simp; omega)
/-- which clauses have which literal, when j literals of the new one were told -/
def havMid (n : Nat) (cls : List (List Int)) (c : List Int) (j : Nat) : List (List Nat) := (List.range (2 * n)).map fun x => hav cls (litAt (x : Nat)) ++ if (c.take j).contains (litAt (x : Nat)) then [cls.length] else []
theorem havMid_zero (n : Nat) (cls : List (List Int)) (c : List Int) : havMid n cls c 0 = havs n cls := by
  unfold havMid havs
  refine List.map_congr_left fun x hx => ?_
  simp
theorem havMid_full (n : Nat) (cls : List (List Int)) (c : List Int) : havMid n cls c c.length = havs n (cls ++ [c]) := by
  unfold havMid havs
  refine List.map_congr_left fun x hx => ?_
  rw [hav_snoc, List.take_length]
theorem havMid_next {n : Nat} {cls : List (List Int)} {c : List Int} {j x : Nat} (hnd : c.Nodup) (hj : j < c.length) (hx : x < 2 * n) (hl : litIndex (c.getD j 0) = (x : Nat)) : havMid n cls c (j + 1) = (havMid n cls c j).set x ((havMid n cls c j).getD x [] ++ [cls.length]) := by
  have eg : c.getD j 0 = c[j] := by simp [List.getD, hj]
  have hat : litAt (x : Nat) = c[j] := by rw [← hl, litAt_index, eg]
  have hnot : c[j] ∉ c.take j := by
    intro hm
    obtain ⟨k, hk⟩ := List.getElem?_of_mem hm
    rw [List.getElem?_take] at hk
    split at hk
    · rename_i hkj
      have hkl : k < c.length := by omega
      rw [List.getElem?_eq_getElem hkl] at hk
      injection hk with hk
      exact List.pairwise_iff_getElem.1 hnd k j hkl hj hkj hk
    · cases hk
  have hget : ∀ k y, y < 2 * n → (havMid n cls c k)[y]? = some (hav cls (litAt (y : Nat)) ++ if (c.take k).contains (litAt (y : Nat)) then [cls.length] else []) := fun k y hy => by
    unfold havMid
    rw [List.getElem?_map, List.getElem?_range hy]
    rfl
  have hlen : ∀ k, (havMid n cls c k).length = 2 * n := fun k => by simp [havMid]
  apply List.ext_getElem?
  intro y
  rcases Nat.lt_or_ge y (2 * n) with hy | hy
  · rw [hget _ _ hy]
    by_cases e : x = y
    · subst e
      rw [List.getElem?_set_self (by rw [hlen]; exact hx)]
      have e2 : (havMid n cls c j).getD x [] = hav cls c[j] := by
        rw [List.getD, hget _ _ hx, hat]
        simp [hnot]
      rw [e2, hat, if_pos (by rw [List.contains_iff_mem, List.take_succ_eq_append_getElem hj]; exact List.mem_append_right _ (List.mem_singleton.2 rfl))]
    · rw [List.getElem?_set_ne e, hget _ _ hy]
      have hne : litAt (y : Nat) ≠ c[j] := fun h => by
        rw [← hat] at h
        have h2 := congrArg litIndex h
        rw [litIndex_at (by omega), litIndex_at (by omega)] at h2
        omega
      congr 2
      have : (c.take (j + 1)).contains (litAt (y : Nat)) = (c.take j).contains (litAt (y : Nat)) := by
        rw [Bool.eq_iff_iff, List.contains_iff_mem, List.contains_iff_mem, List.take_succ_eq_append_getElem hj, List.mem_append]
        exact ⟨fun h => h.elim id (fun h => absurd (List.mem_singleton.1 h) hne), .inl⟩
      rw [this]
  · rw [List.getElem?_eq_none (by rw [hlen]; exact hy), List.getElem?_eq_none (by rw [List.length_set, hlen]; exact hy)]
section
variable {w : World} {ρ : Nat → Nat} {p : Lx} {z : List Bool} {s : LS} {b : BS}
set_option maxRecDepth 100000 in
set_option maxHeartbeats 4000000 in
theorem add_any14 (h : LM w ρ p (MS.of z s b)) (hg : s.Good z.length) {c : List Int} (hN : s.cls.length < p.lss.length) (hc : p.lss.getD s.cls.length [] = c) (h1 : c.Nodup) (h2 : ∀ x ∈ c, x ≠ 0 ∧ x.natAbs ≤ z.length) (h3 : c.length ≤ 100) (h4 : s.cls.length < 100) {Ac : Option Addr} {cc : Nat} (hh : p.lsV.getD s.cls.length undef = .slice Ac c.length cc) :
    Calls Try.prog 32 #[.pointer (some ⟨p.g, 0, none⟩), .slice Ac c.length cc] w fun e w' => e = .returned (.tuple #[]) ∧ ∃ ρ' p', p'.g = p.g ∧ p'.lsV = p.lsV ∧ p'.lss = p.lss ∧ LM w' ρ' p' (MS.of z (s.addC c) b) ∧ LStep w ρ w' ρ' := by
  have hzn := hg.vars
  obtain ⟨i0, hi0, hz0, hz1, hz2⟩ := info_parts4 infoC14
  obtain ⟨xs, x1, x2⟩ := h.cs
  change Oz w ρ 8 85 4 (.slice p.cA s.cls.length p.cc) s.cls.length xs at x1
  change CV xs p.lsV (MS.of z s b) at x2
  have c1 := h.cells.2.1
  change w.cell? ⟨p.g, 1, none⟩ = some (.slice p.cA s.cls.length p.cc) at c1
  -- behind the box
  obtain ⟨wa, hwa⟩ : ∃ wa, wa = w.alloc (.cells #[.slice Ac c.length cc, .int .i64 0, .int .i64 0, .int .i64 0] 85) := ⟨_, rfl⟩
  have hba : Below w.heap.size w wa := by rw [hwa]; exact (Below.refl _ _).alloc (Nat.le_refl _) _
  have ra := Stay.oz (Stay.refl.below hba) x1 (rs := []) (w' := wa) (by decide)
  have bx : Blk wa w.heap.size 85 #[.slice Ac c.length cc, .int .i64 0, .int .i64 0, .int .i64 0] := by rw [hwa]; exact Blk.new w _ _
  have b0 := bx.cell 0
  have b1 := bx.cell 1
  have b2 := bx.cell 2
  have b3 := bx.cell 3
  simp at b0 b1 b2 b3
  have FIN := Lib.hid (fun (w9 : World) (A' : Option Addr) (c' : Nat) ho hg' hv => h.clauseOn (xs := xs) (wa := wa) (w9 := w9) (A' := A') (c' := c') (c := c) x1 x2 hg.len hN hc hba (by change w9.ownsRow 0 _ 4 (.slice A' (s.cls.length + 1) c') (s.cls.length + 1) (xs ++ [p.lsV.getD s.cls.length undef, .int .i64 0, .int .i64 0, .int .i64 0]); rw [hh]; exact ho) hg' hv)
  have HB9 := Lib.hid (fun (w9 : World) (hg : wa.grownBy w9 (Value.slice p.cA s.cls.length p.cc).ownBlock) => show w9.frozen? ⟨p.g, 1, none⟩ = false ∧ ∃ u, w9.cell? ⟨p.g, 1, none⟩ = some u from by
    have b2 : Blk w9 p.g 75 (stC p (MS.of z s b)) := (h.str.below hba h.lt).grown hg fun e => by
      have := x1.2 _ e.symm
      rw [h.sr] at this
      cases this
    exact ⟨b2.frozen 1, by rw [b2.cell]; exact ⟨_, rfl⟩⟩)
  have HC := Lib.hid (And.intro hN (And.intro hc (And.intro h1 (And.intro h2 hh))))
  have hgl := h.lt
  have hrn := hg.rlen
  have HG := Lib.hid hg
  obtain ⟨N, hNN⟩ : ∃ N, s.cls.length = N := ⟨_, rfl⟩
  have HNN := Lib.hid hNN
  rw [hNN] at c1 ra h4 HB9 hrn
  simp only [hNN, show (MS.of z s b).cls.length = N from hNN] at FIN
  have HRA := Lib.hid ra.1
  have HBX := Lib.hid (And.intro b0 (And.intro b1 (And.intro b2 b3)))
  have HWA := Lib.hid hwa
  obtain ⟨L, hL⟩ : ∃ L, c.length = L := ⟨_, rfl⟩
  have HLL := Lib.hid hL
  rw [hL] at HBX HWA h3 ⊢
  clear h hg x1 x2 hba ra bx b0 b1 b2 b3 hwa hNN hL hN hc h1 h2 hh
  go_enter Try.func32, Try.ntmps32
  go_wp2_with (at_builtin; rw [← HWA.out]; refine wpList_append4 rfl _ _ 73 rfl 0 85 i0 (.agg #[.slice none 0 0, .int .i64 0, .int .i64 0, .int .i64 0]) 48 Try.underlying73 hi0 hz0 hz1 hz2 rfl _ N xs rfl HRA.out (.slice Ac L cc) (.int .i64 0) (.int .i64 0) (.int .i64 0) w.heap.size rfl HBX.out.1 HBX.out.2.1 HBX.out.2.2.1 HBX.out.2.2.2 ⟨rfl, rfl, rfl, rfl⟩ (by unfold maxLen; omega) (by omega) (Nat.zero_le _) ?_)
  intro v' w9 ho hg hv
  obtain ⟨A', c', rfl⟩ := own_slice4 ho
  obtain ⟨ρ1, hm1, hs1⟩ := FIN.out w9 A' c' (by rw [HLL.out]; exact ho) hg hv
  obtain ⟨f9, u9, k9⟩ := HB9.out w9 hg
  have HM1 := Lib.hid hm1
  have HS1 := Lib.hid hs1
  clear hm1 hs1 ho hg hv c1 HRA HBX HWA FIN HB9
  go_wp2_with fail
  obtain ⟨w1, hw1⟩ : ∃ w1, w1 = w9.setCell ⟨p.g, 1, none⟩ (.slice A' (N + 1) c') := ⟨_, rfl⟩
  rw [← hw1] at HM1 HS1 ⊢
  clear hw1 f9 k9
  have hNm : N ∉ s.row := fun hm => by have := ((HG.out.rmem _).1 hm).1; rw [HNN.out] at this; omega
  have hN1 : (s.cls ++ [c]).length = N + 1 := by simp [HNN.out]
  have hen := enter_any HM1.out (i := N) (show N < (s.cls ++ [c]).length by omega) hNm (show (s.cls ++ [c]).length ≤ 1000 by omega) (show s.row.length ≤ 1000 by omega)
  refine hen.mono ?_
  rintro e w2 ⟨rfl, ρ2, A2, c2, hm2, hs2⟩
  have HS2 := Lib.hid (HS1.out.trans hs2)
  have HM2 : Hid (LM w2 ρ2 { p with cA := A', cc := c', rA := A2, rc := c2 } ⟨z, s.cls ++ [c], s.hss ++ [[]], s.row ++ [N], havMid z.length s.cls c 0, brk s.hss, b⟩) := Lib.hid (by rw [havMid_zero]; exact hm2)
  clear hm2 hs2 hen hNm HM1 HS1
  go_wp2
  go_loopg [29] (L + 1) (fun gk ti wr => ∃ (j : Nat) (ρ' : Nat → Nat) (hV' : List Value), j ≤ L ∧ gk = L - j + 1 ∧ ti = .int .i64 (j : Nat) ∧ Hid (LM wr ρ' { p with cA := A', cc := c', rA := A2, rc := c2, hvV := hV' } ⟨z, s.cls ++ [c], s.hss ++ [[]], s.row ++ [N], havMid z.length s.cls c j, brk s.hss, b⟩) ∧ Hid (LStep w ρ wr ρ'))
  case atStart => exact ⟨0, ρ2, p.hvV, by omega, by omega, rfl, HM2, HS2⟩
  case round =>
    obtain ⟨j, ρ', hV', hj, rfl, rfl, HLM, HST⟩ := hrel
    clear HM2 HS2
    by_cases hlt : j < L
    · have hjc : j < c.length := by rw [HLL.out]; exact hlt
      obtain ⟨q, eq, cq⟩ := HLM.out.litAt_ (N := N) (c := c) (Ac := Ac) (cc := cc) (show N < p.lss.length by rw [← HNN.out]; exact HC.out.1) (show p.lss.getD N [] = c by rw [← HNN.out]; exact HC.out.2.1) (show p.lsV.getD N undef = _ by rw [← HNN.out]; exact HC.out.2.2.2.2) hjc
      have hxl := HC.out.2.2.2.1 (c.getD j 0) (by simp only [List.getD, List.getElem?_eq_getElem hjc, Option.getD_some]; exact List.getElem_mem hjc)
      obtain ⟨l, hl⟩ : ∃ l, c.getD j 0 = l := ⟨_, rfl⟩
      have HLJ := Lib.hid hl
      rw [hl] at cq hxl
      have hib := litIndex_bd (l := l) (b := z.length) (by omega) (by omega) hxl.1
      obtain ⟨x, hx⟩ : ∃ x : Nat, litIndex l = (x : Int) := ⟨(litIndex l).toNat, by omega⟩
      have hx2 : x < 2 * z.length := by omega
      have hr : litRight l (z.length : Int) = true := litRight_iff.2 (by omega)
      have HR := Lib.hid (fun w => hr ▸ right_any l z.length w (by omega) (by omega) (by omega) (by omega))
      have HI := Lib.hid (fun w => hx ▸ index_any l w (by omega) (by omega))
      have HNX := Lib.hid (havMid_next (n := z.length) (cls := s.cls) HC.out.2.2.1 hjc hx2 (by rw [hl]; exact hx))
      obtain ⟨H, Ax, cx, eH, cH, hvx⟩ := HLM.out.havHd (x := x) hx2
      change p.hA = some ⟨H, 0, none⟩ at eH
      change wr.cell? ⟨H, x, none⟩ = some (.slice Ax ((havMid z.length s.cls c j).getD x []).length cx) at cH
      change hV'[x]? = some (.slice Ax ((havMid z.length s.cls c j).getD x []).length cx) at hvx
      have d0 := HLM.out.cells.1
      change wr.cell? ⟨p.g, 0, none⟩ = some (.slice p.vA z.length p.vc) at d0
      have d2 := HLM.out.cells.2.2.1
      change wr.cell? ⟨p.g, 2, none⟩ = some (.slice p.hA (2 * z.length) p.hc) at d2
      rw [eH] at d2
      have hx3 : x < ((havMid z.length s.cls c j).map intsOf).length := by simp [havMid, hx2]
      obtain ⟨A0, c0, k1, k2⟩ := HLM.out.hl.at_ hx3
      change hV'[x]? = _ at k1
      have emap : ((havMid z.length s.cls c j).map intsOf).getD x [] = intsOf ((havMid z.length s.cls c j).getD x []) := by
        have hx4 : x < (havMid z.length s.cls c j).length := by simp [havMid, hx2]
        simp [List.getD, hx4]
      have elen : (intsOf ((havMid z.length s.cls c j).getD x [])).length = ((havMid z.length s.cls c j).getD x []).length := by simp [intsOf]
      change Oz wr ρ' 4 3 1 (.slice A0 (((havMid z.length s.cls c j).map intsOf).getD x []).length c0) (((havMid z.length s.cls c j).map intsOf).getD x []).length ((((havMid z.length s.cls c j).map intsOf).getD x []).map (Value.int .i64)) at k2
      change hV'[x]? = some (.slice A0 (((havMid z.length s.cls c j).map intsOf).getD x []).length c0) at k1
      rw [emap, elen] at k1 k2
      rw [hvx] at k1
      injection k1 with k1
      injection k1 with k1 _ k3
      subst k1 k3
      have hhlen : ((havMid z.length s.cls c j).getD x []).length ≤ 1000 := by
        have hx4 : x < (havMid z.length s.cls c j).length := by simp [havMid, hx2]
        have : (havMid z.length s.cls c j).getD x [] = hav s.cls (litAt (x : Nat)) ++ if (c.take j).contains (litAt (x : Nat)) then [s.cls.length] else [] := by
          rw [List.getD, List.getElem?_eq_getElem hx4]
          simp [havMid]
        rw [this, List.length_append]
        have := hav_len s.cls (litAt (x : Nat))
        have hcl : s.cls.length < 100 := by rw [HNN.out]; exact h4
        split <;> simp only [List.length_cons, List.length_nil] <;> omega
      obtain ⟨n, hn⟩ : ∃ n, ((havMid z.length s.cls c j).getD x []).length = n := ⟨_, rfl⟩
      -- behind the row of one
      obtain ⟨wb, hwb⟩ : ∃ wb, wb = (wr.alloc (.cells #[.int .i64 (N : Nat)] 3)).drew := ⟨_, rfl⟩
      have hbb : Below wr.heap.size wr wb := by rw [hwb]; exact ((Below.refl _ _).alloc (Nat.le_refl _) _).drew
      have hbox : wb.cell? ⟨wr.heap.size, 0, none⟩ = some (.int .i64 (N : Nat)) := by rw [hwb]; exact (Blk.new wr 3 #[.int .i64 (N : Nat)]).cell 0
      have oa := Stay.oz (Stay.refl.below hbb) k2 (rs := []) (w' := wb) (by decide)
      have HFN := Lib.hid (fun (w9 : World) (A3 : Option Addr) (c3 : Nat) ho hg hv => HLM.out.havOn (i := N) (wa := wb) (w9 := w9) (A' := A3) (c' := c3) hx2 eH hvx rfl hbb ho hg hv)
      have HCW := Lib.hid (fun (w9 : World) (hg : wb.grownBy w9 (Value.slice Ax ((havMid z.length s.cls c j).getD x []).length cx).ownBlock) => show w9.cell? ⟨p.g, 2, none⟩ = some (.slice (some ⟨H, 0, none⟩) (2 * z.length) p.hc) ∧ w9.cell? ⟨H, x, none⟩ = some (.slice Ax ((havMid z.length s.cls c j).getD x []).length cx) ∧ w9.frozen? ⟨H, x, none⟩ = false from by
        have S9 : Stay wr w9 ρ' [4] := (Stay.refl.below hbb).grown hg fun q hq => by rw [k2.2 q hq]; decide
        have y1 := S9.oz HLM.out.hs (by decide)
        have y2 : Blk w9 p.g 75 (stC { p with cA := A', cc := c', rA := A2, rc := c2, hvV := hV' } ⟨z, s.cls ++ [c], s.hss ++ [[]], s.row ++ [N], havMid z.length s.cls c j, brk s.hss, b⟩) := (S9.2 _ HLM.out.lt (by rw [show ρ' p.g = 6 from HLM.out.sr]; decide)).trans HLM.out.str
        obtain ⟨H', e1, _, _, _, e4, e5⟩ := y1.at_ (show 0 < 2 * z.length by omega)
        change p.hA = some ⟨H', 0, none⟩ at e1
        rw [eH] at e1
        injection e1 with e1
        injection e1 with e1
        subst e1
        refine ⟨by rw [y2.cell, ← eH]; rfl, ?_, e5 x⟩
        rw [e4 x (by show x < 2 * z.length * 1; omega)]
        exact hvx)
      rw [hn] at cH oa HFN HCW hhlen
      obtain ⟨M, hM⟩ : ∃ M, 2 * z.length = M := ⟨_, rfl⟩
      obtain ⟨nz, hnz⟩ : ∃ nz, z.length = nz := ⟨_, rfl⟩
      have hxM : (x : Int) < (M : Int) := by omega
      simp only [hM] at HCW
      rw [hM] at d2
      rw [hnz] at d0 HR
      have HOA := Lib.hid oa.1
      have HBX := Lib.hid hbox
      have HWB := Lib.hid hwb
      obtain ⟨j0, hj0, hy0, hy1, hy2⟩ := info_parts infoCI
      have HII := Lib.hid (And.intro hj0 (And.intro hy0 (And.intro hy1 hy2)))
      have hjL : (j : Int) < (L : Int) := by omega
      have hrl : p.g < wr.heap.size := HLM.out.lt
      have hHl : H < wr.heap.size := by
        have := HLM.out.hs.2 H (by show (Value.slice p.hA _ _).ownBlock = _; rw [eH]; rfl)
        exact HLM.out.fresh H (by rw [this]; decide)
      subst eq
      clear hl hib hx hx2 hr eH hvx hx3 k2 emap elen hn hwb hbb hbox oa hM hnz hj0 hy0 hy1 hy2 hjc hxl
      go_wp2_with fail
      refine (HR.out _).mono ?_
      rintro e w1 ⟨rfl, rfl⟩
      go_wp2_with fail
      refine (HI.out _).mono ?_
      rintro e w1 ⟨rfl, rfl⟩
      go_wp2_with fail
      go_region_law (first | (rw [← HWB.out]; refine step_app14 rfl (.tmp 53) (.tmp 55) 48 rfl 0 3 j0 (.int .i64 0) 8 Try.underlying48 HII.out.1 HII.out.2.1 HII.out.2.2.1 HII.out.2.2.2 rfl (.slice Ax n cx) n _ rfl HOA.out (.int .i64 (N : Nat)) wr.heap.size rfl HBX.out rfl (by unfold maxLen; omega) (by omega) (Nat.zero_le _) ?_; intro v' w9 hown3 hg3 hat3; obtain ⟨A3, c3, rfl, -⟩ := own_slice hown3; obtain ⟨dW, dC, dF⟩ := HCW.out _ hg3; have HO3 := Lib.hid hown3; have HG3 := Lib.hid hg3; have HAT3 := Lib.hid hat3; clear hown3 hg3 hat3))
      all_goals
        go_wp2
        go_roundg (L - j)
        case measure => omega
        case rel =>
          obtain ⟨ρ9, hm9, hs9⟩ := HFN.out _ _ _ HO3.out HG3.out HAT3.out
          exact ⟨j + 1, ρ9, _, by omega, by omega, by go_num, Lib.hid (by rw [HNX.out, HNN.out]; exact hm9), Lib.hid (HST.out.trans hs9)⟩
    · have hjl : L = j := by omega
      subst hjl
      clear hlt hj
      go_wp2
      go_end0
      refine ⟨rfl, ρ', { p with cA := A', cc := c', rA := A2, rc := c2, hvV := hV' }, rfl, rfl, rfl, ?_, HST.out⟩
      have := HLM.out
      rw [← HLL.out, havMid_full] at this
      have e : MS.of z (s.addC c) b = ⟨z, s.cls ++ [c], s.hss ++ [[]], s.row ++ [N], havs z.length (s.cls ++ [c]), brk (s.hss ++ [[]]), b⟩ := by
        unfold MS.of LS.addC
        rw [HNN.out]
      rw [e, show brk (s.hss ++ [[]]) = brk s.hss from funext (brk_snoc s.hss)]
      exact this
end
end Go.Proofs.Ytllgepabjglnaaa
