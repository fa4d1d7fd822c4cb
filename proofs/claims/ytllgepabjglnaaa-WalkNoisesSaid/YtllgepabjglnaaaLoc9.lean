/- local's state: a clause is added. -/
import Derived.Test.YtllgepabjglnaaaLoc8
namespace Go.Proofs.Ytllgepabjglnaaa
open Go.RowKit
set_option linter.unusedVariables false
set_option linter.unusedSimpArgs false

section
variable {w w' : World} {ρ ρ' : Nat → Nat} {p : Lx} {m : MS}
theorem Stay.roleOz {rs : List Nat} (S : Stay w w' ρ rs) (hp : ∀ q, q < w.heap.size → ρ' q = ρ q) {r t s n : Nat} {v : Value} {ys : List Value} (ho : Oz w ρ r t s v n ys) (hr : r ∉ rs) : Oz w' ρ' r t s v n ys := by
  have h1 := S.oz ho hr
  exact ⟨h1.1, fun q hq => (hp q (ho.1.lt q hq).2).trans (h1.2 q hq)⟩
theorem Stay.roleOlr {rs : List Nat} (S : Stay w w' ρ rs) (hp : ∀ q, q < w.heap.size → ρ' q = ρ q) {r : Nat} {vs : List Value} {xss : List (List Int)} (ho : OLr w ρ r vs xss) (hr : r ∉ rs) : OLr w' ρ' r vs xss := by
  have h1 := S.olr ho hr
  exact ⟨h1.own, h1.len, fun j q hj hq => (hp q (ho.own.lt hj hq).2).trans (h1.part j q hj hq)⟩
theorem own3_set14 {w : World} {base e n : Nat} {v : Value} {xs : List Value} {s : Nat} (h : w.ownsRow base e s v n xs) {p : Addr} (u : Value) (hp : some p.block ≠ v.ownBlock) : (w.setCell p u).ownsRow base e s v n xs :=
  h.kept (grown_setCell w p u) (.inr (Ne.symm hp))
/-- the part of a row that was appended to -/
def roleUp (ρ : Nat → Nat) (v : Value) (r : Nat) : Nat → Nat := fun q => if v.ownBlock = some q then r else ρ q
theorem roleUp_old {v v' : Value} {r n : Nat} (h : ∀ q, v.ownBlock = some q → ρ q = r) (hv : v'.ownBlock = v.ownBlock ∨ v'.ownBlock = some n) (hn : w.heap.size ≤ n) : ∀ q, q < w.heap.size → roleUp ρ v' r q = ρ q := fun q hq => by
  unfold roleUp
  split
  · rename_i e
    rcases hv with hv | hv
    · exact (h q (by rw [← hv]; exact e)).symm
    · rw [hv] at e
      injection e with e
      omega
  · rfl
theorem roleUp_new {v' : Value} {r q : Nat} (h : v'.ownBlock = some q) : roleUp ρ v' r q = r := by
  unfold roleUp
  rw [if_pos h]
theorem roleUp_fresh {v' : Value} {r : Nat} {w9 : World} {rs : List Nat} (S : Stay w w9 ρ rs) (h : ∀ q, ρ q ≠ 0 → q < w.heap.size) (hv : ∀ q, v'.ownBlock = some q → q < w9.heap.size) : ∀ q, roleUp ρ v' r q ≠ 0 → q < w9.heap.size := fun q hq => by
  unfold roleUp at hq
  split at hq
  · exact hv q (by assumption)
  · exact Nat.lt_of_lt_of_le (h q hq) S.1
/-- a clause more, of which nothing is known to hold -/
theorem LM.clauseOn (h : LM w ρ p m) {xs : List Value} (hx : Oz w ρ 8 85 4 (.slice p.cA m.cls.length p.cc) m.cls.length xs) (hcv : CV xs p.lsV m) (hlen : m.hss.length = m.cls.length) {c : List Int} (hN : m.cls.length < p.lss.length) (hc : p.lss.getD m.cls.length [] = c)
    {wa w9 : World} {A' : Option Addr} {c' : Nat} (hba : Below w.heap.size w wa) (ho : w9.ownsRow 0 85 4 (.slice A' (m.cls.length + 1) c') (m.cls.length + 1) (xs ++ [p.lsV.getD m.cls.length undef, .int .i64 0, .int .i64 0, .int .i64 0]))
    (hg : wa.grownBy w9 (Value.slice p.cA m.cls.length p.cc).ownBlock) (hv : (Value.slice A' (m.cls.length + 1) c').ownBlock = (Value.slice p.cA m.cls.length p.cc).ownBlock ∨ (Value.slice A' (m.cls.length + 1) c').ownBlock = some wa.heap.size) :
    ∃ ρ', LM (w9.setCell ⟨p.g, 1, none⟩ (.slice A' (m.cls.length + 1) c')) ρ' { p with cA := A', cc := c' } { m with cls := m.cls ++ [c], hss := m.hss ++ [[]] } ∧ LStep w ρ (w9.setCell ⟨p.g, 1, none⟩ (.slice A' (m.cls.length + 1) c')) ρ' := by
  have hrow := hx.2
  have S : Stay w (w9.setCell ⟨p.g, 1, none⟩ (.slice A' (m.cls.length + 1) c')) ρ [8, 6] := ((Stay.refl.below hba).grown hg fun q hq => by rw [hrow q hq]; decide).set (by rw [h.sr]; decide) _ _
  have hp := roleUp_old (w := w) (ρ := ρ) hrow hv hba.size
  have hgn : some p.g ≠ (Value.slice A' (m.cls.length + 1) c').ownBlock := fun e => by
    rcases hv with hv | hv
    · have := hrow p.g (by rw [← hv]; exact e.symm)
      rw [h.sr] at this
      cases this
    · rw [hv] at e
      injection e with e
      have := h.lt
      have := hba.size
      omega
  have hl : xs.length = m.cls.length * 4 := hx.1.1
  have hgd : ∀ i, (m.hss ++ [([] : List Int)]).getD i [] = m.hss.getD i [] := fun i => by
    simp only [List.getD]
    rcases Nat.lt_or_ge i m.hss.length with hi | hi
    · rw [List.getElem?_append_left hi]
    · rw [List.getElem?_append_right hi, List.getElem?_eq_none hi]
      rcases e : i - m.hss.length with _ | k <;> simp
  have hout : m.hss.getD m.cls.length [] = [] := by rw [List.getD, List.getElem?_eq_none (by omega)]; rfl
  refine ⟨roleUp ρ (.slice A' (m.cls.length + 1) c') 8, ⟨roleUp_fresh S h.fresh fun q hq => by simpa [World.setCell] using (ho.lt q hq).2, ?_, (hp _ h.lt).trans h.sr, S.roleOz hp h.vs (by decide), ?_, fun x hx => ?_, S.roleOlr hp h.ls (by decide), fun i hi => ?_, S.roleOz hp h.hs (by decide), S.roleOlr hp h.hl (by decide), h.hn, S.roleOz hp h.rw_ (by decide), S.roleOz hp h.kw (by decide), S.roleOz hp h.sw (by decide), h.e0, fun a ha => ⟨(h.ew a ha).1, S.roleOz hp (h.ew a ha).2 (by decide)⟩⟩, ⟨((((Ft.refl w).low (F := fun q => ρ q ≠ 0) hba).grown hg fun q hq _ => by rw [hrow q hq]; decide).set (fun _ => by rw [h.sr]; decide) _ _), hp⟩⟩
  · have g2 := (h.str.below hba h.lt).grown hg fun e => by
      have := hrow _ e.symm
      rw [h.sr] at this
      cases this
    have := g2.set_ 1 (.slice A' (m.cls.length + 1) c')
    unfold stC at this ⊢
    rw [show (m.cls ++ [c]).length = m.cls.length + 1 by simp]
    exact this
  · have e : (m.cls ++ [c]).length = m.cls.length + 1 := by simp
    refine ⟨xs ++ [p.lsV.getD m.cls.length undef, .int .i64 0, .int .i64 0, .int .i64 0], ?_, fun i hi => ?_, fun i hi => ?_, fun i hi => ?_, fun i hi => ?_, fun k i hk => ?_⟩
    · simp only [e]
      exact ⟨own3_set14 ho _ hgn, fun q hq => roleUp_new hq⟩
    all_goals simp only [e] at *
    · rcases Nat.lt_or_ge i m.cls.length with hlt | hge
      · rw [List.getElem?_append_left (by omega)]; exact hcv.c0 i hlt
      · obtain rfl : i = m.cls.length := by omega
        rw [List.getElem?_append_right (by omega), show m.cls.length * 4 - xs.length = 0 by omega]
        rfl
    · rw [hgd]
      rcases Nat.lt_or_ge i m.cls.length with hlt | hge
      · rw [List.getElem?_append_left (by omega)]; exact hcv.c1 i hlt
      · obtain rfl : i = m.cls.length := by omega
        rw [List.getElem?_append_right (by omega), show m.cls.length * 4 + 1 - xs.length = 1 by omega, hout]
        rfl
    · rw [hgd]
      rcases Nat.lt_or_ge i m.cls.length with hlt | hge
      · rw [List.getElem?_append_left (by omega)]; exact hcv.c2 i hlt
      · obtain rfl : i = m.cls.length := by omega
        rw [List.getElem?_append_right (by omega), show m.cls.length * 4 + 2 - xs.length = 2 by omega, hout]
        rfl
    · rcases Nat.lt_or_ge i m.cls.length with hlt | hge
      · rw [List.getElem?_append_left (by omega)]; exact hcv.c3 i hlt
      · obtain rfl : i = m.cls.length := by omega
        rw [List.getElem?_append_right (by omega), show m.cls.length * 4 + 3 - xs.length = 3 by omega]
        exact ⟨0, rfl⟩
    · have := h.rin i (List.mem_of_getElem? hk)
      rw [List.getElem?_append_left (by omega)]
      exact hcv.pl k i hk
  · have := h.rin x hx
    simp
    omega
  · simp only [List.length_append, List.length_cons, List.length_nil] at hi
    rcases Nat.lt_or_ge i m.cls.length with hlt | hge
    · have := h.lc i hlt
      refine ⟨this.1, this.2.trans ?_⟩
      simp [List.getD, List.getElem?_append_left hlt]
    · obtain rfl : i = m.cls.length := by omega
      refine ⟨hN, hc.trans ?_⟩
      simp [List.getD]
/-- a clause more that has a literal -/
theorem LM.havOn (h : LM w ρ p m) {x i H n c : Nat} {A : Option Addr} (hx : x < 2 * m.z.length) (hH : p.hA = some ⟨H, 0, none⟩) (hA : p.hvV[x]? = some (.slice A n c)) (hn : n = (m.hv.getD x []).length)
    {wa w9 : World} {A' : Option Addr} {c' : Nat} (hba : Below w.heap.size w wa) (ho : w9.ownsRow 0 3 1 (.slice A' (n + 1) c') (n + 1) ((intsOf (m.hv.getD x [])).map (Value.int .i64) ++ [.int .i64 (i : Nat)]))
    (hg : wa.grownBy w9 (Value.slice A n c).ownBlock) (hv : (Value.slice A' (n + 1) c').ownBlock = (Value.slice A n c).ownBlock ∨ (Value.slice A' (n + 1) c').ownBlock = some wa.heap.size) :
    ∃ ρ', LM (w9.setCell ⟨H, x, none⟩ (.slice A' (n + 1) c')) ρ' { p with hvV := p.hvV.set x (.slice A' (n + 1) c') } { m with hv := m.hv.set x (m.hv.getD x [] ++ [i]) } ∧ LStep w ρ (w9.setCell ⟨H, x, none⟩ (.slice A' (n + 1) c')) ρ' := by
  have hxl : x < m.hv.length := by rw [h.hn]; exact hx
  have hx2 : x < (m.hv.map intsOf).length := by rw [List.length_map]; exact hxl
  have hrow : ∀ q, (Value.slice A n c).ownBlock = some q → ρ q = 4 := fun q hq => h.hl.part x q hx2 (by rw [hA]; exact hq)
  have hHH : ρ H = 9 := h.hs.2 H (by rw [hH]; rfl)
  have S : Stay w (w9.setCell ⟨H, x, none⟩ (.slice A' (n + 1) c')) ρ [4, 9] := ((Stay.refl.below hba).grown hg fun q hq => by rw [hrow q hq]; decide).set (by rw [hHH]; decide) _ _
  have hp := roleUp_old (w := w) (ρ := ρ) hrow hv hba.size
  have hHl : H < w.heap.size := h.fresh H (by rw [hHH]; decide)
  have hHn : some H ≠ (Value.slice A' (n + 1) c').ownBlock := fun e => by
    rcases hv with hv | hv
    · have := hrow H (by rw [← hv]; exact e.symm)
      rw [hHH] at this
      cases this
    · rw [hv] at e
      injection e with e
      have := hba.size
      omega
  have gH : p.g ≠ H := fun e => by rw [← e, h.sr] at hHH; cases hHH
  obtain ⟨xs, x1, x2⟩ := h.cs
  refine ⟨roleUp ρ (.slice A' (n + 1) c') 4, ⟨roleUp_fresh S h.fresh fun q hq => by simpa [World.setCell] using (ho.lt q hq).2, ?_, (hp _ h.lt).trans h.sr, S.roleOz hp h.vs (by decide), ⟨xs, S.roleOz hp x1 (by decide), ⟨x2.c0, x2.c1, x2.c2, x2.c3, x2.pl⟩⟩, h.rin, S.roleOlr hp h.ls (by decide), h.lc, ?_, ?_, by simpa using h.hn, S.roleOz hp h.rw_ (by decide), S.roleOz hp h.kw (by decide), S.roleOz hp h.sw (by decide), h.e0, fun a ha => ⟨(h.ew a ha).1, S.roleOz hp (h.ew a ha).2 (by decide)⟩⟩, ⟨((((Ft.refl w).low (F := fun q => ρ q ≠ 0) hba).grown hg fun q hq _ => by rw [hrow q hq]; decide).set (fun _ => by rw [hHH]; decide) _ _), hp⟩⟩
  · have g2 := (h.str.below hba h.lt).grown hg fun e => by
      have := hrow _ e.symm
      rw [h.sr] at this
      cases this
    exact g2.far gH _
  · have y := h.hs
    rw [hH] at y
    have S1 : Stay w w9 ρ [4] := (Stay.refl.below hba).grown hg fun q hq => by rw [hrow q hq]; decide
    have y2 := (S1.oz y (by decide)).stored x (.slice A' (n + 1) c')
    rw [← hH] at y2
    exact ⟨y2.1, fun q hq => (hp q (h.hs.1.lt q hq).2).trans (y2.2 q hq)⟩
  · have hlv : p.hvV.length = (m.hv.map intsOf).length := h.hl.len
    have e1 : (m.hv.set x (m.hv.getD x [] ++ [i])).map intsOf = (m.hv.map intsOf).set x (intsOf (m.hv.getD x [] ++ [i])) := by rw [List.map_set]
    have e2 : intsOf (m.hv.getD x [] ++ [i]) = intsOf (m.hv.getD x []) ++ [(i : Int)] := by simp [intsOf]
    have e3 : (intsOf (m.hv.getD x [])).length = n := by rw [hn]; simp [intsOf]
    have K : ∀ q, q < w.heap.size → (∀ b, (Value.slice A n c).ownBlock = some b → q ≠ b) → q ≠ H → (w9.setCell ⟨H, x, none⟩ (.slice A' (n + 1) c')).heap[q]? = w.heap[q]? := fun q hq hb hqH => by
      rw [Below.heap_setCell w9 ⟨H, x, none⟩ _ q hqH]
      rw [hg.block q (Nat.lt_of_lt_of_le hq hba.size) fun e => hb q e.symm rfl]
      exact hba.block q hq
    have hnewb : ∀ j q, j ≠ x → j < (m.hv.map intsOf).length → ((p.hvV[j]?).getD undef).ownBlock = some q → (Value.slice A' (n + 1) c').ownBlock = some q → False := fun j q hjx hj hq hq' => by
      rcases hv with hv | hv
      · rw [hv] at hq'
        have hxq : ((p.hvV[x]?).getD undef).ownBlock = some q := by rw [hA]; exact hq'
        rcases Nat.lt_or_gt_of_ne hjx with hlt | hgt
        · exact h.hl.own.ne j x q hlt hx2 hq hxq
        · exact h.hl.own.ne x j q hgt hj hxq hq
      · rw [hv] at hq'
        injection hq' with hq'
        have := (h.hl.own.lt hj hq).2
        have := hba.size
        omega
    rw [e1]
    refine ⟨⟨fun j hj => ?_, fun j k q hjk hk hq1 hq2 => ?_⟩, by simpa using hlv, fun j q hj hq => ?_⟩
    · rw [List.length_set] at hj
      by_cases e : x = j
      · subst e
        rw [getD_set, if_pos ⟨rfl, hx2⟩, List.getElem?_set_self (by omega), e2]
        refine ⟨A', c', by rw [List.length_append, e3]; rfl, ?_⟩
        rw [List.length_append, e3, List.map_append]
        exact own_setCell ho _ hHn
      · rw [getD_set, if_neg (fun t => e t.1), List.getElem?_set_ne e]
        obtain ⟨Aj, cj, k1, k2⟩ := h.hl.own.each j hj
        refine ⟨Aj, cj, k1, ?_⟩
        have hro := h.hl.part j
        have k3 : Oz w ρ 4 3 1 (.slice Aj ((m.hv.map intsOf).getD j []).length cj) ((m.hv.map intsOf).getD j []).length (((m.hv.map intsOf).getD j []).map (Value.int .i64)) := ⟨k2, fun q hq => hro q hj (by rw [k1]; exact hq)⟩
        refine ⟨k2.1, ?_⟩
        rcases k2.2 with k4 | ⟨b, cap, cur, k5, k6, k7, rest⟩
        · exact .inl k4
        · refine .inr ⟨b, cap, cur, k5, k6, ?_, rest⟩
          have hbr : ρ b = 4 := k3.2 b (by rw [k5]; rfl)
          rw [K b (Array.getElem?_eq_some_iff.1 k7).1 (fun b' hb' e' => ?_) (fun e' => by rw [e', hHH] at hbr; cases hbr)]
          · exact k7
          · subst e'
            have hjq : ((p.hvV[j]?).getD undef).ownBlock = some b := by rw [k1, Option.getD_some, k5]; rfl
            have hxq : ((p.hvV[x]?).getD undef).ownBlock = some b := by rw [hA]; exact hb'
            rcases Nat.lt_or_gt_of_ne e with hlt | hgt
            · exact h.hl.own.ne x j b hlt hj hxq hjq
            · exact h.hl.own.ne j x b hgt hx2 hjq hxq
    · rw [List.length_set] at hk
      by_cases ej : x = j
      · subst ej
        rw [List.getElem?_set_self (by omega)] at hq1
        rw [List.getElem?_set_ne (by omega)] at hq2
        exact hnewb k q (by omega) hk hq2 hq1
      · rw [List.getElem?_set_ne ej] at hq1
        by_cases ek : x = k
        · subst ek
          rw [List.getElem?_set_self (by omega)] at hq2
          exact hnewb j q (by omega) (by omega) hq1 hq2
        · rw [List.getElem?_set_ne ek] at hq2
          exact h.hl.own.ne j k q hjk hk hq1 hq2
    · rw [List.length_set] at hj
      by_cases ej : x = j
      · subst ej
        rw [List.getElem?_set_self (by omega)] at hq
        exact roleUp_new hq
      · rw [List.getElem?_set_ne ej] at hq
        exact (hp q (h.hl.own.lt hj hq).2).trans (h.hl.part j q hj hq)
end
end Go.Proofs.Ytllgepabjglnaaa
