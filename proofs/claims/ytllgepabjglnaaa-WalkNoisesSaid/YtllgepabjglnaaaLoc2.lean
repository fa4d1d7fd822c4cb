/- local's state: a clause enters the row, and leaves it. -/
import Derived.Test.YtllgepabjglnaaaLoc1
import Derived.Deep.RegionLaw
import Derived.Deep.RegionHeld3
import Derived.Deep.RegionLawGrows
namespace Go.Proofs.Ytllgepabjglnaaa
open Go.RowKit
set_option linter.unusedVariables false
set_option linter.unusedSimpArgs false

theorem szI14 (w : World) : (sizeOf 3).run Try.prog w = .ok 1 w := by
  obtain ⟨i, hi, h0, h1, _⟩ := info_parts infoCI
  simp [sizeOf, typeInfo, hi, h1, go_sem]
theorem i64_ok14 {x : Int} (h : -1000000 ≤ x ∧ x ≤ 1000000) : IntKind.i64.wrap x = x := by
  unfold IntKind.wrap
  simp [IntKind.signed, IntKind.bits]
  omega
theorem run_front14 {P : Program} {t e : TypeId} (ht : P.underlying t = some (.slice e)) (w : World) (hz : (sizeOf e).run P w = .ok 1 w) (b off n c k : Nat) (hk : k ≤ c) : (Instr.slice t (.slice (some ⟨b, off, none⟩) n c) none (some (.int .i64 k)) none).run P w = .ok (.slice (some ⟨b, off, none⟩) k c) w := by
  have h1 : (0 : Int) ≤ (k : Int) := Int.natCast_nonneg _
  have h2 : (k : Int) ≤ (c : Int) := by omega
  simp [Instr.slice, run_underlying ht, Instr.sliceBounds, go_sem, h1, h2, hz, Result.andThen]
theorem own_take14 {w : World} {base e n c k s : Nat} {A : Option Addr} {xs : List Value} (h : w.ownsRow base e s (.slice A n c) n xs) (hk : k ≤ n) (hA : A ≠ none) : w.ownsRow base e s (.slice A k c) k (xs.take (k * s)) := by
  have hl := h.1
  rcases h.2 with ⟨hv, _⟩ | ⟨g', cap', cur, hv, hb', hg', hnc, hmx, hcs, htk⟩
  · injection hv with hv
    exact absurd hv hA
  · injection hv with hv _ hc
    subst hv hc
    have hks : k * s ≤ n * s := Nat.mul_le_mul_right _ hk
    refine ⟨?_, .inr ⟨g', c, cur, rfl, hb', hg', by omega, hmx, hcs, ?_⟩⟩
    · rw [List.length_take]; omega
    · rw [← htk, List.take_take]
      congr 1
      omega
theorem set_other {xs : List Value} {i j : Nat} {u : Value} (h : i ≠ j) : (xs.set i u)[j]? = xs[j]? := List.getElem?_set_ne h
theorem set_same {xs : List Value} {i : Nat} {u v : Value} (h : xs[i]? = some v) : (xs.set i u)[i]? = some u := by
  rw [List.getElem?_set_self (List.getElem?_eq_some_iff.1 h).1]
/-- what is not of these parts stays -/
def Stay (w w' : World) (ρ : Nat → Nat) (rs : List Nat) : Prop := w.heap.size ≤ w'.heap.size ∧ ∀ q, q < w.heap.size → ρ q ∉ rs → w'.heap[q]? = w.heap[q]?
section
variable {w w' w'' : World} {ρ : Nat → Nat} {rs : List Nat}
theorem Stay.refl : Stay w w ρ rs := ⟨Nat.le_refl _, fun _ _ _ => rfl⟩
theorem Stay.set (h : Stay w w' ρ rs) {b : Nat} (hb : ρ b ∈ rs) (i : Nat) (v : Value) : Stay w (w'.setCell ⟨b, i, none⟩ v) ρ rs :=
  ⟨by simpa [World.setCell] using h.1, fun q hq hn => (Below.heap_setCell w' ⟨b, i, none⟩ v q (fun e => hn (e ▸ hb))).trans (h.2 q hq hn)⟩
theorem Stay.below (h : Stay w w' ρ rs) (hb : Below w'.heap.size w' w'') : Stay w w'' ρ rs := ⟨Nat.le_trans h.1 hb.size, fun q hq hn => (hb.block q (Nat.lt_of_lt_of_le hq h.1)).trans (h.2 q hq hn)⟩
theorem Stay.drew (h : Stay w w' ρ rs) : Stay w w'.drew ρ rs := h
theorem Stay.grown (h : Stay w w' ρ rs) {row : Option Nat} (hg : w'.grownBy w'' row) (hr : ∀ q, row = some q → ρ q ∈ rs) : Stay w w'' ρ rs :=
  ⟨Nat.le_trans h.1 hg.size, fun q hq hn => (hg.block q (Nat.lt_of_lt_of_le hq h.1) (fun e => hn (hr q e.symm))).trans (h.2 q hq hn)⟩
theorem Stay.oz (h : Stay w w' ρ rs) {r t s n : Nat} {v : Value} {xs : List Value} (ho : Oz w ρ r t s v n xs) (hr : r ∉ rs) : Oz w' ρ r t s v n xs := ho.keep fun q hq e => h.2 q hq (e ▸ hr)
theorem Stay.olr (h : Stay w w' ρ rs) {r : Nat} {vs : List Value} {xss : List (List Int)} (ho : OLr w ρ r vs xss) (hr : r ∉ rs) : OLr w' ρ r vs xss := ho.keep fun q hq e => h.2 q hq (e ▸ hr)
theorem Stay.step (h : Stay w w' ρ rs) (h0 : 0 ∉ rs) (ho : w'.os = w.os) (ht : w'.tape = w.tape) (hp : w'.output = w.output) : LStep w ρ w' ρ :=
  ⟨⟨ho, ht, hp, h.1, fun q hq hn => h.2 q hq (by rw [show ρ q = 0 from Decidable.not_not.1 hn]; exact h0)⟩, fun _ _ => rfl⟩
end
section
variable {w : World} {ρ : Nat → Nat} {p : Lx} {m : MS}
/-- a clause left the row -/
theorem LM.left (h : LM w ρ p m) (hinj : Inj m.row) {k i l r c : Nat} (hk : m.row[k]? = some i) (hl : l = m.row.getD (m.row.length - 1) 0) (hR : p.rA = some ⟨r, 0, none⟩) (hC : p.cA = some ⟨c, 0, none⟩) :
    LM (((w.setCell ⟨r, k, none⟩ (.int .i64 (l : Nat))).setCell ⟨c, l * 4 + 3, none⟩ (.int .i64 (k : Nat))).setCell ⟨p.g, 3, none⟩ (.slice p.rA (m.row.length - 1) p.rc)) ρ p { m with row := leaveK m.row k } ∧
    LStep w ρ (((w.setCell ⟨r, k, none⟩ (.int .i64 (l : Nat))).setCell ⟨c, l * 4 + 3, none⟩ (.int .i64 (k : Nat))).setCell ⟨p.g, 3, none⟩ (.slice p.rA (m.row.length - 1) p.rc)) ρ := by
  have hkl := (List.getElem?_eq_some_iff.1 hk).1
  have hll : m.row[m.row.length - 1]? = some l := by rw [hl, List.getD, List.getElem?_eq_getElem (by omega)]; rfl
  have hlm := h.rin l (List.mem_of_getElem? hll)
  obtain ⟨xs, x1, x2⟩ := h.cs
  have hrr : ρ r = 1 := h.rw_.2 r (by rw [hR]; rfl)
  have hcc : ρ c = 8 := x1.2 c (by rw [hC]; rfl)
  have S : Stay w (((w.setCell ⟨r, k, none⟩ (.int .i64 (l : Nat))).setCell ⟨c, l * 4 + 3, none⟩ (.int .i64 (k : Nat))).setCell ⟨p.g, 3, none⟩ (.slice p.rA (m.row.length - 1) p.rc)) ρ [1, 8, 6] :=
    ((Stay.refl.set (by rw [hrr]; decide) _ _).set (by rw [hcc]; decide) _ _).set (by rw [h.sr]; decide) _ _
  refine ⟨⟨fun q hq => Nat.lt_of_lt_of_le (h.fresh q hq) S.1, ?_, h.sr, S.oz h.vs (by decide), ?_, fun x hx => h.rin x ((mem_leaveK hinj hk x).1 hx).1, S.olr h.ls (by decide), h.lc, S.oz h.hs (by decide), S.olr h.hl (by decide), h.hn, ?_, S.oz h.kw (by decide), S.oz h.sw (by decide), h.e0, fun a ha => ⟨(h.ew a ha).1, S.oz (h.ew a ha).2 (by decide)⟩⟩, S.step (by decide) rfl rfl rfl⟩
  · have gr : p.g ≠ r := fun e => by rw [← e, h.sr] at hrr; cases hrr
    have gc : p.g ≠ c := fun e => by rw [← e, h.sr] at hcc; cases hcc
    have := ((h.str.far gr (.int .i64 (l : Nat)) (p := ⟨r, k, none⟩)).far gc (.int .i64 (k : Nat)) (p := ⟨c, l * 4 + 3, none⟩)).set_ 3 (.slice p.rA (m.row.length - 1) p.rc)
    unfold stC at this ⊢
    simp only [leaveK_len]
    exact this
  · have S1 : Stay w (w.setCell ⟨r, k, none⟩ (.int .i64 (l : Nat))) ρ [1] := Stay.refl.set (by rw [hrr]; decide) _ _
    have y1 := S1.oz x1 (by decide)
    rw [hC] at y1
    have y2 := y1.stored (l * 4 + 3) (.int .i64 (k : Nat))
    have S2 : Stay ((w.setCell ⟨r, k, none⟩ (.int .i64 (l : Nat))).setCell ⟨c, l * 4 + 3, none⟩ (.int .i64 (k : Nat))) (((w.setCell ⟨r, k, none⟩ (.int .i64 (l : Nat))).setCell ⟨c, l * 4 + 3, none⟩ (.int .i64 (k : Nat))).setCell ⟨p.g, 3, none⟩ (.slice p.rA (m.row.length - 1) p.rc)) ρ [6] := Stay.refl.set (by rw [h.sr]; decide) _ _
    have y3 := S2.oz y2 (by decide)
    rw [← hC] at y3
    refine ⟨_, y3, fun j hj => ?_, fun j hj => ?_, fun j hj => ?_, fun j hj => ?_, fun a j hj => ?_⟩
    · rw [set_other (by omega)]; exact x2.c0 j hj
    · rw [set_other (by omega)]; exact x2.c1 j hj
    · rw [set_other (by omega)]; exact x2.c2 j hj
    · by_cases e : l = j
      · subst e
        obtain ⟨pl, hpl⟩ := x2.c3 l hj
        exact ⟨_, set_same hpl⟩
      · rw [set_other (by omega)]; exact x2.c3 j hj
    · simp only at hj
      rw [leaveK_get _ hkl] at hj
      split at hj
      · split at hj
        · rename_i e
          subst e
          rw [hll] at hj
          injection hj with hj
          subst hj
          obtain ⟨pl, hpl⟩ := x2.c3 l hlm
          exact set_same hpl
        · have hne : l ≠ j := by
            rintro rfl
            have := hinj _ _ _ hj hll
            omega
          rw [set_other (by omega)]
          exact x2.pl a j hj
      · cases hj
  · have y1 := h.rw_
    rw [hR] at y1
    have y2 := y1.stored k (.int .i64 (l : Nat))
    have S2 : Stay (w.setCell ⟨r, k, none⟩ (.int .i64 (l : Nat))) (((w.setCell ⟨r, k, none⟩ (.int .i64 (l : Nat))).setCell ⟨c, l * 4 + 3, none⟩ (.int .i64 (k : Nat))).setCell ⟨p.g, 3, none⟩ (.slice p.rA (m.row.length - 1) p.rc)) ρ [8, 6] := (Stay.refl.set (by rw [hcc]; decide) _ _).set (by rw [h.sr]; decide) _ _
    have y3 := S2.oz y2 (by decide)
    have y4 := own_take14 y3.1 (show m.row.length - 1 ≤ m.row.length by omega) (by simp)
    have e : (natsV (leaveK m.row k)) = ((natsV m.row).set k (.int .i64 (l : Nat))).take ((m.row.length - 1) * 1) := by
      unfold natsV leaveK
      rw [Nat.mul_one, ← hl, List.map_take, List.map_set]
    simp only [leaveK_len]
    rw [e]
    rw [← hR] at y4
    exact ⟨y4, fun q hq => by rw [hR] at hq; exact y3.2 q hq⟩
/-- a clause entered the row -/
theorem LM.entered (h : LM w ρ p m) {i c : Nat} (hi : i < m.cls.length) (hn : i ∉ m.row) (hC : p.cA = some ⟨c, 0, none⟩) {wa w9 : World} {v' : Value}
    (hba : Below (w.setCell ⟨c, i * 4 + 3, none⟩ (.int .i64 (m.row.length : Nat))).heap.size (w.setCell ⟨c, i * 4 + 3, none⟩ (.int .i64 (m.row.length : Nat))) wa)
    (ho : w9.ownsRow 0 3 1 v' (m.row.length + 1) (natsV m.row ++ [.int .i64 (i : Nat)])) (hg : wa.grownBy w9 (Value.slice p.rA m.row.length p.rc).ownBlock)
    (hv : v'.ownBlock = (Value.slice p.rA m.row.length p.rc).ownBlock ∨ v'.ownBlock = some wa.heap.size) :
    ∃ ρ' A' c', LM (w9.setCell ⟨p.g, 3, none⟩ v') ρ' { p with rA := A', rc := c' } { m with row := m.row ++ [i] } ∧ LStep w ρ (w9.setCell ⟨p.g, 3, none⟩ v') ρ' := by
  obtain ⟨xs, x1, x2⟩ := h.cs
  have hcc : ρ c = 8 := x1.2 c (by rw [hC]; rfl)
  have gc : p.g ≠ c := fun e => by rw [← e, h.sr] at hcc; cases hcc
  obtain ⟨A', c', rfl, _⟩ := own_slice ho
  have hrow : ∀ q, (Value.slice p.rA m.row.length p.rc).ownBlock = some q → ρ q = 1 := h.rw_.2
  have h0 : Stay w (w.setCell ⟨c, i * 4 + 3, none⟩ (.int .i64 (m.row.length : Nat))) ρ [8] := Stay.refl.set (by rw [hcc]; decide) _ _
  have hsz : w.heap.size ≤ wa.heap.size := Nat.le_trans h0.1 hba.size
  have S : Stay w (w9.setCell ⟨p.g, 3, none⟩ (.slice A' (m.row.length + 1) c')) ρ [8, 1, 6] :=
    ((((Stay.refl.set (by rw [hcc]; decide) _ _).below hba).grown hg fun q hq => by rw [hrow q hq]; decide).set (by rw [h.sr]; decide) _ _)
  obtain ⟨ρ', hρ'⟩ : ∃ ρ' : Nat → Nat, ρ' = fun q => if (Value.slice A' (m.row.length + 1) c').ownBlock = some q then 1 else ρ q := ⟨_, rfl⟩
  have hp : ∀ q, q < w.heap.size → ρ' q = ρ q := fun q hq => by
    rw [hρ']
    simp only
    split
    · rename_i e
      rcases hv with hv | hv
      · exact (hrow q (by rw [← hv]; exact e)).symm
      · rw [hv] at e
        injection e with e
        omega
    · rfl
  have R : ∀ {r t s n : Nat} {v : Value} {ys : List Value}, Oz w ρ r t s v n ys → r ∉ [8, 1, 6] → Oz (w9.setCell ⟨p.g, 3, none⟩ (.slice A' (m.row.length + 1) c')) ρ' r t s v n ys := fun ho hr => by
    have h1 := S.oz ho hr
    exact ⟨h1.1, fun q hq => (hp q (ho.1.lt q hq).2).trans (h1.2 q hq)⟩
  have R' : ∀ {r : Nat} {vs : List Value} {xss : List (List Int)}, OLr w ρ r vs xss → r ∉ [8, 1, 6] → OLr (w9.setCell ⟨p.g, 3, none⟩ (.slice A' (m.row.length + 1) c')) ρ' r vs xss := fun ho hr => by
    have h1 := S.olr ho hr
    exact ⟨h1.own, h1.len, fun j q hj hq => (hp q (ho.own.lt hj hq).2).trans (h1.part j q hj hq)⟩
  have hg9 : wa.heap.size ≤ w9.heap.size := hg.size
  have hsr : ρ' p.g = 6 := (hp _ h.lt).trans h.sr
  refine ⟨ρ', A', c', ⟨fun q hq => ?_, ?_, hsr, R h.vs (by decide), ?_, fun x hx => ?_, R' h.ls (by decide), h.lc, R h.hs (by decide), R' h.hl (by decide), h.hn, ?_, R h.kw (by decide), R h.sw (by decide), h.e0, fun a ha => ⟨(h.ew a ha).1, R (h.ew a ha).2 (by decide)⟩⟩, ?_, hp⟩
  · rw [hρ'] at hq
    simp only at hq
    split at hq
    · rename_i e
      have := (ho.lt q e).2
      simpa [World.setCell] using this
    · exact Nat.lt_of_lt_of_le (h.fresh q hq) S.1
  · have g1 : Blk (w.setCell ⟨c, i * 4 + 3, none⟩ (.int .i64 (m.row.length : Nat))) p.g _ (stC p m) := h.str.far gc _
    have g2 := (g1.below hba g1.lt).grown hg fun e => by
      have := hrow _ e.symm
      rw [h.sr] at this
      cases this
    have := g2.set_ 3 (.slice A' (m.row.length + 1) c')
    unfold stC at this ⊢
    rw [show (m.row ++ [i]).length = m.row.length + 1 by simp]
    exact this
  · have y1 := x1
    rw [hC] at y1
    have y2 := y1.stored (i * 4 + 3) (.int .i64 (m.row.length : Nat))
    have S2 : Stay (w.setCell ⟨c, i * 4 + 3, none⟩ (.int .i64 (m.row.length : Nat))) (w9.setCell ⟨p.g, 3, none⟩ (.slice A' (m.row.length + 1) c')) ρ [1, 6] := ((Stay.refl.below hba).grown hg fun q hq => by rw [hrow q hq]; decide).set (by rw [h.sr]; decide) _ _
    have y3 := S2.oz y2 (by decide)
    have y4 : Oz (w9.setCell ⟨p.g, 3, none⟩ (.slice A' (m.row.length + 1) c')) ρ' 8 85 4 (.slice p.cA m.cls.length p.cc) m.cls.length (xs.set (i * 4 + 3) (.int .i64 (m.row.length : Nat))) := by
      rw [hC]
      exact ⟨y3.1, fun q hq => (hp q (y1.1.lt q hq).2).trans (y3.2 q hq)⟩
    refine ⟨_, y4, fun j hj => ?_, fun j hj => ?_, fun j hj => ?_, fun j hj => ?_, fun a j hj => ?_⟩
    · rw [set_other (by omega)]; exact x2.c0 j hj
    · rw [set_other (by omega)]; exact x2.c1 j hj
    · rw [set_other (by omega)]; exact x2.c2 j hj
    · by_cases e : i = j
      · subst e
        obtain ⟨pl, hpl⟩ := x2.c3 i hj
        exact ⟨_, set_same hpl⟩
      · rw [set_other (by omega)]; exact x2.c3 j hj
    · simp only at hj
      rcases Nat.lt_or_ge a m.row.length with hlt | hge
      · rw [List.getElem?_append_left hlt] at hj
        have hne : i ≠ j := by
          rintro rfl
          exact hn (List.mem_of_getElem? hj)
        rw [set_other (by omega)]
        exact x2.pl a j hj
      · rw [List.getElem?_append_right hge] at hj
        obtain ⟨hz, e⟩ := List.getElem?_eq_some_iff.1 hj
        simp at hz e
        subst e
        obtain ⟨pl, hpl⟩ := x2.c3 i hi
        have e2 : a = m.row.length := by omega
        rw [e2]
        exact set_same hpl
  · rcases List.mem_append.1 hx with hx | hx
    · exact h.rin x hx
    · obtain rfl : x = i := by simpa using hx
      exact hi
  · have hgn : some p.g ≠ (Value.slice A' (m.row.length + 1) c').ownBlock := fun e => by
      rcases hv with hv | hv
      · have := hrow p.g (by rw [← hv]; exact e.symm)
        rw [h.sr] at this
        cases this
      · rw [hv] at e
        injection e with e
        have := h.lt
        omega
    have e : natsV (m.row ++ [i]) = natsV m.row ++ [.int .i64 (i : Nat)] := by simp [natsV]
    rw [show (m.row ++ [i]).length = m.row.length + 1 by simp, e]
    refine ⟨own_setCell ho _ hgn, fun q hq => ?_⟩
    rw [hρ']
    simp only
    rw [if_pos hq]
  · exact ((((Ft.refl w).set (F := fun q => ρ q ≠ 0) (fun _ => by rw [hcc]; decide) (i * 4 + 3) (.int .i64 (m.row.length : Nat))).low hba).grown hg fun q hq _ => by rw [hrow q hq]; decide).set (fun _ => by rw [h.sr]; decide) _ _
end

section
variable {w : World} {ρ : Nat → Nat} {p : Lx} {m : MS}
set_option maxRecDepth 100000 in
set_option maxHeartbeats 1000000 in
theorem enter_any (h : LM w ρ p m) {i : Nat} (hi : i < m.cls.length) (hn : i ∉ m.row) (hm : m.cls.length ≤ 1000) (hr : m.row.length ≤ 1000) :
    Calls Try.prog 48 #[.pointer (some ⟨p.g, 0, none⟩), .int .i64 (i : Nat)] w fun e w' => e = .returned (.tuple #[]) ∧ ∃ ρ' A' c', LM w' ρ' { p with rA := A', rc := c' } { m with row := m.row ++ [i] } ∧ LStep w ρ w' ρ' := by
  obtain ⟨xs, x1, x2⟩ := h.cs
  obtain ⟨c, hC, hcc, hcl, _, hcell, hfr⟩ := x1.at_ (by omega)
  obtain ⟨pl, hpl⟩ := x2.c3 i hi
  have k3 := hcell (i * 4 + 3) (by omega)
  rw [hpl] at k3
  have f3 := hfr (i * 4 + 3)
  have gc : p.g ≠ c := fun e => by rw [← e, h.sr] at hcc; cases hcc
  have cg : c ≠ p.g := Ne.symm gc
  have c1 := h.cells.2.1
  have c3 := h.cells.2.2.2.1
  rw [hC] at c1
  have glt := h.lt
  obtain ⟨i0, hi0, hz0, hz1, hz2⟩ := info_parts infoCI
  -- behind the store
  obtain ⟨w1, hw1⟩ : ∃ w1, w1 = (w.setCell ⟨c, i * 4 + 3, none⟩ (.int .i64 (m.row.length : Nat))).drew := ⟨_, rfl⟩
  have S1 : Stay w w1 ρ [8] := by rw [hw1]; exact (Stay.refl.set (by rw [hcc]; decide) _ _).drew
  have r1 := S1.oz h.rw_ (by decide)
  have b1 : Blk w1 p.g 75 (stC p m) := by rw [hw1]; exact (h.str.far gc (p := ⟨c, i * 4 + 3, none⟩) (.int .i64 (m.row.length : Nat))).drew_
  have d3 : w1.cell? ⟨p.g, 3, none⟩ = some (.slice p.rA m.row.length p.rc) := by rw [b1.cell]; rfl
  have B1 : Below (w.setCell ⟨c, i * 4 + 3, none⟩ (.int .i64 (m.row.length : Nat))).heap.size (w.setCell ⟨c, i * 4 + 3, none⟩ (.int .i64 (m.row.length : Nat))) w1 := by rw [hw1]; exact (Below.refl _ _).drew
  have hsz1 : w1.heap.size = (w.setCell ⟨c, i * 4 + 3, none⟩ (.int .i64 (m.row.length : Nat))).heap.size := by rw [hw1]; rfl
  obtain ⟨wa, hwa⟩ : ∃ wa, wa = w1.alloc (.cells #[.int .i64 (i : Nat)] 3) := ⟨_, rfl⟩
  have ra := Stay.oz (Stay.refl.below (by rw [hwa]; exact (Below.refl _ _).alloc (Nat.le_refl _) _)) r1 (rs := []) (w' := wa) (by decide)
  have ba : wa.cell? ⟨w1.heap.size, 0, none⟩ = some (.int .i64 (i : Nat)) := by rw [hwa]; exact (Blk.new w1 3 #[.int .i64 (i : Nat)]).cell 0
  have FIN := Lib.hid (fun w9 v' ho hg hv => h.entered (wa := wa) (w9 := w9) (v' := v') hi hn hC (B1.trans ((by rw [hwa]; exact (Below.refl _ _).alloc (Nat.le_refl _) _ : Below w1.heap.size w1 wa).mono (Nat.le_of_eq hsz1.symm))) ho hg hv)
  have HB9 := Lib.hid (fun (w9 : World) (hg : wa.grownBy w9 (Value.slice p.rA m.row.length p.rc).ownBlock) => show w9.frozen? ⟨p.g, 3, none⟩ = false ∧ ∃ u, w9.cell? ⟨p.g, 3, none⟩ = some u from by
    have b2 : Blk w9 p.g 75 (stC p m) := by
      have : Blk wa p.g 75 (stC p m) := by rw [hwa]; exact b1.alloc _
      refine this.grown hg fun e => ?_
      have := h.rw_.2 _ e.symm
      rw [h.sr] at this
      cases this
    exact ⟨b2.frozen 3, by rw [b2.cell]; exact ⟨_, rfl⟩⟩)
  have hlt1 : p.g < w1.heap.size := b1.lt
  obtain ⟨n, hn'⟩ : ∃ n, m.row.length = n := ⟨_, rfl⟩
  obtain ⟨N, hN⟩ : ∃ N, m.cls.length = N := ⟨_, rfl⟩
  rw [hn'] at c3 d3 hr hw1 ra HB9
  simp only [hn'] at FIN
  have HW1 := Lib.hid hw1
  have HWA := Lib.hid hwa
  have HR1 := Lib.hid ra
  have HBA := Lib.hid ba
  rw [hN] at c1 hi hm
  have hiN : (i : Int) < (N : Int) := by omega
  clear h x1 x2 hcell hfr hpl S1 r1 hw1 hC hn hn' hN b1 B1 hsz1 ra hwa ba
  go_enter Try.func48, Try.ntmps48
  go_wp2_with fail
  go_region
  rw [← HW1.out]
  clear c1 c3 k3 f3
  go_wp2_with (at_builtin; rw [← HWA.out]; refine wpList_append1 _ rfl _ _ 48 rfl 0 3 i0 (.int .i64 0) 8 Try.underlying48 hi0 hz0 hz1 hz2 rfl _ n (natsV m.row) rfl HR1.out.1 (.int .i64 (i : Nat)) w1.heap.size rfl HBA.out rfl (by unfold maxLen; omega) (by omega) (Nat.zero_le _) ?_)
  intro v' w9 ho hg hv
  obtain ⟨A', c', rfl, _⟩ := own_slice ho
  have HO := Lib.hid ho
  have HG := Lib.hid hg
  have HV := Lib.hid hv
  obtain ⟨f9, u9, k9⟩ := HB9.out w9 hg
  clear ho hg hv d3
  go_wp2
  go_end0
  exact ⟨rfl, FIN.out _ _ HO.out HG.out HV.out⟩

set_option maxRecDepth 100000 in
set_option maxHeartbeats 1000000 in
theorem leave_any (h : LM w ρ p m) (hinj : Inj m.row) {k i : Nat} (hk : m.row[k]? = some i) (hm : m.cls.length ≤ 1000) (hr : m.row.length ≤ 1000) :
    Calls Try.prog 52 #[.pointer (some ⟨p.g, 0, none⟩), .int .i64 (i : Nat)] w fun e w' => e = .returned (.tuple #[]) ∧ LM w' ρ p { m with row := leaveK m.row k } ∧ LStep w ρ w' ρ := by
  have hkl := (List.getElem?_eq_some_iff.1 hk).1
  obtain ⟨l, hl⟩ : ∃ l, l = m.row.getD (m.row.length - 1) 0 := ⟨_, rfl⟩
  have hll : m.row[m.row.length - 1]? = some l := by rw [hl, List.getD, List.getElem?_eq_getElem (by omega)]; rfl
  have hlm := h.rin l (List.mem_of_getElem? hll)
  have him := h.rin i (List.mem_of_getElem? hk)
  obtain ⟨xs, x1, x2⟩ := h.cs
  obtain ⟨c, hC, hcc, hcl, hcn, hcell, hcf⟩ := x1.at_ (by omega)
  obtain ⟨r, hR, hrr, hrl, hrn, hrcell, hrf⟩ := h.rw_.at_ (by omega)
  have k3 := hcell (i * 4 + 3) (by omega)
  rw [x2.pl k i hk] at k3
  have l3 := hcell (l * 4 + 3) (by omega)
  rw [x2.pl _ l hll] at l3
  have fl3 := hcf (l * 4 + 3)
  have rl := hrcell (m.row.length - 1) (by omega)
  rw [show (natsV m.row)[m.row.length - 1]? = some (.int .i64 (l : Nat)) by simp [natsV, hll]] at rl
  have rk := hrcell k (by omega)
  rw [show (natsV m.row)[k]? = some (.int .i64 (i : Nat)) by simp [natsV, hk]] at rk
  have rf := hrf k
  have gc : p.g ≠ c := fun e => by rw [← e, h.sr] at hcc; cases hcc
  have cg : c ≠ p.g := Ne.symm gc
  have gr : p.g ≠ r := fun e => by rw [← e, h.sr] at hrr; cases hrr
  have rg : r ≠ p.g := Ne.symm gr
  have cr : c ≠ r := fun e => by rw [e, hrr] at hcc; cases hcc
  have rc : r ≠ c := Ne.symm cr
  have c1 := h.cells.2.1
  have c3 := h.cells.2.2.2.1
  have f3 := h.frozen 3
  rw [hC] at c1
  rw [hR] at c3
  obtain ⟨n, hn'⟩ : ∃ n, m.row.length = n + 1 := ⟨m.row.length - 1, by omega⟩
  obtain ⟨N, hN⟩ : ∃ N, m.cls.length = N := ⟨_, rfl⟩
  have FIN := fun j => (h.drewN j).left hinj hk hl hR hC
  simp only [hn', Nat.add_sub_cancel] at FIN l3 rl c3
  rw [hR] at FIN
  have HFIN := Lib.hid FIN
  have ST := Lib.hid (fun j => show LStep w ρ (w.drewN j) ρ from LStep.below ((Below.refl w.heap.size w).trans (below_drewN (Below.refl _ _) j)))
  rw [hN] at c1 hm hlm him
  have hiN : (i : Int) < (N : Int) := by omega
  have hlN : (l : Int) < (N : Int) := by omega
  have hkn : (k : Int) < ((n + 1 : Nat) : Int) := by omega
  have hsub : ((n + 1 : Nat) : Int) - 1 = (n : Int) := by omega
  have hwr : IntKind.i64.wrap (n : Int) = (n : Int) := i64_ok14 (by omega)
  have hnc : n ≤ p.rc := by omega
  have hsl : ∀ w, (Instr.sliceAt 48 (.slice (some ⟨r, 0, none⟩) (n + 1) p.rc) none (some (.int .i64 n)) none).run Try.prog w = .ok (.slice (some ⟨r, 0, none⟩) n p.rc) w := fun w =>
    (run_sliceAt_slice (P := Try.prog) w _ _ _ _ _ (by kernel_rfl)).trans (run_front14 Try.underlying48 w (szI14 w) r 0 (n + 1) p.rc n hnc)
  clear h x1 x2 hcell hcf hrcell hrf hC hR hk hl hll hN hn' FIN hkl hrn hcn
  go_enter Try.func52, Try.ntmps52
  go_wp2_with fail
  go_quiet (fail)
  go_wp2
  go_end0
  exact ⟨rfl, (HFIN.out _).1, (ST.out _).trans (HFIN.out _).2⟩
end
end Go.Proofs.Ytllgepabjglnaaa
