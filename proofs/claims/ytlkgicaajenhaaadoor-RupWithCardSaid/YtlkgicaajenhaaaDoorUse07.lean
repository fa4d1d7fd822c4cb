/- A store, as those who call it know it. The statements' own store: of a formula. The statements' own small case. A raw formula of these statements. -/
import Derived.Test.YtlkgicaajenhaaaDoorKeys07
import Derived.Test.YtlkgicaajenhaaaDoorImplied07
import Derived.Test.YtlkgicaajenhaaaDoorAdd07
import Derived.Test.YtlkgicaajenhaaaDoorLaw02
import Derived.Test.YtlkgicaajenhaaaDoorRawForm
import Derived.Test.YtlkgicaajenhaaaDoorRef07b
namespace Go.Proofs.YtlkgicaajenhaaaDoor
open Go.RowKit
set_option linter.unusedVariables false
set_option linter.unusedSimpArgs false

/-- a store at s, of V variables, with the clauses cs; N: no more than so many were added or removed -/
def Sx (w : World) (base s V : Nat) (cs : List (List Int)) (N : Nat) (X : SX) : Prop := X.s = s ∧ X.V = V ∧ X.cs = cs ∧ X.ps.length ≤ N ∧ X.added ≤ N ∧ X.tk ≤ N ∧ ∃ fo, Rest7 w base X fo
section
variable {w w' : World} {base s V N b0 c : Nat} {cs : List (List Int)} {X X' : SX} {A : Option Addr} {L : List Int}
theorem Sx.below (h : Sx w base s V cs N X) (hb : Below w.heap.size w w') : Sx w' base s V cs N X := by
  obtain ⟨h1, h2, h3, h4, h5, h6, fo, h7⟩ := h
  exact ⟨h1, h2, h3, h4, h5, h6, fo, h7.below hb⟩
theorem Sx.lt (h : Sx w base s V cs N X) : base ≤ s ∧ s < w.heap.size ∧ V ≤ 100000 := by
  obtain ⟨rfl, rfl, h3, h4, h5, h6, fo, h7⟩ := h
  exact ⟨h7.sto.lo.1, h7.sto.st.lt, h7.sto.vb⟩
theorem Sx.more {N' : Nat} (h : Sx w base s V cs N X) (hn : N ≤ N') : Sx w base s V cs N' X := by
  obtain ⟨h1, h2, h3, h4, h5, h6, h7⟩ := h
  exact ⟨h1, h2, h3, by omega, by omega, by omega, h7⟩
theorem SameR.sx {fo : List Bool} (hs : SameR X X') (h : Sx w base s V cs N X) (hr : Rest7 w' base X' fo) : Sx w' base s V cs N X' := by
  obtain ⟨h1, h2, h3, h4, h5, h6, _⟩ := h
  exact ⟨hs.s.trans h1, hs.V.trans h2, hs.cs.trans h3, by rw [hs.ps]; exact h4, by rw [hs.more.1]; exact h5, by rw [hs.more.2.2.2]; exact h6, fo, hr⟩
/-- a row that is none of the store's, since it is new -/
theorem Sx.apart_new (h : Sx w base s V cs N X) (L : List Int) (hl : L.length ≤ 1000000000) : Apart (w.alloc (.cells (L.map (Value.int .i64)).toArray 3)) X w.heap.size (some ⟨w.heap.size, 0, none⟩) L.length L := by
  obtain ⟨h1, h2, h3, h4, h5, h6, fo, h7⟩ := h
  refine ⟨⟨by simp, .inr ⟨w.heap.size, L.length, _, rfl, Nat.le_refl _, heap_alloc_new w _, Nat.le_refl _, ?_, by simp, by simp [List.take_of_length_le]⟩⟩, fun g hg e => ?_⟩
  · unfold maxLen; omega
  · have h1 : w.heap.size = g := by simpa [Value.ownBlock] using hg
    have h2 := (h7.sto.fnd.lt g e).2
    omega
theorem Sx.apart_high (h : Sx w base s V cs N X) (hb : Below w.heap.size w w') (ho : w'.ownsRow w.heap.size 3 1 (.slice A L.length c) L.length (L.map (Value.int .i64))) : Apart w' X w.heap.size A c L := by
  obtain ⟨h1, h2, h3, h4, h5, h6, fo, h7⟩ := h
  refine ⟨ho, fun g hg e => ?_⟩
  have h1 := (ho.lt g hg).1
  have h2 := (h7.sto.fnd.lt g e).2
  omega
theorem Sx.apart_low (h : Sx w base s V cs N X) (ho : w.ownsRow b0 3 1 (.slice A L.length c) L.length (L.map (Value.int .i64))) (hl : ∀ g, (Value.slice A L.length c).ownBlock = some g → g < base) : Apart w X b0 A c L := by
  obtain ⟨h1, h2, h3, h4, h5, h6, fo, h7⟩ := h
  exact ⟨ho, fun g hg e => by have h1 := (h7.sto.fnd.lt g e).1; have h2 := hl g hg; omega⟩
theorem Sx.turn (h : Sx w base s V cs N X) (hA : Apart w X b0 A c L) (ht : Tn base X w w') (hl : Later7 w X X') : Apart w' X' b0 A c L := by
  obtain ⟨h1, h2, h3, h4, h5, h6, fo, h7⟩ := h
  exact hA.turn h7.sto ht hl
theorem lt7_wide (hV : V ≤ 100000) (hL : ∀ x, x ∈ L → Lt7 V x) : ∀ x, x ∈ L → -9223372036854775808 ≤ x ∧ x ≤ 9223372036854775807 := fun x hx => by obtain ⟨a1, a2, a3⟩ := hL x hx; omega
theorem follow_sx (h : Sx w base s V cs N X) (hA : Apart w X b0 A c L) (hL : ∀ x, x ∈ L → Lt7 V x) (hn : L.length ≤ 1000000000) :
    Calls Tryd.prog 15 #[.pointer (some ⟨s, 0, none⟩), .slice A L.length c] w fun e w' => ∃ (X' : SX) (ok : Bool) (r : List Int) (A' : Option Addr) (c' : Nat), e = .returned (.tuple #[.slice A' r.length c', .bool ok]) ∧ Sx w' base s V cs N X' ∧ Tn base X w w' ∧ Later7 w X X' ∧ r.length ≤ 1000000000 ∧
      Apart w' X' w.heap.size A' c' r ∧ Told cs L r ok ∧ Rising r ∧ ∀ x, x ∈ r → Lt7 V x := by
  have h' := h
  obtain ⟨rfl, rfl, rfl, h4, h5, h6, fo, h7⟩ := h
  refine (follow_any7 h7 hA (lt7_wide h7.sto.vb hL) hn).mono ?_
  rintro e w' ⟨X', fo', ok, r, A', c', rfl, r1, r2, r3, r4, r5, r6, r7, r8⟩
  obtain ⟨p1, p2, p3⟩ := r8 ((foreign7_yes h7.sto.vb).2 hL)
  exact ⟨X', ok, r, A', c', rfl, r4.sx h' r1, r2, r3, r5, r6, p1, p2, p3⟩
theorem implied_sx (h : Sx w base s V cs N X) (hA : Apart w X b0 A c L) (hL : ∀ x, x ∈ L → Lt7 V x) (hn : L.length ≤ 1000000000) :
    Calls Tryd.prog 18 #[.pointer (some ⟨s, 0, none⟩), .slice A L.length c] w fun e w' => ∃ (X' : SX) (b : Bool), e = .returned (.bool b) ∧ Sx w' base s V cs N X' ∧ Tn base X w w' ∧ Later7 w X X' ∧ (b = true ↔ Clash cs (negs L)) := by
  have h' := h
  obtain ⟨rfl, rfl, rfl, h4, h5, h6, fo, h7⟩ := h
  refine (implied_any7 h7 hA (lt7_wide h7.sto.vb hL) hn).mono ?_
  rintro e w' ⟨X', fo', b, rfl, r1, r2, r3, r4, r5⟩
  exact ⟨X', b, rfl, r4.sx h' r1, r2, r3, r5.trans ⟨fun e => e.2, fun e => ⟨(foreign7_yes h7.sto.vb).2 hL, e⟩⟩⟩
theorem add_sx (h : Sx w base s V cs N X) (hA : Apart w X b0 A c L) (hL : ∀ x, x ∈ L → Lt7 V x) (hn : L.length ≤ 1000000) (hN : N ≤ 1000000) (hT : TabB base w) :
    Calls Tryd.prog 25 #[.pointer (some ⟨s, 0, none⟩), .slice A L.length c] w fun e w' => ∃ X' : SX, e = .returned (.bool true) ∧ Sx w' base s V (cs ++ [normOf L]) (N + 1) X' ∧ Tn base X w w' ∧ Later7 w X X' := by
  obtain ⟨rfl, rfl, rfl, h4, h5, h6, fo, h7⟩ := h
  refine (add_any7 h7 hA (lt7_wide h7.sto.vb hL) hn hT (by omega) (by omega) (by omega)).mono ?_
  rintro e w' ⟨X', fo', b, rfl, r1, r2, r3, ⟨r4, r5⟩, r6, r7, _⟩
  obtain rfl := r6.2 ((foreign7_yes h7.sto.vb).2 hL)
  obtain ⟨p1, p2, p3, p4⟩ := r7 rfl
  exact ⟨X', rfl, ⟨r4, r5, p1, by omega, by omega, by omega, fo', r1⟩, r2, r3⟩
theorem add_sx_no (h : Sx w base s V cs N X) (hA : Apart w X b0 A c L) (hx : ∀ x, x ∈ L → -9223372036854775808 ≤ x ∧ x ≤ 9223372036854775807) (hL : ∃ x, x ∈ L ∧ ¬ Lt7 V x) (hn : L.length ≤ 1000000) (hN : N ≤ 1000000) (hT : TabB base w) :
    Calls Tryd.prog 25 #[.pointer (some ⟨s, 0, none⟩), .slice A L.length c] w fun e w' => e = .returned (.bool false) ∧ Sx w' base s V cs N X ∧ Tn base X w w' := by
  obtain ⟨rfl, rfl, rfl, h4, h5, h6, fo, h7⟩ := h
  refine (add_any7 h7 hA hx hn hT (by omega) (by omega) (by omega)).mono ?_
  rintro e w' ⟨X', fo', b, rfl, r1, r2, r3, ⟨r4, r5⟩, r6, r7, r8⟩
  have hb : b = false := by
    cases hbb : b with
    | false => rfl
    | true =>
      obtain ⟨x, hx1, hx2⟩ := hL
      exact absurd ((foreign7_yes h7.sto.vb).1 (r6.1 hbb) x hx1) hx2
  subst hb
  obtain rfl := r8 rfl
  exact ⟨rfl, ⟨rfl, rfl, rfl, h4, h5, h6, fo', r1⟩, r2⟩
theorem has_sx {B : Nat} (h : Sx w base s V cs N X) (hA : Ints w B A L) (hB : B ≤ w.heap.size) (hn : L.length ≤ 1000000) (hL : ∀ x, x ∈ L → -1000000 ≤ x ∧ x ≤ 1000000) (hT : Tab7 w) :
    Calls Tryd.prog 21 #[.pointer (some ⟨s, 0, none⟩), .slice A L.length c] w fun e w' => e = .returned (.bool (decide (normOf L ∈ cs))) ∧ Below w.heap.size w w' := by
  obtain ⟨rfl, rfl, rfl, h4, h5, h6, fo, h7⟩ := h
  exact has_any7 h7 hA hB hn hL hT
theorem len_sx (h : Sx w base s V cs N X) : Calls Tryd.prog 24 #[.pointer (some ⟨s, 0, none⟩)] w fun e w' => e = .returned (.int .i64 cs.length) ∧ ∃ q, w' = w.drewN q := by
  obtain ⟨rfl, rfl, rfl, h4, h5, h6, fo, h7⟩ := h
  exact len_any7 h7
theorem new_sx (V : Nat) (hV : V ≤ 100000) (w : World) :
    Calls Tryd.prog 28 #[.int .i64 V] w fun e w' => ∃ (s : Nat) (X : SX), e = .returned (.pointer (some ⟨s, 0, none⟩)) ∧ Sx w' w.heap.size s V [] 0 X ∧ Below w.heap.size w w' := by
  refine (new_any7 V hV w).mono ?_
  rintro e w' ⟨s, m, fb, wb, rfl, h1, h2⟩
  exact ⟨s, _, rfl, ⟨rfl, rfl, rfl, Nat.le_refl _, Nat.le_refl _, Nat.le_refl _, _, h1⟩, h2⟩
end
end Go.Proofs.YtlkgicaajenhaaaDoor

namespace Go.Proofs.YtlkgicaajenhaaaDoor
open Go.RowKit
set_option linter.unusedVariables false
set_option linter.unusedSimpArgs false

theorem Sto.apart_low {W : World} {base b0 c : Nat} {X : SX} {fo : List Bool} {A : Option Addr} {L : List Int} (h : Sto W base X fo) (ho : W.ownsRow b0 3 1 (.slice A L.length c) L.length (L.map (Value.int .i64))) (hl : ∀ g, (Value.slice A L.length c).ownBlock = some g → g < base) : Apart W X b0 A c L :=
  ⟨ho, fun g hg e => by have h1 := (h.fnd.lt g e).1; have h2 := hl g hg; omega⟩
/-- a store that has a formula's clauses -/
def StoreP (V : Nat) (cs : List (List Int)) (w : World) (e : Ending) (w' : World) : Prop :=
  ∃ (base : Nat) (X : SX) (fo : List Bool), e = .returned (.pointer (some ⟨X.s, 0, none⟩)) ∧ w.heap.size ≤ base ∧ Rest7 w' base X fo ∧ Below w.heap.size w w' ∧ X.V = V ∧ X.cs = cs.map normOf ∧ X.ps.length ≤ cs.length ∧ X.added ≤ cs.length ∧ X.tk ≤ cs.length
set_option maxRecDepth 100000 in
set_option maxHeartbeats 1000000 in
theorem store_any07 (V : Nat) (cs : List (List Int)) (vs : List Value) (b0 b1 : Nat) (A : Option Addr) (c : Nat) (w : World) (hV : V ≤ 100000) (hn : cs.length ≤ 1000000) (hl : ∀ d, d ∈ cs → d.length ≤ 1000000 ∧ ∀ x, x ∈ d → Lt7 V x)
    (ho : w.ownsRow b1 34 1 (.slice A cs.length c) cs.length vs) (hr : OwnList w b0 3 vs cs) (hT : Tab7 w) :
    Calls Tryd.prog 12 #[.agg #[.int .i64 V, .slice A cs.length c]] w (StoreP V cs w) := by
  have HO := Lib.hid ho
  have HR := Lib.hid hr
  have HL := Lib.hid hl
  have HT := Lib.hid hT.b
  obtain ⟨n, hnn⟩ : ∃ n, n = cs.length := ⟨_, rfl⟩
  have HN := Lib.hid hnn
  rw [← hnn] at hn ⊢
  obtain ⟨w1, hw1⟩ : ∃ w1, w1 = w.alloc (.cells #[.int .i64 V, .slice A n c] 30) := ⟨_, rfl⟩
  have hB1 : Below w.heap.size w w1 := by rw [hw1]; exact (Below.refl _ _).alloc (Nat.le_refl _) _
  have hs1 : w1.heap.size = w.heap.size + 1 := by rw [hw1]; simp
  have hf1 : Blk w1 w.heap.size 30 #[.int .i64 V, .slice A n c] := by rw [hw1]; exact Blk.new w _ _
  have HB1 := Lib.hid hB1
  have HF1 := Lib.hid hf1
  have HNEW := Lib.hid (new_any7 V hV w1)
  have HW1 := Lib.hid hw1
  clear ho hr hl hT hnn hB1 hf1 hw1
  go_enter Tryd.func12, Tryd.ntmps12
  go_wp2_with (go_at_call 28; rw [← HW1.out]; refine HNEW.out.mono ?_; rintro e2 w2 ⟨s, m, fb, wb, rfl, hrest, hb2⟩; have f1 := (HF1.out.below hb2 (by omega)).cell 1; have HB2 := Lib.hid hb2; have HRE := Lib.hid hrest; clear hrest hb2)
  go_loopg [12] (n + 1) (fun gk i wr => ∃ (k : Nat) (Y : SX) (fy : List Bool), k ≤ n ∧ gk = n - k + 1 ∧ i = .int .i64 k ∧ Hid (Rest7 wr w1.heap.size Y fy) ∧ Hid (Y.s = s ∧ Y.V = V ∧ Y.cs = (cs.take k).map normOf ∧ Y.ps.length ≤ k ∧ Y.added ≤ k ∧ Y.tk ≤ k) ∧ Hid (Below w1.heap.size w1 wr))
  case atStart => exact ⟨0, _, _, by omega, by omega, rfl, HRE, Lib.hid ⟨rfl, rfl, rfl, Nat.le_refl _, Nat.le_refl _, Nat.le_refl _⟩, HB2⟩
  case round =>
    obtain ⟨k, Y, fy, hk, rfl, rfl, HY, HQ, HB⟩ := hrel
    have HBW := Lib.hid (HB1.out.trans (HB.out.mono (by omega)))
    by_cases hlt : k < n
    · obtain ⟨Aj, cj, hvj, hoj⟩ := HR.out.each k (by rw [← HN.out]; exact hlt)
      have hob := own_below HO.out HBW.out fun g hg => (HO.out.lt g hg).2
      have hcell : ∃ g, A = some ⟨g, 0, none⟩ ∧ wr.cell? ⟨g, k, none⟩ = some (.slice Aj (cs.getD k []).length cj) := by
        obtain ⟨g, rfl, _, _⟩ := own_addr hob (by have := HN.out; omega)
        exact ⟨g, rfl, by rw [World.ownsRow.cellAt hob k (by have := HN.out; omega)]; exact hvj⟩
      obtain ⟨g, rfl, hc⟩ := hcell
      have hmem : cs.getD k [] ∈ cs := rows_row (by rw [← HN.out]; exact hlt)
      obtain ⟨hd1, hd2⟩ := HL.out _ hmem
      have htk : cs.take (k + 1) = cs.take k ++ [cs.getD k []] := by
        have h2 : k < cs.length := by rw [← HN.out]; exact hlt
        rw [List.take_succ_eq_append_getElem h2]; simp [List.getD, h2]
      obtain ⟨d, hdd⟩ : ∃ d, d = cs.getD k [] := ⟨_, rfl⟩
      rw [← hdd] at hc hoj hd1 hd2 htk
      obtain ⟨q1, q2, q3, q4, q5, q6⟩ := HQ.out
      have hap : Apart wr Y b0 Aj cj d := HY.out.sto.apart_low (own_below hoj HBW.out fun g hg => (hoj.lt g hg).2) fun g hg => by have := (hoj.lt g hg).2; omega
      have HAD := Lib.hid (add_any7 HY.out hap (fun x hx => by obtain ⟨a1, a2, a3⟩ := hd2 x hx; omega) hd1 ((HT.out.on HBW.out).mono (by omega)) (by omega) (by omega) (by omega))
      have HFO : Hid (foreign7 Y.V d = false) := Lib.hid ((foreign7_yes (by omega)).2 (by rw [q2]; exact hd2))
      rw [q1] at HAD
      have HTK := Lib.hid htk
      clear hvj hoj hob hmem hd2 htk hdd hap q1 q2 q3 q4 q5 q6
      go_wp2_with (go_at_call 25; refine HAD.out.mono ?_; rintro e3 w3 ⟨X', fo', b, rfl, hr3, ht3, hl3, hs3, hb3, hy3, -⟩; obtain rfl := hb3.2 HFO.out; have HR3 := Lib.hid hr3; have HT3 := Lib.hid ht3; have HS3 := Lib.hid hs3; have HY3 := Lib.hid (hy3 rfl); clear hr3 ht3 hl3 hs3 hb3 hy3)
      go_roundg (n - k)
      case measure => omega
      case rel =>
        obtain ⟨q1, q2, q3, q4, q5, q6⟩ := HQ.out
        obtain ⟨p1, p2⟩ := HS3.out
        obtain ⟨r1, r2, r3, r4⟩ := HY3.out
        refine ⟨k + 1, X', fo', by omega, by omega, by go_num, HR3, Lib.hid ⟨p1.trans q1, p2.trans q2, ?_, by omega, by omega, by omega⟩, Lib.hid (HB.out.trans HT3.out.below)⟩
        rw [r1, q3, HTK.out, List.map_append]
        rfl
    · obtain rfl : k = n := by omega
      go_wp2
      go_ret
      obtain ⟨q1, q2, q3, q4, q5, q6⟩ := HQ.out
      rw [HN.out, List.take_length] at q3
      exact ⟨w1.heap.size, Y, fy, by rw [q1]; rfl, by omega, HY.out, HBW.out, q2, q3, by rw [← HN.out]; exact q4, by rw [← HN.out]; exact q5, by rw [← HN.out]; exact q6⟩
end Go.Proofs.YtlkgicaajenhaaaDoor

namespace Go.Proofs.YtlkgicaajenhaaaDoor
open Go.RowKit
set_option linter.unusedVariables false
set_option linter.unusedSimpArgs false

def cs2 : List (List Int) := [[1, 2], [-1, 2]]
theorem norm_a : normOf [1, 2] = [1, 2] := by decide
theorem norm_b : normOf [-1, 2] = [-1, 2] := by decide
theorem fol2_one (x : Int) : Fol cs2 [1] x ↔ x = 1 ∨ x = 2 := by
  constructor
  · intro h
    refine h.least (K := fun x => x = 1 ∨ x = 2) (fun y hy => by simp at hy; exact .inl hy) fun c hc x hx hall => ?_
    simp [cs2] at hc
    rcases hc with rfl | rfl
    · simp at hx; exact hx
    · simp at hx
      rcases hx with rfl | rfl
      · have := hall 2 (by simp) (by decide)
        omega
      · exact .inr rfl
  · rintro (rfl | rfl)
    · exact .given (by simp)
    · exact Fol.closed [-1, 2] (by simp [cs2]) 2 (by simp) fun y hy hne => by
        simp at hy
        rcases hy with rfl | rfl
        · exact .given (by simp)
        · exact absurd rfl hne
theorem clash2_one : ¬ Clash cs2 [1] := by
  rintro (⟨x, h1, h2⟩ | ⟨c, hc, h⟩)
  · rw [fol2_one] at h1 h2; omega
  · simp [cs2] at hc
    rcases hc with rfl | rfl
    · have := h 1 (by simp); rw [fol2_one] at this; omega
    · have := h 2 (by simp); rw [fol2_one] at this; omega
theorem clash2_neg : Clash cs2 [-2] := by
  have h2 : Fol cs2 [-2] (-2) := .given (by simp)
  refine .inr ⟨[-1, 2], by simp [cs2], fun y hy => ?_⟩
  simp at hy
  rcases hy with rfl | rfl
  · exact Fol.closed [1, 2] (by simp [cs2]) 1 (by simp) fun y hy hne => by
      simp at hy
      rcases hy with rfl | rfl
      · exact absurd rfl hne
      · exact h2
  · exact h2
theorem clash2_nil : ¬ Clash cs2 [] := by
  have hno : ∀ x, ¬ Fol cs2 [] x := fun x h => h.least (K := fun _ => False) (fun y hy => by simp at hy) fun c hc x hx hall => by
    simp [cs2] at hc
    rcases hc with rfl | rfl
    · simp at hx
      rcases hx with rfl | rfl
      · exact hall 2 (by simp) (by decide)
      · exact hall 1 (by simp) (by decide)
    · simp at hx
      rcases hx with rfl | rfl
      · exact hall 2 (by simp) (by decide)
      · exact hall (-1) (by simp) (by decide)
  rintro (⟨x, h1, h2⟩ | ⟨c, hc, h⟩)
  · exact hno _ h1
  · simp [cs2] at hc
    rcases hc with rfl | rfl
    · exact hno _ (h 1 (by simp))
    · exact hno _ (h 2 (by simp))
theorem told2_one {r : List Int} {ok : Bool} (h : Told cs2 [1] r ok) (hr : Rising r) : ok = true ∧ r = [1, 2] := by
  have hok : ok = true := by
    cases hk : ok with
    | true => rfl
    | false => exact absurd (h.no hk).1 clash2_one
  refine ⟨hok, rising_unique hr (by simp [Rising, litIndex]) fun y => ?_⟩
  rw [(h.yes hok).2 y, fol2_one]
  simp
theorem told2_neg {r : List Int} {ok : Bool} (h : Told cs2 [-2] r ok) : ok = false ∧ r = [] := by
  have hok : ok = false := by
    cases hk : ok with
    | false => rfl
    | true => exact absurd clash2_neg (h.yes hk).1
  exact ⟨hok, (h.no hok).2⟩
set_option maxRecDepth 100000 in
set_option maxHeartbeats 1000000 in
theorem fit07_any (w : World) (hT : Tab7 w) : Calls Tryd.prog 9 #[] w fun e w' => e = .returned (.bool true) ∧ Below w.heap.size w w' := by
  have HT := Lib.hid hT.b
  clear hT
  go_enter Tryd.func9, Tryd.ntmps9
  go_wp2_with fail
  refine (new_sx 2 (by omega) w).mono ?_
  rintro e w1 ⟨s, X1, rfl, hs1, hb1⟩
  have HA1 : Hid (Apart (w1.alloc (.cells #[.int .i64 1, .int .i64 2] 3)) X1 w1.heap.size (some ⟨w1.heap.size, 0, none⟩) 2 [1, 2]) := Lib.hid (hs1.apart_new [1, 2] (by decide))
  have HAD1 := Lib.hid (add_sx (hs1.below ((Below.refl _ _).alloc (Nat.le_refl _) _)) HA1.out (fun x hx => by simp at hx; rcases hx with rfl | rfl <;> exact ⟨by omega, by omega, by omega⟩) (by decide) (by omega) ((HT.out.on hb1).on ((Below.refl _ _).alloc hb1.size _)))
  have HB1 := Lib.hid (hb1.alloc (by have := hb1.size; omega) (.cells #[.int .i64 1, .int .i64 2] 3))
  clear hs1 hb1
  go_wp2_with fail
  refine HAD1.out.mono ?_
  rintro e w2 ⟨X2, rfl, hs2, ht2, hl2⟩
  have HB2 := Lib.hid (HB1.out.trans ht2.below)
  have HA2 : Hid (Apart (w2.alloc (.cells #[.int .i64 (-1), .int .i64 2] 3)) X2 w2.heap.size (some ⟨w2.heap.size, 0, none⟩) 2 [-1, 2]) := Lib.hid (hs2.apart_new [-1, 2] (by decide))
  have hbl2 : Below w.heap.size w (w2.alloc (.cells #[.int .i64 (-1), .int .i64 2] 3)) := HB2.out.alloc (by have := HB2.out.size; omega) _
  have hsl2 := hs2.below ((Below.refl w2.heap.size w2).alloc (Nat.le_refl _) (.cells #[.int .i64 (-1), .int .i64 2] 3))
  have HBL2 := Lib.hid hbl2
  have HAD2 := Lib.hid (add_sx hsl2 HA2.out (fun x hx => by simp at hx; rcases hx with rfl | rfl <;> exact ⟨by omega, by omega, by omega⟩) (by decide) (by omega) (HT.out.on hbl2))
  clear hs2 ht2 hl2 hbl2 hsl2
  go_wp2_with fail
  refine HAD2.out.mono ?_
  rintro e w3 ⟨X3, rfl, hs3, ht3, hl3⟩
  have HB3 := Lib.hid (HBL2.out.trans ht3.below)
  have HA3 : Hid (Apart (w3.alloc (.cells #[.int .i64 3] 3)) X3 w3.heap.size (some ⟨w3.heap.size, 0, none⟩) 1 [3]) := Lib.hid (hs3.apart_new [3] (by decide))
  have hbl3 : Below w.heap.size w (w3.alloc (.cells #[.int .i64 3] 3)) := HB3.out.alloc (by have := HB3.out.size; omega) _
  have hsl3 := hs3.below ((Below.refl w3.heap.size w3).alloc (Nat.le_refl _) (.cells #[.int .i64 3] 3))
  have HBL3 := Lib.hid hbl3
  have HAD3 := Lib.hid (add_sx_no hsl3 HA3.out (fun x hx => by simp at hx; subst hx; omega) ⟨3, by simp, fun h => by obtain ⟨_, _, h3⟩ := h; omega⟩ (by decide) (by omega) (HT.out.on hbl3))
  clear hs3 ht3 hl3 hbl3 hsl3
  go_wp2_with fail
  refine HAD3.out.mono ?_
  rintro e w4 ⟨rfl, hs4, ht4⟩
  have HB4 := Lib.hid (HBL3.out.trans ht4.below)
  have hcs : (([] ++ [normOf [1, 2]]) ++ [normOf [-1, 2]] : List (List Int)) = cs2 := by rw [norm_a, norm_b]; rfl
  rw [hcs] at hs4
  have HA4 : Hid (Apart (w4.alloc (.cells #[.int .i64 (-2)] 3)) X3 w4.heap.size (some ⟨w4.heap.size, 0, none⟩) 1 [-2]) := Lib.hid (hs4.apart_new [-2] (by decide))
  have hbl4 : Below w.heap.size w (w4.alloc (.cells #[.int .i64 (-2)] 3)) := HB4.out.alloc (by have := HB4.out.size; omega) _
  have hsl4 := hs4.below ((Below.refl w4.heap.size w4).alloc (Nat.le_refl _) (.cells #[.int .i64 (-2)] 3))
  have HBL4 := Lib.hid hbl4
  have HF4 := Lib.hid (follow_sx hsl4 HA4.out (fun x hx => by simp at hx; subst hx; exact ⟨by omega, by omega, by omega⟩) (by decide))
  clear hs4 ht4 hcs hbl4 hsl4
  go_wp2_with fail
  refine HF4.out.mono ?_
  rintro e w5 ⟨X5, ok, r, A5, c5, rfl, hs5, ht5, hl5, hr5, hap5, htold, hris, hlt⟩
  obtain ⟨rfl, rfl⟩ := told2_neg htold
  have HB5 := Lib.hid (HBL4.out.trans ht5.below)
  have HA5 : Hid (Apart (w5.alloc (.cells #[.int .i64 1] 3)) X5 w5.heap.size (some ⟨w5.heap.size, 0, none⟩) 1 [1]) := Lib.hid (hs5.apart_new [1] (by decide))
  have hbl5 : Below w.heap.size w (w5.alloc (.cells #[.int .i64 1] 3)) := HB5.out.alloc (by have := HB5.out.size; omega) _
  have hsl5 := hs5.below ((Below.refl w5.heap.size w5).alloc (Nat.le_refl _) (.cells #[.int .i64 1] 3))
  have HBL5 := Lib.hid hbl5
  have HF5 := Lib.hid (follow_sx hsl5 HA5.out (fun x hx => by simp at hx; subst hx; exact ⟨by omega, by omega, by omega⟩) (by decide))
  clear hs5 ht5 hl5 hr5 hap5 htold hris hlt hbl5 hsl5
  go_wp2_with fail
  refine HF5.out.mono ?_
  rintro e w6 ⟨X6, ok, r, A6, c6, rfl, hs6, ht6, hl6, hr6, hap6, htold, hris, hlt⟩
  obtain ⟨rfl, rfl⟩ := told2_one htold hris
  have HB6 := Lib.hid (HBL5.out.trans ht6.below)
  obtain ⟨g6, rfl, m0⟩ := hap6.cell (k := 0) (by decide)
  obtain ⟨g6', hg6, m1⟩ := hap6.cell (k := 1) (by decide)
  injection hg6 with hg6
  injection hg6 with hg6
  subst hg6
  have m0' : w6.cell? ⟨g6, 0, none⟩ = some (.int .i64 1) := m0
  have m1' : w6.cell? ⟨g6, 1, none⟩ = some (.int .i64 2) := m1
  clear m0 m1
  have HA6 : Hid (Apart (w6.alloc (.cells #[.int .i64 2] 3)) X6 w6.heap.size (some ⟨w6.heap.size, 0, none⟩) 1 [2]) := Lib.hid (hs6.apart_new [2] (by decide))
  have hbl6 : Below w.heap.size w (w6.alloc (.cells #[.int .i64 2] 3)) := HB6.out.alloc (by have := HB6.out.size; omega) _
  have hsl6 := hs6.below ((Below.refl w6.heap.size w6).alloc (Nat.le_refl _) (.cells #[.int .i64 2] 3))
  have HBL6 := Lib.hid hbl6
  have HI6 := Lib.hid (implied_sx hsl6 HA6.out (fun x hx => by simp at hx; subst hx; exact ⟨by omega, by omega, by omega⟩) (by decide))
  clear hs6 ht6 hl6 hr6 hap6 htold hris hlt hbl6 hsl6
  go_wp2_with fail
  refine HI6.out.mono ?_
  rintro e w7 ⟨X7, b, rfl, hs7, ht7, hl7, hb7⟩
  obtain rfl : b = true := hb7.2 (by simp only [negs, List.map_cons, List.map_nil]; exact clash2_neg)
  have HB7 := Lib.hid (HBL6.out.trans ht7.below)
  have HI7 := Lib.hid (implied_sx (b0 := 0) (A := none) (c := 0) (L := []) hs7 apart_nil (fun x hx => by simp at hx) (by decide))
  clear hs7 ht7 hl7 hb7 m0' m1'
  go_wp2_with fail
  refine HI7.out.mono ?_
  rintro e w8 ⟨X8, b, rfl, hs8, ht8, hl8, hb8⟩
  obtain rfl : b = false := by
    cases b with
    | false => rfl
    | true => exact absurd (hb8.1 rfl) clash2_nil
  have HB8 := Lib.hid (HB7.out.trans ht8.below)
  have HL8 := Lib.hid (len_sx hs8)
  clear hs8 ht8 hl8 hb8
  go_wp2_with fail
  refine HL8.out.mono ?_
  rintro e w9 ⟨rfl, q, rfl⟩
  have h2 : ((cs2.length : Nat) : Int) = 2 := by decide
  go_wp2
  go_ret
  exact ⟨rfl, below_drewN HB8.out q⟩
end Go.Proofs.YtlkgicaajenhaaaDoor

namespace Go.Proofs.YtlkgicaajenhaaaDoor
open Go.RowKit
set_option linter.unusedVariables false
set_option linter.unusedSimpArgs false

theorem store_sx (V : Nat) (cs : List (List Int)) (vs : List Value) (b0 b1 : Nat) (A : Option Addr) (c : Nat) (w : World) (hV : V ≤ 100000) (hn : cs.length ≤ 1000000) (hl : ∀ d, d ∈ cs → d.length ≤ 1000000 ∧ ∀ x, x ∈ d → Lt7 V x)
    (ho : w.ownsRow b1 34 1 (.slice A cs.length c) cs.length vs) (hr : OwnList w b0 3 vs cs) (hT : Tab7 w) :
    Calls Tryd.prog 12 #[.agg #[.int .i64 V, .slice A cs.length c]] w fun e w' => ∃ (base s : Nat) (X : SX), e = .returned (.pointer (some ⟨s, 0, none⟩)) ∧ w.heap.size ≤ base ∧ Sx w' base s V (cs.map normOf) cs.length X ∧ Below w.heap.size w w' := by
  refine (store_any07 V cs vs b0 b1 A c w hV hn hl ho hr hT).mono ?_
  rintro e w' ⟨base, X, fo, rfl, h1, h2, h3, h4, h5, h6, h7, h8⟩
  exact ⟨base, X.s, X, rfl, h1, ⟨rfl, h4, h5, h6, h7, h8, fo, h2⟩, h3⟩
/-- clauses in normal form are alike -/
theorem alike_norm (cs : List (List Int)) : Alike cs (cs.map normOf) := by
  refine ⟨fun c hc => ⟨normOf c, List.mem_map_of_mem hc, fun y => mem_normOf.symm⟩, fun d hd => ?_⟩
  obtain ⟨c, hc, rfl⟩ := List.mem_map.1 hd
  exact ⟨c, hc, fun y => mem_normOf.symm⟩
theorem rows_light7 {nss : List (List Int)} {k : Nat} (h : light nss k = true) (hk : k ≤ 1000) : nss.length ≤ 1099511627776 ∧ ∀ j, (nss.getD j []).length ≤ 1099511627776 := by
  obtain ⟨h1, h2⟩ := light_iff.1 h
  refine ⟨by omega, fun j => ?_⟩
  by_cases hj : j < nss.length
  · have h3 := litCount_take hj
    have h4 := litCount_take_le nss (j + 1)
    omega
  · simp [List.getD, List.getElem?_eq_none (Nat.le_of_not_lt hj)]
/-- few clauses, of few literals each, all of F variables -/
structure Form7 (F : Nat) (cs : List (List Int)) : Prop where
  few : cs.length ≤ 1000
  each : ∀ d, d ∈ cs → d.length ≤ 100 ∧ ∀ x, x ∈ d → Lt7 F x
theorem form7_raw {F k width : Nat} {nss : List (List Int)} (h : light nss k = true) (hk : k ≤ 1000) (hw : width ≤ 100) : Form7 F (rawForm F width nss) := by
  obtain ⟨h1, h2⟩ := light_iff.1 h
  refine ⟨by rw [rawForm_len]; omega, fun d hd => ?_⟩
  obtain ⟨c, _, rfl⟩ := List.mem_map.1 hd
  refine ⟨Nat.le_trans (rawClause_len F width c).2 hw, fun x hx => ?_⟩
  obtain ⟨_, a, b, e⟩ := rawClause_bd hx
  exact ⟨a, b, e⟩
section
variable {F : Nat} {cs : List (List Int)}
theorem Form7.flat (h : Form7 F cs) : cs.flatten.length ≤ 100000 := by
  have : ∀ ds : List (List Int), (∀ d, d ∈ ds → d.length ≤ 100) → ds.flatten.length ≤ 100 * ds.length := by
    intro ds
    induction ds with
    | nil => intro _; simp
    | cons d r ih =>
      intro hd
      have h1 := hd d (by simp)
      have h2 := ih fun e he => hd e (by simp [he])
      simp only [List.flatten_cons, List.length_append, List.length_cons]
      omega
  have h1 := this cs fun d hd => (h.each d hd).1
  have h2 := h.few
  omega
theorem Form7.mid (h : Form7 F cs) (hF : F ≤ 1000) : ∀ d, d ∈ cs → Mid d := fun d hd => by
  obtain ⟨a, b⟩ := h.each d hd
  exact ⟨by omega, fun x hx => by obtain ⟨c1, c2, c3⟩ := b x hx; omega⟩
theorem Form7.big (h : Form7 F cs) : ∀ d, d ∈ cs → d.length ≤ 1000000 ∧ ∀ x, x ∈ d → Lt7 F x := fun d hd => by
  obtain ⟨a, b⟩ := h.each d hd
  exact ⟨by omega, b⟩
end
theorem lits07_lt {F : Nat} {ns : List Int} : ∀ x, x ∈ lits07 F ns → Lt7 F x := fun x hx => lits07_bd hx
theorem mid_lt7 {F : Nat} {L : List Int} (hF : F ≤ 1000) (hl : L.length ≤ 1000000000) (h : ∀ x, x ∈ L → Lt7 F x) : Mid L := ⟨by omega, fun x hx => by obtain ⟨a, b, c⟩ := h x hx; omega⟩
end Go.Proofs.YtlkgicaajenhaaaDoor
