/- Is a literal of some step not of so many variables? The checker over a list of steps. Bytes that come in, as a string, and how long a proof's bytes are. The checker over a proof's text, and over its bytes. The checker over a proof's bytes. The law's example. -/
import Derived.Test.YthcpfaahcncfjaaGreatDoorLit
import Derived.Test.YthcpfaahcncfjaaGreatDoorDratMem
import Derived.Deep.LoopGhost
import Derived.WalkSpells
import Derived.Test.YthcpfaahcncfjaaGreatDoorByMay08
import Derived.Test.YthcpfaahcncfjaaGreatDoorRemRef7
import Derived.Test.YthcpfaahcncfjaaGreatDoorParseTxt
import Derived.Laws.IdiomStrings
import Derived.Lib.BufferRead
import Derived.Test.YthcpfaahcncfjaaGreatDoorSound8
namespace Go.Proofs.YthcpfaahcncfjaaGreatDoor
open Go.RowKit
set_option linter.unusedVariables false
set_option linter.unusedSimpArgs false

/-- the first that is none -/
def badBy {α : Type} (p : α → Bool) (xs : List α) : Int := if xs.all p then -1 else (xs.findIdx fun l => !p l : Nat)
section
variable {α : Type} {p : α → Bool} {xs : List α} {k : Nat} {d : α}
theorem badBy_hit (hk : k < xs.length) (h : ∀ l ∈ xs.take k, p l = true) (hb : p (xs.getD k d) = false) : badBy p xs = k := by
  have e : xs.getD k d = xs[k] := by simp only [List.getD, List.getElem?_eq_getElem hk, Option.getD_some]
  rw [e] at hb
  have ha : xs.all p = false := by
    rw [Bool.eq_false_iff]; intro h2
    rw [List.all_eq_true.1 h2 _ (List.getElem_mem hk)] at hb; cases hb
  unfold badBy
  rw [ha]
  simp only [Bool.false_eq_true, if_false]
  congr 1
  rw [List.findIdx_eq hk]
  refine ⟨by rw [hb]; rfl, fun j hj => ?_⟩
  have := h xs[j] (by rw [List.mem_take_iff_getElem]; exact ⟨j, by omega, rfl⟩)
  rw [this]; rfl
theorem badBy_none (h : ∀ l ∈ xs, p l = true) : badBy p xs = -1 := by
  unfold badBy; rw [if_pos (List.all_eq_true.2 h)]
theorem badBy_ge (p : α → Bool) (xs : List α) : decide (0 ≤ badBy p xs) = !xs.all p := by
  unfold badBy
  by_cases h : xs.all p
  · rw [if_pos h, h]; rfl
  · rw [if_neg h]; simp at h ⊢; exact h
theorem badBy_bd (p : α → Bool) (xs : List α) (h : xs.length ≤ 1099511627776) : -1 ≤ badBy p xs ∧ badBy p xs ≤ 1099511627776 := by
  unfold badBy
  split
  · omega
  · have := List.findIdx_le_length (p := fun l => !p l) (xs := xs); omega
end
def Wide8 (xs : List Int) : Prop := xs.length ≤ 1000000 ∧ ∀ k, -9223372036854775808 ≤ xs.getD k 0 ∧ xs.getD k 0 ≤ 9223372036854775807
/-- a literal of so many variables -/
def rightV (V : Nat) (l : Int) : Bool := litRight l V

theorem fl1_any (l : Int) (V g : Nat) (hV : V ≤ 100000) (w : World) (h1 : -9223372036854775808 ≤ l) (h2 : l ≤ 9223372036854775807) (hg : w.cell? ⟨g, 0, none⟩ = some (.int .i64 V)) :
    Calls Tryz.prog 56 #[.int .i64 l, .pointer (some ⟨g, 0, none⟩)] w fun e w' => e = .returned (.bool (!rightV V l)) ∧ w = w' := by
  have R := Lib.hid (right_any l V w h1 h2 (by omega) (by omega))
  have e : rightV V l = litRight l V := rfl
  rw [e]
  clear h1 h2 e
  obtain ⟨q, hq⟩ : ∃ q, litRight l V = q := ⟨_, rfl⟩
  rw [hq] at R ⊢
  clear hq
  go_enter Tryz.func56, Tryz.ntmps56
  go_wp2_with fail
  refine R.out.mono ?_
  rintro e w' ⟨rfl, rfl⟩
  go_wp2
  go_ret
  exact ⟨rfl, rfl⟩

set_option maxRecDepth 100000 in
theorem findex_any (xs : List Int) (V g : Nat) (hV : V ≤ 100000) (B c : Nat) (A : Option Addr) (w : World) (h : Ints w B A xs) (hx : Wide8 xs) (hg : w.cell? ⟨g, 0, none⟩ = some (.int .i64 V)) :
    Calls Tryz.prog 71 #[.slice A xs.length c, .func (.func 56) #[] #[.pointer (some ⟨g, 0, none⟩)]] w fun e w' => e = .returned (.int .i64 (badBy (rightV V) xs)) ∧ w = w' := by
  have H := Lib.hid h
  have hl := hx.1
  have HX := Lib.hid hx.2
  have HG := Lib.hid hg
  clear h hx hg
  go_enter Tryz.func71, Tryz.ntmps71
  go_wp2
  go_loopg [8] (xs.length + 1) (fun g i w' => ∃ k : Nat, w = w' ∧ k ≤ xs.length ∧ g = xs.length - k + 1 ∧ i = .int .i64 k ∧ ∀ l ∈ xs.take k, rightV V l = true)
  case atStart => exact ⟨0, rfl, by omega, by omega, rfl, by simp⟩
  case round =>
    obtain ⟨k, rfl, hk, rfl, rfl, hs⟩ := hrel
    have HS := Lib.hid hs
    clear hs
    by_cases hlt : k < xs.length
    · obtain ⟨b, off, rfl, _, hcell⟩ := H.out.at_ hlt
      obtain ⟨hb1, hb2⟩ := HX.out k
      have hhit := fun h => badBy_hit (d := 0) hlt HS.out h
      have htk : xs.take (k + 1) = xs.take k ++ [xs.getD k 0] := by rw [List.take_succ_eq_append_getElem hlt]; simp [List.getD, hlt]
      obtain ⟨l, hl'⟩ : ∃ l, l = xs.getD k 0 := ⟨_, rfl⟩
      rw [← hl'] at hcell hb1 hb2 hhit htk
      clear hl'
      have HTK := Lib.hid htk
      have HH := Lib.hid hhit
      have LA := Lib.hid (fl1_any l V g hV w hb1 hb2 HG.out)
      clear htk hhit
      rcases hlit : rightV V l with _ | _
      · rw [hlit] at LA
        have HLIT := Lib.hid hlit
        clear hlit
        go_wp2_with (go_at_call 56; refine LA.out.mono ?_; rintro e w' ⟨rfl, rfl⟩)
        go_ret
        exact ⟨by rw [HH.out HLIT.out]; rfl, rfl⟩
      · rw [hlit] at LA
        have HLIT := Lib.hid hlit
        clear hlit
        go_wp2_with (go_at_call 56; refine LA.out.mono ?_; rintro e w' ⟨rfl, rfl⟩)
        go_roundg (xs.length - k)
        case measure => omega
        case rel =>
          refine ⟨k + 1, rfl, by omega, by omega, by go_num, ?_⟩
          rw [HTK.out]
          intro y hy
          rcases List.mem_append.1 hy with h | h
          · exact HS.out y h
          · rw [List.mem_singleton.1 h]; exact HLIT.out
    · have htk : xs.take k = xs := List.take_of_length_le (by omega)
      have HTK := Lib.hid htk
      clear htk
      go_wp2
      go_ret
      exact ⟨by rw [badBy_none (by have := HS.out; rw [HTK.out] at this; exact this)]; rfl, rfl⟩

theorem fcontains_any (xs : List Int) (V g : Nat) (hV : V ≤ 100000) (B c : Nat) (A : Option Addr) (w : World) (h : Ints w B A xs) (hx : Wide8 xs) (hg : w.cell? ⟨g, 0, none⟩ = some (.int .i64 V)) :
    Calls Tryz.prog 55 #[.slice A xs.length c, .func (.func 56) #[] #[.pointer (some ⟨g, 0, none⟩)]] w fun e w' => e = .returned (.bool (!xs.all (rightV V))) ∧ w = w' := by
  have IA := Lib.hid (findex_any xs V g hV B c A w h hx hg)
  have hge := badBy_ge (rightV V) xs
  have hbd := badBy_bd (rightV V) xs (by have := hx.1; omega)
  generalize badBy (rightV V) xs = q at IA hge hbd
  clear h hx hg
  rcases hall : xs.all (rightV V) with _ | _
  all_goals
    rw [hall] at hge
    clear hall
    go_enter Tryz.func55, Tryz.ntmps55
    go_wp2_with (go_at_call 71; refine IA.out.mono ?_; rintro e w' ⟨rfl, rfl⟩)
    go_ret
    exact ⟨rfl, rfl⟩

theorem fl2_any (d : Bool) (xs : List Int) (V g : Nat) (hV : V ≤ 100000) (B c : Nat) (A : Option Addr) (w : World) (h : Ints w B A xs) (hB : B ≤ w.heap.size) (hx : Wide8 xs) (hp : w.cell? ⟨g, 0, none⟩ = some (.int .i64 V)) :
    Calls Tryz.prog 54 #[.agg #[.bool d, .slice A xs.length c], .pointer (some ⟨g, 0, none⟩)] w fun e w' => e = .returned (.bool (!xs.all (rightV V))) ∧ Below w.heap.size w w' := by
  have hlt := World.block_lt_of_cell? w _ hp
  have hlt' : g < w.heap.size := by simpa using hlt
  have hp2 : (w.alloc (.cells #[.bool d, .slice A xs.length c] 60)).cell? ⟨g, 0, none⟩ = some (.int .i64 V) := (World.cell?_alloc_lt w _ ⟨g, 0, none⟩ (by simpa using hlt')).trans hp
  have CA := Lib.hid (fcontains_any xs V g hV B c A _ (Cells.alloc h hB (.cells #[.bool d, .slice A xs.length c] 60)) hx hp2)
  generalize xs.all (rightV V) = q at CA
  clear h hx hlt
  go_enter Tryz.func54, Tryz.ntmps54
  go_wp2_with (go_at_call 55; refine CA.out.mono ?_; rintro e w' ⟨rfl, rfl⟩)
  go_ret
  exact ⟨rfl, (Below.refl _ _).alloc (Nat.le_refl _) _⟩

/-- are all literals of all steps of so many variables? -/
def rightP (V : Nat) (s : Stp) : Bool := s.2.all (rightV V)
def Wide8s (ps : List Stp) : Prop := ps.length ≤ 1000000 ∧ ∀ k, Wide8 (ps.getD k stp0).2

set_option maxRecDepth 100000 in
theorem findexs_any (ps : List Stp) (V g : Nat) (hV : V ≤ 100000) (B c : Nat) (A : Option Addr) (w : World) (h : Steps w B A ps) (hB : B ≤ w.heap.size) (hx : Wide8s ps) (hp : w.cell? ⟨g, 0, none⟩ = some (.int .i64 V)) :
    Calls Tryz.prog 79 #[.slice A ps.length c, .func (.func 54) #[] #[.pointer (some ⟨g, 0, none⟩)]] w fun e w' => e = .returned (.int .i64 (badBy (rightP V) ps)) ∧ Below w.heap.size w w' := by
  have H := Lib.hid h
  have hl := hx.1
  have HX := Lib.hid hx.2
  have HP := Lib.hid hp
  have hlt' : g < w.heap.size := by simpa using World.block_lt_of_cell? w _ hp
  clear h hx hp
  go_enter Tryz.func79, Tryz.ntmps79
  go_wp2
  go_loopg [8] (ps.length + 1) (fun g i w' => ∃ k : Nat, Below w.heap.size w w' ∧ k ≤ ps.length ∧ g = ps.length - k + 1 ∧ i = .int .i64 k ∧ ∀ l ∈ ps.take k, rightP V l = true)
  case atStart => exact ⟨0, Below.refl _ _, by omega, by omega, rfl, by simp⟩
  case round =>
    obtain ⟨k, hb, hk, rfl, rfl, hs⟩ := hrel
    obtain ⟨wo, rfl⟩ : ∃ wo : World, wo = wr := ⟨_, rfl⟩
    have HS := Lib.hid hs
    have HB0 := Lib.hid hb
    have hsz := hb.size
    clear hs hb
    by_cases hlt : k < ps.length
    · obtain ⟨b, off, Ak, ck, rfl, hbB, h1, h2, h3⟩ := (H.out.below (HB0.out.mono hB)).at_ hlt
      have hw := HX.out k
      have hhit := fun h => badBy_hit (d := stp0) hlt HS.out h
      have htk : ps.take (k + 1) = ps.take k ++ [ps.getD k stp0] := by rw [List.take_succ_eq_append_getElem hlt]; simp [List.getD, hlt]
      obtain ⟨⟨d, xs⟩, hs'⟩ : ∃ s, s = ps.getD k stp0 := ⟨_, rfl⟩
      rw [← hs'] at h1 h2 h3 hw hhit htk
      clear hs'
      have HTK := Lib.hid htk
      have HH := Lib.hid hhit
      have LA := Lib.hid (fl2_any d xs V g hV B ck Ak wo h3 (by omega) hw ((HB0.out.cell (p := ⟨g, 0, none⟩) (by simpa using hlt')).trans HP.out))
      have hst : rightP V (d, xs) = xs.all (rightV V) := rfl
      have HST := Lib.hid hst
      clear htk hhit h3 hw hst
      rcases hlit : xs.all (rightV V) with _ | _
      · rw [hlit] at LA
        have HLIT := Lib.hid hlit
        clear hlit
        go_wp2_with (go_at_call 54; refine LA.out.mono ?_; rintro e w2 ⟨rfl, hb2⟩; have HB2 := Lib.hid hb2; clear hb2)
        go_ret
        exact ⟨by rw [HH.out (by rw [HST.out]; exact HLIT.out)]; rfl, HB0.out.trans (HB2.out.mono hsz)⟩
      · rw [hlit] at LA
        have HLIT := Lib.hid hlit
        clear hlit
        go_wp2_with (go_at_call 54; refine LA.out.mono ?_; rintro e w2 ⟨rfl, hb2⟩; have HB2 := Lib.hid hb2; clear hb2)
        go_roundg (ps.length - k)
        case measure => omega
        case rel =>
          refine ⟨k + 1, HB0.out.trans (HB2.out.mono hsz), by omega, by omega, by go_num, ?_⟩
          rw [HTK.out]
          intro y hy
          rcases List.mem_append.1 hy with h | h
          · exact HS.out y h
          · rw [List.mem_singleton.1 h, HST.out]; exact HLIT.out
    · have htk : ps.take k = ps := List.take_of_length_le (by omega)
      have HTK := Lib.hid htk
      clear htk
      go_wp2
      go_ret
      exact ⟨by rw [badBy_none (by have := HS.out; rw [HTK.out] at this; exact this)]; rfl, HB0.out⟩

theorem fcontainss_any (ps : List Stp) (V g : Nat) (hV : V ≤ 100000) (B c : Nat) (A : Option Addr) (w : World) (h : Steps w B A ps) (hB : B ≤ w.heap.size) (hx : Wide8s ps) (hp : w.cell? ⟨g, 0, none⟩ = some (.int .i64 V)) :
    Calls Tryz.prog 53 #[.slice A ps.length c, .func (.func 54) #[] #[.pointer (some ⟨g, 0, none⟩)]] w fun e w' => e = .returned (.bool (!ps.all (rightP V))) ∧ Below w.heap.size w w' := by
  have IA := Lib.hid (findexs_any ps V g hV B c A w h hB hx hp)
  have hge := badBy_ge (rightP V) ps
  have hbd := badBy_bd (rightP V) ps (by have := hx.1; omega)
  generalize badBy (rightP V) ps = q at IA hge hbd
  clear h hx hp
  rcases hall : ps.all (rightP V) with _ | _
  all_goals
    rw [hall] at hge
    clear hall
    go_enter Tryz.func53, Tryz.ntmps53
    go_wp2_with (go_at_call 79; refine IA.out.mono ?_; rintro e w' ⟨rfl, hb⟩; have HB2 := Lib.hid hb; clear hb)
    go_ret
    exact ⟨rfl, HB2.out⟩

theorem foreign8_any (ps : List Stp) (V : Nat) (hV : V ≤ 100000) (B c : Nat) (A : Option Addr) (w : World) (h : Steps w B A ps) (hB : B ≤ w.heap.size) (hx : Wide8s ps) :
    Calls Tryz.prog 31 #[.slice A ps.length c, .int .i64 V] w fun e w' => e = .returned (.bool (!ps.all (rightP V))) ∧ Below w.heap.size w w' := by
  have hnew := Blk.new w 3 #[.int .i64 V]
  have hc : (w.alloc (.cells #[.int .i64 V] 3)).cell? ⟨w.heap.size, 0, none⟩ = some (.int .i64 V) := hnew.cell 0
  have CA := Lib.hid (fcontainss_any ps V w.heap.size hV B c A _ (h.alloc hB (.cells #[.int .i64 V] 3)) (by simp; omega) hx hc)
  clear h hx hnew hc
  rcases hall : ps.all (rightP V) with _ | _
  all_goals
    rw [hall] at CA
    clear hall
    simp only [Bool.not_false, Bool.not_true] at CA
    go_enter Tryz.func31, Tryz.ntmps31
    go_wp2_with (go_at_call 53; refine CA.out.mono ?_; rintro e w' ⟨rfl, hb⟩; have HB2 := Lib.hid hb; clear hb)
    go_ret
    exact ⟨rfl, ((Below.refl _ _).alloc (Nat.le_refl _) _).trans (HB2.out.mono (by simp))⟩
end Go.Proofs.YthcpfaahcncfjaaGreatDoor

namespace Go.Proofs.YthcpfaahcncfjaaGreatDoor
open Go.RowKit
set_option linter.unusedVariables false
set_option linter.unusedSimpArgs false

/-- steps that lie somewhere below; what one adds is a whole row -/
def OSteps (w : World) (B : Nat) (A : Option Addr) (ps : List Stp) : Prop :=
  0 < ps.length → ∃ b off, A = some ⟨b, off, none⟩ ∧ b < B ∧ ∀ j, j < ps.length → ∃ Aj cj, w.cell? ⟨b, off + j * 2, none⟩ = some (.bool (ps.getD j stp0).1) ∧
    w.cell? ⟨b, off + j * 2 + 1, none⟩ = some (.slice Aj (ps.getD j stp0).2.length cj) ∧ Ints w B Aj (ps.getD j stp0).2 ∧
    ((ps.getD j stp0).1 = false → ∃ b0, w.ownsRow b0 3 1 (.slice Aj (ps.getD j stp0).2.length cj) (ps.getD j stp0).2.length ((ps.getD j stp0).2.map (Value.int .i64)) ∧ ∀ g, (Value.slice Aj (ps.getD j stp0).2.length cj).ownBlock = some g → g < B)
theorem OSteps.steps {w : World} {B : Nat} {A : Option Addr} {ps : List Stp} (h : OSteps w B A ps) : Steps w B A ps := fun hn => by
  obtain ⟨b, off, e, hb, hc⟩ := h hn
  exact ⟨b, off, e, hb, fun j hj => by obtain ⟨Aj, cj, h1, h2, h3, _⟩ := hc j hj; exact ⟨Aj, cj, h1, h2, h3⟩⟩
theorem OSteps.below {w w' : World} {B B' : Nat} {A : Option Addr} {ps : List Stp} (h : OSteps w B A ps) (hb : Below B' w w') (hB : B ≤ B') : OSteps w' B A ps := fun hn => by
  obtain ⟨b, off, e, hlt, hc⟩ := h hn
  refine ⟨b, off, e, hlt, fun j hj => ?_⟩
  obtain ⟨Aj, cj, h1, h2, h3, h4⟩ := hc j hj
  refine ⟨Aj, cj, (hb.cell (p := ⟨b, _, none⟩) (by show b < _; omega)).trans h1, (hb.cell (p := ⟨b, _, none⟩) (by show b < _; omega)).trans h2, Cells.keep h3 (fun p hp => hb.cell (by omega)), fun hf => ?_⟩
  obtain ⟨b0, ho, hl⟩ := h4 hf
  exact ⟨b0, own_below ho hb fun g hg => Nat.lt_of_lt_of_le (hl g hg) hB, hl⟩

theorem results_cell_tmp {P : Program} {fn : Func} {c t : Tmp} {T : TypeId} (h : fn.results = #[.cell c T, .tmp t]) {tmps : Array Value} {w : World} {v0 v1 : Value} {ad : Addr} (hc : tmps.getD c undef = .pointer (some ad)) (hl : (loadVar T ad).run P w = .ok v0 w) (ht : tmps.getD t undef = v1) : (results fn tmps).run P w = .ok (.tuple #[v0, v1]) w := by
  rw [Array.getD_eq_getD_getElem?] at hc ht
  simp [results, h, hc, hl, ht, asAddr]

theorem load_report8 {g : Nat} {r : Bool} {e b : Int} {w : World} (h : Blk w g 40 #[.bool r, .int .i64 e, .int .i64 b]) : (loadVar 40 ⟨g, 0, none⟩).run Tryz.prog w = .ok (.agg #[.bool r, .int .i64 e, .int .i64 b]) w := by
  have c0 := h.cell 0
  have c1 := h.cell 1
  have c2 := h.cell 2
  simp at c0 c1 c2
  have hu := Tryz.underlying40
  go_simp

/-- what Check answers -/
def ChkAns (V : Nat) (cs : List (List Int)) (ps : List Stp) (w : World) (e : Ending) (w' : World) : Prop :=
  Below w.heap.size w w' ∧ ((ps.all (rightP V) = false ∧ e = .returned (.tuple #[.agg #[.bool false, .int .i64 0, .int .i64 0], .int .i64 1])) ∨
    (ps.all (rightP V) = true ∧ ∃ en bd : Int, Chk (cs.map normOf) 0 ps en bd ∧ e = .returned (.tuple #[.agg #[.bool (decide (en ≠ -1)), .int .i64 en, .int .i64 bd], .int .i64 0])))

theorem may_sx {w : World} {base s V N b0 c : Nat} {cs : List (List Int)} {X : SX} {A : Option Addr} {L : List Int} (h : Sx w base s V cs N X) (hA : Apart w X b0 A c L) (hL : ∀ x, x ∈ L → Lt7 V x) (hn : L.length ≤ 1000000) (hN : N ≤ 1000000) :
    Calls Tryz.prog 26 #[.pointer (some ⟨s, 0, none⟩), .slice A L.length c] w fun e w' => ∃ (X' : SX) (b : Bool), e = .returned (.bool b) ∧ Sx w' base s V cs N X' ∧ Tn base X w w' ∧ Later7 w X X' ∧ (b = true ↔ MayP cs L) := by
  have h' := h
  obtain ⟨rfl, rfl, rfl, h4, h5, h6, fo, h7⟩ := h
  refine (may_any8 h7 hA hL hn (by omega)).mono ?_
  rintro e w' ⟨X', fo', b, rfl, r1, r2, r3, r4, r5⟩
  exact ⟨X', b, rfl, r4.sx h' r1, r2, r3, r5⟩
theorem Sx.own_lt {w : World} {base s V N : Nat} {cs : List (List Int)} {X : SX} (h : Sx w base s V cs N X) : X.fb < w.heap.size ∧ ∀ q, X.fv.ownBlock = some q → q < w.heap.size := by
  obtain ⟨_, _, _, _, _, _, fo, h7⟩ := h
  exact ⟨h7.sto.fol.lt, fun q hq => (h7.sto.fnd.lt q hq).2⟩

theorem rightV_lt {V : Nat} {l : Int} (h : rightV V l = true) : Lt7 V l := by
  have := litRight_iff.1 h
  exact ⟨this.1, this.2.2.2.1, this.2.2.2.2⟩

set_option maxRecDepth 100000 in
set_option maxHeartbeats 4000000 in
theorem check8_any (V : Nat) (cs : List (List Int)) (ps : List Stp) (vs : List Value) (b0 b1 : Nat) (A D : Option Addr) (c d : Nat) (w : World) (hV : V ≤ 100000) (hn : cs.length ≤ 1000) (hl : ∀ d, d ∈ cs → d.length ≤ 1000000 ∧ ∀ x, x ∈ d → Lt7 V x)
    (ho : w.ownsRow b1 55 1 (.slice A cs.length c) cs.length vs) (hr : ORows w w.heap.size b0 vs cs) (hs : OSteps w w.heap.size D ps) (hx : Wide8s ps) (hpl : ps.length ≤ 1000) (hT : Tab7 w) :
    Calls Tryz.prog 16 #[.agg #[.int .i64 V, .slice A cs.length c], .slice D ps.length d] w (ChkAns V cs ps w) := by
  have HO := Lib.hid ho
  have HR := Lib.hid hr
  have HS := Lib.hid hs
  have HX := Lib.hid hx
  have HL := Lib.hid hl
  have HT := Lib.hid hT.b
  obtain ⟨n, hnn⟩ : ∃ n, n = cs.length := ⟨_, rfl⟩
  obtain ⟨N, hNN⟩ : ∃ N, N = ps.length := ⟨_, rfl⟩
  have HN := Lib.hid hnn
  have HNP := Lib.hid hNN
  obtain ⟨w1, hw1⟩ : ∃ w1, w1 = (w.alloc (.cells #[.int .i64 V, .slice A n c] 31)).alloc (.cells #[.bool false, .int .i64 0, .int .i64 0] 40) := ⟨_, rfl⟩
  have hb1 : Below w.heap.size w w1 := by rw [hw1]; exact ((Below.refl _ _).alloc (Nat.le_refl _) _).alloc (by simp) _
  have hs1 : w1.heap.size = w.heap.size + 2 := by rw [hw1]; simp
  have HB1 := Lib.hid hb1
  have HF1 := Lib.hid (show Blk w1 w.heap.size 31 #[.int .i64 V, .slice A n c] by rw [hw1]; exact (Blk.new w _ _).alloc _)
  have HP1 := Lib.hid (show Blk w1 (w.heap.size + 1) 40 #[.bool false, .int .i64 0, .int .i64 0] by rw [hw1]; simpa using Blk.new (w.alloc (.cells #[.int .i64 V, .slice A n c] 31)) 40 #[.bool false, .int .i64 0, .int .i64 0])
  have HFO := Lib.hid (foreign8_any ps V hV w.heap.size d D w1 (hs.below hb1 (Nat.le_refl _)).steps hb1.size hx)
  rw [← hnn] at hn ⊢
  rw [← hNN] at hpl HFO ⊢
  have HW1 := Lib.hid hw1
  clear ho hr hs hx hl hT hb1 hw1 hnn hNN
  go_enter Tryz.func16, Tryz.ntmps16
  go_wp2_with fail
  rw [← HW1.out]
  refine HFO.out.mono ?_
  rintro e w2 ⟨rfl, hb2⟩
  have HB2 := Lib.hid (HB1.out.trans (hb2.mono HB1.out.size))
  have HF2 := Lib.hid (HF1.out.below hb2 HF1.out.lt)
  have HP2 := Lib.hid (HP1.out.below hb2 HP1.out.lt)
  have hs2 := hb2.size
  clear hb2
  rcases hall : ps.all (rightP V) with _ | _
  · have p0 := HP2.out.frozen 0
    have p1 := HP2.out.frozen 1
    have p2 := HP2.out.frozen 2
    have q0 := HP2.out.cell 0
    have q1 := HP2.out.cell 1
    have q2 := HP2.out.cell 2
    simp at p0 p1 p2 q0 q1 q2
    have HALL := Lib.hid hall
    clear hall
    go_wp2
    have HBE := Lib.hid (((HB2.out.setCell (p := ⟨w.heap.size + 1, 0, none⟩) (by simp) (.bool false)).setCell (p := ⟨w.heap.size + 1, 1, none⟩) (by simp) (.int .i64 0)).setCell (p := ⟨w.heap.size + 1, 2, none⟩) (by simp) (.int .i64 0))
    have HPE := Lib.hid (((HP2.out.set_ 0 (.bool false)).set_ 1 (.int .i64 0)).set_ 2 (.int .i64 0))
    exact bodyPost_ret (results_cell_tmp rfl rfl (load_report8 (by simpa using HPE.out)) rfl) rfl ⟨HBE.out, .inl ⟨HALL.out, rfl⟩⟩
  · have f0 := HF2.out.cell 0
    have f1 := HF2.out.cell 1
    simp at f0 f1
    have hRT : ∀ k, k < N → ∀ x, x ∈ (ps.getD k stp0).2 → Lt7 V x := fun k hk x hx => by
      have hk2 : k < ps.length := by rw [← HNP.out]; exact hk
      have hm : ps.getD k stp0 ∈ ps := by simp [List.getD, hk2]
      exact rightV_lt (List.all_eq_true.1 (List.all_eq_true.1 hall _ hm) x hx)
    have HRT := Lib.hid hRT
    have HALL := Lib.hid hall
    have HST : Hid (Calls Tryz.prog 32 #[.agg #[.int .i64 V, .slice A n c]] w2 fun e w' => ∃ (s : Nat) (X : SX), e = .returned (.pointer (some ⟨s, 0, none⟩)) ∧ Sx w' (w2.heap.size + 1) s V (cs.map normOf) n X ∧ Below w2.heap.size w2 w') := Lib.hid (by
      have := store8_any V cs vs b0 b1 A c w2 hV (by have := HN.out; omega) HL.out (own_below HO.out HB2.out fun g hg => (HO.out.lt g hg).2) (fun j hj => by obtain ⟨Aj, cj, e, ho, hl⟩ := (HR.out.below HB2.out (Nat.le_refl _)) j hj; exact ⟨Aj, cj, e, ho, fun g hg => Nat.lt_of_lt_of_le (hl g hg) HB2.out.size⟩) (HT.out.on HB2.out).here
      rw [← HN.out] at this
      exact this)
    clear hall hRT
    go_wp2_with fail
    refine HST.out.mono ?_
    rintro e w3 ⟨s, X, rfl, hsx, hb3⟩
    have HSX := Lib.hid hsx
    have HB3 := Lib.hid (HB2.out.trans (hb3.mono HB2.out.size))
    have HP3 := Lib.hid (HP2.out.below hb3 HP2.out.lt)
    have hs3 := hb3.size
    have hbase : w2.heap.size + 1 ≤ w3.heap.size := by have := hsx.lt; omega
    have hp2 := HP2.out.lt
    clear hsx hb3
    obtain ⟨base, hbb⟩ : ∃ base, base = w2.heap.size + 1 := ⟨_, rfl⟩
    rw [← hbb] at HSX hbase
    go_wp2
    go_loopg [18] (N + 1) (fun gk i wr => ∃ (k : Nat) (Y : SX) (ck : List (List Int)), k ≤ N ∧ gk = N - k + 1 ∧ i = .int .i64 k ∧ Hid (Sx wr base s V ck (n + 2 * k) Y) ∧ Hid (∀ en bd : Int, Chk ck k (ps.drop k) en bd → Chk (cs.map normOf) 0 ps en bd) ∧ Hid (Below base w3 wr))
    case atStart => exact ⟨0, X, _, by omega, by omega, rfl, HSX, Lib.hid (fun en bd h => h), Lib.hid (Below.refl _ _)⟩
    case round =>
      obtain ⟨k, Y, ck, hk, rfl, rfl, HY, HCH, HBK⟩ := hrel
      have HBW := Lib.hid (HB3.out.trans (HBK.out.mono (by omega)))
      have HPK := Lib.hid (HP3.out.below HBK.out (by omega))
      have hszk := HBK.out.size
      have p0 := HPK.out.frozen 0
      have p1 := HPK.out.frozen 1
      have p2 := HPK.out.frozen 2
      have q0 := HPK.out.cell 0
      have q1 := HPK.out.cell 1
      have q2 := HPK.out.cell 2
      simp at p0 p1 p2 q0 q1 q2
      by_cases hlt : k < N
      · have hk2 : k < ps.length := by rw [← HNP.out]; exact hlt
        have hos := HS.out.below HBW.out (Nat.le_refl _)
        obtain ⟨sb, so, rfl, hsb, hall⟩ := hos (by omega)
        obtain ⟨Aj, cj, h1, h2, h3, h4⟩ := hall k hk2
        have hdrop : ps.drop k = ps.getD k stp0 :: ps.drop (k + 1) := by rw [List.drop_eq_getElem_cons hk2]; simp [List.getD, hk2]
        have hrt := HRT.out k hlt
        have hwd := HX.out.2 k
        obtain ⟨⟨dl, L⟩, hL'⟩ : ∃ st, st = ps.getD k stp0 := ⟨_, rfl⟩
        rw [← hL'] at h1 h2 h3 h4 hdrop hrt hwd
        simp only at h1 h2 h3 h4 hrt hwd
        have hLn := hwd.1
        have HRTK := Lib.hid hrt
        have HDR := Lib.hid hdrop
        obtain ⟨W2, hW2⟩ : ∃ W2, W2 = wr.alloc (.cells #[.bool dl, .slice Aj L.length cj] 60) := ⟨_, rfl⟩
        have hb2 : Below wr.heap.size wr W2 := by rw [hW2]; exact (Below.refl _ _).alloc (Nat.le_refl _) _
        have hQ := (show Blk W2 wr.heap.size 60 #[.bool dl, .slice Aj L.length cj] by rw [hW2]; exact Blk.new wr _ _)
        have hsW : W2.heap.size = wr.heap.size + 1 := by rw [hW2]; simp
        have HY2 := Lib.hid (HY.out.below hb2)
        have HW2 := Lib.hid hW2
        have HB2K := Lib.hid (HBK.out.trans (hb2.mono (by omega)))
        have HQ := Lib.hid hQ
        have c0 := hQ.cell 0
        have c1 := hQ.cell 1
        simp at c0 c1
        obtain ⟨m, hm⟩ : ∃ m, m = L.length := ⟨_, rfl⟩
        have HM := Lib.hid hm
        have hTW := HT.out.on HBW.out
        rcases dl with _ | _
        · obtain ⟨bj, hoj, hgj⟩ := h4 rfl
          have hap : Apart W2 Y bj Aj cj L := HY2.out.apart_low (own_below hoj hb2 fun g hg => (hoj.lt g hg).2) fun g hg => by have := hgj g hg; have := HB2.out.size; omega
          have HMAY := Lib.hid (may_sx HY2.out hap HRTK.out hLn (by omega))
          have HAP := Lib.hid hap
          have hown := HY.out.own_lt
          have HOWN := Lib.hid hown
          have HPK2 := Lib.hid (HPK.out.below hb2 HPK.out.lt)
          rw [← hm] at h2 c1 HMAY HQ hLn HW2
          clear h3 h4 hoj hgj hap hown hQ hb2 hW2 hall hdrop hrt hwd hL' hos hm p0 p1 p2 q0 q1 q2
          go_wp2_with fail
          rw [← HW2.out]
          refine HMAY.out.mono ?_
          rintro e w4 ⟨Y4, b, rfl, r1, r2, r3, r4⟩
          have HQ4 := Lib.hid (r2.blk _ _ _ HQ.out (by decide) (by decide) (by decide) (by decide) (by have := HOWN.out.1; omega) (fun e => by have := HOWN.out.2 _ e.symm; omega))
          have HP4 := Lib.hid (HPK2.out.below r2.below (by omega))
          have HB4 := Lib.hid (HB2K.out.trans r2.below)
          have HBW4 := Lib.hid (HB3.out.trans (HB4.out.mono (by omega)))
          have HY4 := Lib.hid r1
          have HAP4 := Lib.hid (HY2.out.turn HAP.out r2 r3)
          have HMP := Lib.hid r4
          have p0 := HP4.out.frozen 0
          have p1 := HP4.out.frozen 1
          have p2 := HP4.out.frozen 2
          have q0 := HP4.out.cell 0
          have q1 := HP4.out.cell 1
          have q2 := HP4.out.cell 2
          have c0 := HQ4.out.cell 0
          have c1 := HQ4.out.cell 1
          simp at p0 p1 p2 q0 q1 q2 c0 c1
          have hsz4 := r2.below.size
          clear r1 r2 r3 r4
          rcases b with _ | _
          · have HBE := Lib.hid (((HBW4.out.setCell (p := ⟨w.heap.size + 1, 0, none⟩) (by simp) (.bool false)).setCell (p := ⟨w.heap.size + 1, 1, none⟩) (by simp) (.int .i64 (-1))).setCell (p := ⟨w.heap.size + 1, 2, none⟩) (by simp) (.int .i64 k))
            have HPE := Lib.hid (((HP4.out.set_ 0 (.bool false)).set_ 1 (.int .i64 (-1))).set_ 2 (.int .i64 k))
            have HFIN : Hid (Chk (cs.map normOf) 0 ps (-1) k) := Lib.hid (HCH.out _ _ (by rw [HDR.out]; exact .bad fun h => by have := HMP.out.2 h; cases this))
            go_wp2
            (try simp only [Exit.inBlock, Exit.then])
            exact bodyPost_ret (results_cell_tmp rfl rfl (load_report8 (by simpa using HPE.out)) rfl) rfl ⟨HBE.out, .inr ⟨HALL.out, _, _, HFIN.out, rfl⟩⟩
          · have hmay := HMP.out.1 rfl
            by_cases hm0 : m = 0
            · have hl0 : L = [] := List.length_eq_zero_iff.1 (by rw [← HM.out]; exact hm0)
              have HBE := Lib.hid (((HBW4.out.setCell (p := ⟨w.heap.size + 1, 0, none⟩) (by simp) (.bool true)).setCell (p := ⟨w.heap.size + 1, 1, none⟩) (by simp) (.int .i64 k)).setCell (p := ⟨w.heap.size + 1, 2, none⟩) (by simp) (.int .i64 (-1)))
              have HPE := Lib.hid (((HP4.out.set_ 0 (.bool true)).set_ 1 (.int .i64 k)).set_ 2 (.int .i64 (-1)))
              have HFIN : Hid (Chk (cs.map normOf) 0 ps k (-1)) := Lib.hid (HCH.out _ _ (by rw [HDR.out, hl0]; exact .ref (hl0 ▸ hmay)))
              subst hm0
              clear hl0 hmay
              go_wp2
              (try simp only [Exit.inBlock, Exit.then])
              exact bodyPost_ret (results_cell_tmp rfl rfl (load_report8 (by simpa using HPE.out)) rfl) rfl ⟨HBE.out, .inr ⟨HALL.out, _, _, HFIN.out, by rw [decide_eq_true (by omega)]; rfl⟩⟩
            · have hl0 : L ≠ [] := fun e => hm0 (by rw [HM.out, e]; rfl)
              have HADD := Lib.hid (add_sx HY4.out HAP4.out HRTK.out (by rw [← HM.out]; exact hLn) (by omega) ((HT.out.on HBW4.out).mono (by omega)))
              rw [← HM.out] at HADD
              have HCH2 : Hid (∀ en bd : Int, Chk (ck ++ [normOf L]) ((k + 1 : Nat) : Int) (ps.drop (k + 1)) en bd → Chk (cs.map normOf) 0 ps en bd) := Lib.hid fun en bd h => HCH.out en bd (by rw [HDR.out]; exact .add hmay hl0 (by simpa using h))
              clear hl0 hmay
              go_wp2_with fail
              refine HADD.out.mono ?_
              rintro e w5 ⟨Y5, rfl, t1, t2, t3⟩
              have HY5 := Lib.hid (t1.more (N' := n + 2 * (k + 1)) (by omega))
              have HB5 := Lib.hid (HB4.out.trans t2.below)
              clear t1 t2 t3
              go_wp2
              go_roundg (N - k)
              case measure => omega
              case rel => exact ⟨k + 1, Y5, _, by omega, by omega, by go_num, HY5, HCH2, HB5⟩
        · have HREM := Lib.hid (remove_sx (c := cj) HY2.out (Cells.below h3 (hb2.mono (by have := HB2.out.size; have := HBW.out.size; omega))) (by have := HBW.out.size; omega) hLn (fun x hx => by obtain ⟨a1, a2, a3⟩ := HRTK.out x hx; omega) (HT.out.on (HBW.out.trans (hb2.mono HBW.out.size))).here (by omega))
          have HCH2 : Hid (∀ en bd : Int, Chk (ck.erase (normOf L)) ((k + 1 : Nat) : Int) (ps.drop (k + 1)) en bd → Chk (cs.map normOf) 0 ps en bd) := Lib.hid fun en bd h => HCH.out en bd (by rw [HDR.out]; exact .del (by simpa using h))
          rw [← hm] at h2 c1 HREM HQ hLn HW2
          clear h3 h4 hQ hb2 hW2 hall hdrop hrt hwd hL' hos hm
          go_wp2_with fail
          rw [← HW2.out]
          refine HREM.out.mono ?_
          rintro e w4 ⟨rfl, Y4, t1, t2, t3⟩
          have HY5 := Lib.hid (t1.more (N' := n + 2 * (k + 1)) (by omega))
          have HB5 := Lib.hid (HB2K.out.trans t2.below)
          clear t1 t2 t3
          go_wp2
          go_roundg (N - k)
          case measure => omega
          case rel => exact ⟨k + 1, Y4, _, by omega, by omega, by go_num, HY5, HCH2, HB5⟩
      · obtain rfl : k = N := by omega
        have HBE := Lib.hid (((HBW.out.setCell (p := ⟨w.heap.size + 1, 0, none⟩) (by simp) (.bool false)).setCell (p := ⟨w.heap.size + 1, 1, none⟩) (by simp) (.int .i64 (-1))).setCell (p := ⟨w.heap.size + 1, 2, none⟩) (by simp) (.int .i64 (-1)))
        have HPE := Lib.hid (((HPK.out.set_ 0 (.bool false)).set_ 1 (.int .i64 (-1))).set_ 2 (.int .i64 (-1)))
        have HFIN : Hid (Chk (cs.map normOf) 0 ps (-1) (-1)) := Lib.hid (HCH.out _ _ (by rw [HNP.out, List.drop_length]; exact .none_ _ _))
        go_wp2
        (try simp only [Exit.inBlock, Exit.then])
        exact bodyPost_ret (results_cell_tmp rfl rfl (load_report8 (by simpa using HPE.out)) rfl) rfl ⟨HBE.out, .inr ⟨HALL.out, _, _, HFIN.out, rfl⟩⟩
end Go.Proofs.YthcpfaahcncfjaaGreatDoor

namespace Go.Proofs.YthcpfaahcncfjaaGreatDoor
open Go.RowKit
set_option linter.unusedVariables false
set_option linter.unusedSimpArgs false

/-- 'string(b)' of bytes that read as a list -/
theorem run_bytes_string {w : World} {B : Nat} {A : Option Addr} {bs : List UInt8} (h : Bytes w B A bs) (c : Nat) : (convert 47 9 (.slice A bs.length c)).run Tryz.prog w = .ok (.string ⟨bs.toArray⟩) w := by
  by_cases h0 : 0 < bs.length
  · obtain ⟨b, off, rfl, _, _⟩ := h.at_ h0
    refine run_convert_bytes_back w 47 9 5 ⟨b, off, none⟩ c bs Tryz.underlying47 Tryz.underlying5 Tryz.underlying9 (fun j hj => ?_)
    obtain ⟨b', off', e, _, hc⟩ := h.at_ hj
    injection e with e
    injection e with e1 e2 _
    subst e1 e2
    rw [Lib.add_plain b off j, hc]
    simp [List.getD, hj]
  · have hb : bs = [] := List.eq_nil_of_length_eq_zero (by omega)
    subst hb
    cases A with
    | none => exact Lib.run_convert_nil_bytes w 47 9 5 c Tryz.underlying47 Tryz.underlying5 Tryz.underlying9
    | some a => exact run_convert_bytes_back w 47 9 5 a c [] Tryz.underlying47 Tryz.underlying5 Tryz.underlying9 (fun j hj => absurd hj (by simp))

theorem bin_take_le (ps : List Stp) (k : Nat) : (binOf (ps.take k)).length ≤ (binOf ps).length := by
  conv => rhs; rw [binOf_split_at ps k]
  simp

theorem lbs_take_le (c : List Int) (k : Nat) : (lbs (c.take k)).length ≤ (lbs c).length := by
  conv => rhs; rw [lbs_split_at c k]
  simp

theorem lbs_le {ps : List Stp} {k : Nat} (hk : k < ps.length) : (lbs (ps.getD k stp0).2).length ≤ (binOf ps).length := by
  have h1 := bin_take_le ps (k + 1)
  rw [binOf_take hk] at h1
  unfold stpBin at h1
  simp at h1 ⊢
  omega

theorem bin_lens {ps : List Stp} : ps.length ≤ (binOf ps).length ∧ ∀ j, (ps.getD j stp0).2.length ≤ (binOf ps).length := by
  refine ⟨?_, fun j => ?_⟩
  · induction ps with
    | nil => simp
    | cons p ps ih => rw [binOf_cons, List.length_append]; simp [stpBin]; omega
  · by_cases hj : j < ps.length
    · have := lbs_le hj
      have h2 := lbs_len (ps.getD j stp0).2
      omega
    · simp only [List.getD, List.getElem?_eq_none (Nat.le_of_not_lt hj), Option.getD_none]; exact Nat.zero_le _

theorem bytes_of_kints {w : World} {B : Nat} {A : Option Addr} {ns : List Int} (h : KInts .u8 w B A ns) (hb : ∀ j, 0 ≤ ns.getD j 0 ∧ ns.getD j 0 ≤ 255) : ∃ bs : List UInt8, bs.length = ns.length ∧ Bytes w B A bs := by
  refine ⟨ns.map fun n => UInt8.ofNat n.toNat, by simp, ?_⟩
  unfold Bytes
  rw [List.length_map]
  refine Cells.congr h fun j hj => ?_
  have := hb j
  simp [List.getD, hj] at this ⊢
  omega
end Go.Proofs.YthcpfaahcncfjaaGreatDoor

namespace Go.Proofs.YthcpfaahcncfjaaGreatDoor
open Go.RowKit
set_option linter.unusedVariables false
set_option linter.unusedSimpArgs false

theorem OwnSteps.osteps {w : World} {base c : Nat} {A : Option Addr} {ps : List Stp} (h : OwnSteps w base A c ps) : OSteps w w.heap.size A ps := by
  obtain ⟨vs, ho, h⟩ := h
  intro hn
  rcases ho.2 with ⟨hv, h0⟩ | ⟨g, cap, cur, hv, hb, hg, h1, h2, h3, h4⟩
  · omega
  · injection hv with hA _ _
    subst hA
    refine ⟨g, 0, rfl, (Array.getElem?_eq_some_iff.1 hg).1, fun j hj => ?_⟩
    obtain ⟨Aj, cj, e1, e2, e3⟩ := h.each j hj
    have cellAt : ∀ i u, vs[i]? = some u → w.cell? ⟨g, 0 + i, none⟩ = some u := fun i u hu => by
      have hb2 : Blk w g 60 cur := hg
      rw [hb2.cell, Nat.zero_add]
      rw [← h4, List.getElem?_take] at hu
      split at hu
      · simpa using hu
      · cases hu
    refine ⟨Aj, cj, cellAt _ _ e1, ?_, ?_, fun _ => ⟨base, e3, fun q hq => (e3.lt q hq).2⟩⟩
    · have := cellAt _ _ e2
      rwa [show 0 + (j * 2 + 1) = 0 + j * 2 + 1 by omega] at this
    · refine (cells_of_own e3 (.int .i64 0)).congr fun i hi => ?_
      simp [List.getD]

theorem getD_mem8 {l : List Int} {i : Nat} (h : i < l.length) : l.getD i 0 ∈ l := by simp [List.getD, h]
theorem wide_of_right8 {ps : List Stp} (h : stpsRight ps = true) (hl : ps.length ≤ 1000000) (hx : ∀ j, (ps.getD j stp0).2.length ≤ 1000000) : Wide8s ps := by
  refine ⟨hl, fun k => ⟨hx k, fun i => ?_⟩⟩
  by_cases hk : k < ps.length
  · have hm : ps.getD k stp0 ∈ ps := by simp [List.getD, hk]
    have hr := stpsRight_mem h _ hm
    by_cases hi : i < (ps.getD k stp0).2.length
    · have hmi : (ps.getD k stp0).2.getD i 0 ∈ (ps.getD k stp0).2 := getD_mem8 hi
      have := isLit_iff.1 (stpRight_mem hr _ hmi)
      omega
    · have e : (ps.getD k stp0).2.getD i 0 = 0 := by rw [List.getD, List.getElem?_eq_none (by omega)]; rfl
      rw [e]; omega
  · have e : ps.getD k stp0 = stp0 := by rw [List.getD, List.getElem?_eq_none (by omega)]; rfl
    rw [e]; simp

/-- what Text and Binary answer -/
def ParsedAns (V : Nat) (cs : List (List Int)) (r : Option (List Stp)) (k : Int) (w : World) (e : Ending) (w' : World) : Prop :=
  Below w.heap.size w w' ∧ match r with
    | none => e = .returned (.tuple #[.agg #[.bool false, .int .i64 0, .int .i64 0], .int .i64 k])
    | some ps => (ps.all (rightP V) = false ∧ e = .returned (.tuple #[.agg #[.bool false, .int .i64 0, .int .i64 0], .int .i64 1])) ∨
      (ps.all (rightP V) = true ∧ ∃ en bd : Int, Chk (cs.map normOf) 0 ps en bd ∧ e = .returned (.tuple #[.agg #[.bool (decide (en ≠ -1)), .int .i64 en, .int .i64 bd], .int .i64 0]))

set_option maxRecDepth 100000 in
set_option maxHeartbeats 2000000 in
theorem text8_any (V : Nat) (cs : List (List Int)) (vs : List Value) (b0 b1 : Nat) (A : Option Addr) (c : Nat) (s : List UInt8) (m : Int) (w : World) (hV : V ≤ 100000) (hn : cs.length ≤ 1000) (hl : ∀ d, d ∈ cs → d.length ≤ 1000000 ∧ ∀ x, x ∈ d → Lt7 V x)
    (ho : w.ownsRow b1 55 1 (.slice A cs.length c) cs.length vs) (hr : ORows w w.heap.size b0 vs cs) (hs : s.length ≤ 1000) (hT : Tab7 w) (hE : EnvN m w) :
    Calls Tryz.prog 17 #[.agg #[.int .i64 V, .slice A cs.length c], .string ⟨s.toArray⟩] w fun e w' => ∃ r k, TxtIs s (r, k) ∧ ParsedAns V cs r k w e w' := by
  obtain ⟨n, hnn⟩ : ∃ n, n = cs.length := ⟨_, rfl⟩
  have HN := Lib.hid hnn
  obtain ⟨w1, hw1⟩ : ∃ w1, w1 = (w.alloc (.cells #[.int .i64 V, .slice A n c] 31)).alloc (.cells #[.bool false, .int .i64 0, .int .i64 0] 40) := ⟨_, rfl⟩
  have hb1 : Below w.heap.size w w1 := by rw [hw1]; exact ((Below.refl _ _).alloc (Nat.le_refl _) _).alloc (by simp) _
  have HB1 := Lib.hid hb1
  have HF1 := Lib.hid (show Blk w1 w.heap.size 31 #[.int .i64 V, .slice A n c] by rw [hw1]; exact (Blk.new w _ _).alloc _)
  have HP1 := Lib.hid (show Blk w1 (w.heap.size + 1) 40 #[.bool false, .int .i64 0, .int .i64 0] by rw [hw1]; simpa using Blk.new (w.alloc (.cells #[.int .i64 V, .slice A n c] 31)) 40 #[.bool false, .int .i64 0, .int .i64 0])
  have HPA := Lib.hid (parseText_any s m w1 (by omega) (hE.same hb1))
  have HCK : Hid (∀ (w' : World) (ps : List Stp) (D : Option Addr) (d : Nat), Below w.heap.size w w' → OSteps w' w'.heap.size D ps → Wide8s ps → ps.length ≤ 1000 → Calls Tryz.prog 16 #[.agg #[.int .i64 V, .slice A n c], .slice D ps.length d] w' (ChkAns V cs ps w')) := Lib.hid fun w' ps D d hb h1 h2 h3 => by
    have := check8_any V cs ps vs b0 b1 A D c d w' hV hn hl (own_below ho hb fun g hg => (ho.lt g hg).2) (fun j hj => by obtain ⟨Aj, cj, e, ho, hl⟩ := (hr.below hb (Nat.le_refl _)) j hj; exact ⟨Aj, cj, e, ho, fun g hg => Nat.lt_of_lt_of_le (hl g hg) hb.size⟩) h1 h2 h3 (hT.b.on hb).here
    rwa [← hnn] at this
  have HW1 := Lib.hid hw1
  rw [← hnn]
  clear ho hr hl hT hE hb1 hw1 hnn hn
  go_enter Tryz.func17, Tryz.ntmps17
  go_wp2_with fail
  rw [← HW1.out]
  refine HPA.out.mono ?_
  rintro e w2 ⟨hb2, (⟨ps, D, d, rfl, htx, hown⟩ | ⟨rfl, htx⟩)⟩
  · have HB2 := Lib.hid (HB1.out.trans (hb2.mono HB1.out.size))
    have HF2 := Lib.hid (HF1.out.below hb2 HF1.out.lt)
    have HP2 := Lib.hid (HP1.out.below hb2 HP1.out.lt)
    have hps : stpsRight ps = true ∧ txtOf ps = s := by cases htx with | ok _ h1 h2 => exact ⟨h1, h2⟩
    have hlen := txt_lens (ps := ps)
    rw [hps.2] at hlen
    have hC := HCK.out w2 ps D d HB2.out hown.osteps (wide_of_right8 hps.1 (by omega) fun j => by have := hlen.2 j; omega) (by omega)
    have HC := Lib.hid hC
    have HTX := Lib.hid htx
    obtain ⟨N, hN⟩ : ∃ N, N = ps.length := ⟨_, rfl⟩
    rw [← hN] at HC ⊢
    have f0 := HF2.out.cell 0
    have f1 := HF2.out.cell 1
    simp at f0 f1
    clear hb2 htx hown hps hlen hC hN
    go_wp2_with fail
    refine HC.out.mono ?_
    rintro e w3 ⟨hb3, h3⟩
    have HB3 := Lib.hid (HB2.out.trans (hb3.mono HB2.out.size))
    have HP3 := Lib.hid (HP2.out.below hb3 HP2.out.lt)
    have p0 := HP3.out.frozen 0
    have p1 := HP3.out.frozen 1
    have p2 := HP3.out.frozen 2
    have q0 := HP3.out.cell 0
    have q1 := HP3.out.cell 1
    have q2 := HP3.out.cell 2
    simp at p0 p1 p2 q0 q1 q2
    have HA3 := Lib.hid h3
    obtain ⟨rr, en, bd, er, rfl⟩ : ∃ (rr : Bool) (en bd er : Int), e = .returned (.tuple #[.agg #[.bool rr, .int .i64 en, .int .i64 bd], .int .i64 er]) := by
      rcases h3 with ⟨_, rfl⟩ | ⟨_, en, bd, _, rfl⟩ <;> exact ⟨_, _, _, _, rfl⟩
    have HBE := Lib.hid (((HB3.out.setCell (p := ⟨w.heap.size + 1, 0, none⟩) (by simp) (.bool rr)).setCell (p := ⟨w.heap.size + 1, 1, none⟩) (by simp) (.int .i64 en)).setCell (p := ⟨w.heap.size + 1, 2, none⟩) (by simp) (.int .i64 bd))
    have HPE := Lib.hid (((HP3.out.set_ 0 (.bool rr)).set_ 1 (.int .i64 en)).set_ 2 (.int .i64 bd))
    clear hb3 h3
    go_wp2
    (try simp only [Exit.inBlock, Exit.then])
    exact bodyPost_ret (results_cell_tmp rfl rfl (load_report8 (by simpa using HPE.out)) rfl) rfl ⟨some ps, 0, HTX.out, HBE.out, HA3.out⟩
  · have HB2 := Lib.hid (HB1.out.trans (hb2.mono HB1.out.size))
    have HP2 := Lib.hid (HP1.out.below hb2 HP1.out.lt)
    have HTX := Lib.hid htx
    have p0 := HP2.out.frozen 0
    have p1 := HP2.out.frozen 1
    have p2 := HP2.out.frozen 2
    have q0 := HP2.out.cell 0
    have q1 := HP2.out.cell 1
    have q2 := HP2.out.cell 2
    simp at p0 p1 p2 q0 q1 q2
    have HBE := Lib.hid (((HB2.out.setCell (p := ⟨w.heap.size + 1, 0, none⟩) (by simp) (.bool false)).setCell (p := ⟨w.heap.size + 1, 1, none⟩) (by simp) (.int .i64 0)).setCell (p := ⟨w.heap.size + 1, 2, none⟩) (by simp) (.int .i64 0))
    have HPE := Lib.hid (((HP2.out.set_ 0 (.bool false)).set_ 1 (.int .i64 0)).set_ 2 (.int .i64 0))
    clear hb2 htx
    go_wp2
    (try simp only [Exit.inBlock, Exit.then])
    exact bodyPost_ret (results_cell_tmp rfl rfl (load_report8 (by simpa using HPE.out)) rfl) rfl ⟨none, 9, HTX.out, HBE.out, rfl⟩
end Go.Proofs.YthcpfaahcncfjaaGreatDoor

namespace Go.Proofs.YthcpfaahcncfjaaGreatDoor
open Go.RowKit
set_option linter.unusedVariables false
set_option linter.unusedSimpArgs false

set_option maxRecDepth 100000 in
set_option maxHeartbeats 2000000 in
theorem binary8_any (V : Nat) (cs : List (List Int)) (vs : List Value) (b0 b1 : Nat) (A : Option Addr) (c : Nat) (s : List UInt8) (B d : Nat) (D : Option Addr) (w : World) (hV : V ≤ 100000) (hn : cs.length ≤ 1000) (hl : ∀ d, d ∈ cs → d.length ≤ 1000000 ∧ ∀ x, x ∈ d → Lt7 V x)
    (ho : w.ownsRow b1 55 1 (.slice A cs.length c) cs.length vs) (hr : ORows w w.heap.size b0 vs cs) (hs : s.length ≤ 1000) (hT : Tab7 w) (hb : Bytes w B D s) (hB : B ≤ w.heap.size) (hd : s.length ≤ d) :
    Calls Tryz.prog 19 #[.agg #[.int .i64 V, .slice A cs.length c], .slice D s.length d] w fun e w' => ∃ r k, BinIs s (r, k) ∧ (r = none → k ≠ 0) ∧ ParsedAns V cs r k w e w' := by
  obtain ⟨n, hnn⟩ : ∃ n, n = cs.length := ⟨_, rfl⟩
  have HN := Lib.hid hnn
  obtain ⟨w1, hw1⟩ : ∃ w1, w1 = (w.alloc (.cells #[.int .i64 V, .slice A n c] 31)).alloc (.cells #[.bool false, .int .i64 0, .int .i64 0] 40) := ⟨_, rfl⟩
  have hb1 : Below w.heap.size w w1 := by rw [hw1]; exact ((Below.refl _ _).alloc (Nat.le_refl _) _).alloc (by simp) _
  have HB1 := Lib.hid hb1
  have HF1 := Lib.hid (show Blk w1 w.heap.size 31 #[.int .i64 V, .slice A n c] by rw [hw1]; exact (Blk.new w _ _).alloc _)
  have HP1 := Lib.hid (show Blk w1 (w.heap.size + 1) 40 #[.bool false, .int .i64 0, .int .i64 0] by rw [hw1]; simpa using Blk.new (w.alloc (.cells #[.int .i64 V, .slice A n c] 31)) 40 #[.bool false, .int .i64 0, .int .i64 0])
  have HPA := Lib.hid (parseBinary_any s B d D w1 (Cells.below hb (hb1.mono hB)) (by have := hb1.size; omega) hd (by omega))
  have HCK : Hid (∀ (w' : World) (ps : List Stp) (D : Option Addr) (d : Nat), Below w.heap.size w w' → OSteps w' w'.heap.size D ps → Wide8s ps → ps.length ≤ 1000 → Calls Tryz.prog 16 #[.agg #[.int .i64 V, .slice A n c], .slice D ps.length d] w' (ChkAns V cs ps w')) := Lib.hid fun w' ps D d hb h1 h2 h3 => by
    have := check8_any V cs ps vs b0 b1 A D c d w' hV hn hl (own_below ho hb fun g hg => (ho.lt g hg).2) (fun j hj => by obtain ⟨Aj, cj, e, ho, hl⟩ := (hr.below hb (Nat.le_refl _)) j hj; exact ⟨Aj, cj, e, ho, fun g hg => Nat.lt_of_lt_of_le (hl g hg) hb.size⟩) h1 h2 h3 (hT.b.on hb).here
    rwa [← hnn] at this
  have HW1 := Lib.hid hw1
  obtain ⟨S, hS⟩ : ∃ S, S = s.length := ⟨_, rfl⟩
  rw [← hnn, ← hS]
  rw [← hS] at HPA
  have HSL := Lib.hid hS
  have hsS : S ≤ 1000 := by omega
  clear ho hr hl hT hb1 hw1 hnn hn hb hS hd
  go_enter Tryz.func19, Tryz.ntmps19
  go_wp2_with fail
  rw [← HW1.out]
  refine HPA.out.mono ?_
  rintro e w2 ⟨hb2, (⟨ps, D2, d2, rfl, htx, hown⟩ | ⟨kk, rfl, htx, hkk⟩)⟩
  · have HB2 := Lib.hid (HB1.out.trans (hb2.mono HB1.out.size))
    have HF2 := Lib.hid (HF1.out.below hb2 HF1.out.lt)
    have HP2 := Lib.hid (HP1.out.below hb2 HP1.out.lt)
    have hps : stpsRight ps = true ∧ binOf ps = s := by cases htx with | ok _ h1 h2 => exact ⟨h1, h2⟩
    have hlen := bin_lens (ps := ps)
    rw [hps.2] at hlen
    have hl1 : ps.length ≤ 1000 := Nat.le_trans hlen.1 hs
    have hl2 : ∀ j, (ps.getD j stp0).2.length ≤ 1000000 := fun j => Nat.le_trans (hlen.2 j) (Nat.le_trans hs (by decide))
    have hC := HCK.out w2 ps D2 d2 HB2.out hown.osteps (wide_of_right8 hps.1 (Nat.le_trans hl1 (by decide)) hl2) hl1
    have HC := Lib.hid hC
    have HTX := Lib.hid htx
    obtain ⟨N, hN⟩ : ∃ N, N = ps.length := ⟨_, rfl⟩
    rw [← hN] at HC ⊢
    have f0 := HF2.out.cell 0
    have f1 := HF2.out.cell 1
    simp at f0 f1
    clear hb2 htx hown hps hlen hl1 hl2 hC hN
    go_wp2_with fail
    refine HC.out.mono ?_
    rintro e w3 ⟨hb3, h3⟩
    have HB3 := Lib.hid (HB2.out.trans (hb3.mono HB2.out.size))
    have HP3 := Lib.hid (HP2.out.below hb3 HP2.out.lt)
    have p0 := HP3.out.frozen 0
    have p1 := HP3.out.frozen 1
    have p2 := HP3.out.frozen 2
    have q0 := HP3.out.cell 0
    have q1 := HP3.out.cell 1
    have q2 := HP3.out.cell 2
    simp at p0 p1 p2 q0 q1 q2
    have HA3 := Lib.hid h3
    obtain ⟨rr, en, bd, er, rfl⟩ : ∃ (rr : Bool) (en bd er : Int), e = .returned (.tuple #[.agg #[.bool rr, .int .i64 en, .int .i64 bd], .int .i64 er]) := by
      rcases h3 with ⟨_, rfl⟩ | ⟨_, en, bd, _, rfl⟩ <;> exact ⟨_, _, _, _, rfl⟩
    have HBE := Lib.hid (((HB3.out.setCell (p := ⟨w.heap.size + 1, 0, none⟩) (by simp) (.bool rr)).setCell (p := ⟨w.heap.size + 1, 1, none⟩) (by simp) (.int .i64 en)).setCell (p := ⟨w.heap.size + 1, 2, none⟩) (by simp) (.int .i64 bd))
    have HPE := Lib.hid (((HP3.out.set_ 0 (.bool rr)).set_ 1 (.int .i64 en)).set_ 2 (.int .i64 bd))
    clear hb3 h3
    go_wp2
    (try simp only [Exit.inBlock, Exit.then])
    exact bodyPost_ret (results_cell_tmp rfl rfl (load_report8 (by simpa using HPE.out)) rfl) rfl ⟨some ps, 0, HTX.out, fun h => (by cases h), HBE.out, HA3.out⟩
  · have HB2 := Lib.hid (HB1.out.trans (hb2.mono HB1.out.size))
    have HP2 := Lib.hid (HP1.out.below hb2 HP1.out.lt)
    have HTX := Lib.hid htx
    have p0 := HP2.out.frozen 0
    have p1 := HP2.out.frozen 1
    have p2 := HP2.out.frozen 2
    have q0 := HP2.out.cell 0
    have q1 := HP2.out.cell 1
    have q2 := HP2.out.cell 2
    simp at p0 p1 p2 q0 q1 q2
    have hkb : (kk == 0) = false := by simpa using hkk
    have HBE := Lib.hid (((HB2.out.setCell (p := ⟨w.heap.size + 1, 0, none⟩) (by simp) (.bool false)).setCell (p := ⟨w.heap.size + 1, 1, none⟩) (by simp) (.int .i64 0)).setCell (p := ⟨w.heap.size + 1, 2, none⟩) (by simp) (.int .i64 0))
    have HPE := Lib.hid (((HP2.out.set_ 0 (.bool false)).set_ 1 (.int .i64 0)).set_ 2 (.int .i64 0))
    have HKK := Lib.hid hkk
    clear hb2 htx hkk
    go_wp2
    (try simp only [Exit.inBlock, Exit.then])
    exact bodyPost_ret (results_cell_tmp rfl rfl (load_report8 (by simpa using HPE.out)) rfl) rfl ⟨none, kk, HTX.out, fun _ => HKK.out, HBE.out, rfl⟩
end Go.Proofs.YthcpfaahcncfjaaGreatDoor

namespace Go.Proofs.YthcpfaahcncfjaaGreatDoor
open Go.RowKit
set_option linter.unusedVariables false
set_option linter.unusedSimpArgs false

theorem own_of_blk8 {w : World} {g b : Nat} {e : TypeId} {xs : List Value} (h : Blk w g e xs.toArray) (hb : b ≤ g) (hn : xs.length ≤ 1000000000) : w.ownsRow b e 1 (.slice (some ⟨g, 0, none⟩) xs.length xs.length) xs.length xs :=
  ⟨by simp, .inr ⟨g, xs.length, _, rfl, hb, h, Nat.le_refl _, by unfold maxLen; omega, by simp, by simp⟩⟩
theorem txt_self8 {ps : List Stp} {r : Option (List Stp)} {k : Int} (hr : stpsRight ps = true) (h : TxtIs (txtOf ps) (r, k)) : r = some ps ∧ k = 0 := by
  rcases h with ⟨qs, h1, h2⟩ | h1
  · exact ⟨by rw [txtOf_inj h1 hr h2], rfl⟩
  · exact absurd rfl (h1 ps hr)
abbrev fq : List Stp := [(true, [1]), (false, [])]
theorem fq_right : stpsRight fq = true := by decide
theorem fq_txt : txtOf fq = [100, 32, 49, 32, 48, 10, 48, 10] := by
  have h1 : Lib.itoa 1 = [49] := by
    rw [show (1 : Int) = ((1 : Nat) : Int) from rfl, Lib.itoa_nonneg, Lib.decDigits, dif_pos (by decide)]; decide
  show ([100, 32] ++ ((Lib.itoa 1 ++ [32]) ++ [] ++ [48]) ++ [10]) ++ (([] ++ ([] ++ [48]) ++ [10]) ++ []) = _
  rw [h1]
  rfl
def two8 : List (List Int) := [[1], [-1]]
theorem two8_norm : two8.map normOf = two8 := rfl
theorem two8_clash : Clash two8 [] := .inl ⟨1, Fol.closed [1] (by decide) 1 (by decide) (fun y hy hne => absurd (by simpa using hy) hne), Fol.closed [-1] (by decide) (-1) (by decide) (fun y hy hne => absurd (by simpa using hy) hne)⟩
theorem one8_clash : ¬ Clash [[-1]] [] := fun h => by
  obtain ⟨y, hy, _⟩ := clash_sound (z := [false]) (fun c hc y hy => by
    simp at hc; subst hc; simp at hy; subst hy; exact ⟨by decide, by decide, by decide⟩) (fun y hy => by simp at hy) (fun c hc => by simp at hc; subst hc; decide) h
  simp at hy
theorem two8_chk {e b : Int} (h : Chk (two8.map normOf) 0 [(false, [])] e b) : e = 0 ∧ b = -1 :=
  h.one (.ref (.inl (by rw [two8_norm]; exact two8_clash)))
theorem two8_del {e b : Int} (h : Chk (two8.map normOf) 0 fq e b) : e = -1 ∧ b = 1 := by
  refine h.one (.del (.bad ?_))
  show ¬ MayP [[-1]] []
  rintro (h | ⟨x, xs, e, _⟩)
  · exact one8_clash h
  · cases e
theorem two8_lt : ∀ d, d ∈ two8 → d.length ≤ 1000000 ∧ ∀ x, x ∈ d → Lt7 1 x := fun d hd => by
  simp [two8] at hd
  rcases hd with rfl | rfl
  · exact ⟨by decide, fun x hx => by simp at hx; subst hx; exact ⟨by decide, by decide, by decide⟩⟩
  · exact ⟨by decide, fun x hx => by simp at hx; subst hx; exact ⟨by decide, by decide, by decide⟩⟩

set_option maxRecDepth 100000 in
set_option maxHeartbeats 2000000 in
theorem fit8_any (m : Int) (w : World) (hT : Tab7 w) (hE : EnvN m w) : Calls Tryz.prog 9 #[] w fun e w' => e = .returned (.bool true) ∧ Below w.heap.size w w' := by
  obtain ⟨w1, hw1⟩ : ∃ w1, w1 = (((w.alloc (.cells #[.int .i64 1] 3)).alloc (.cells #[.int .i64 (-1)] 3)).alloc (.cells #[.slice (some ⟨w.heap.size, 0, none⟩) 1 1, .slice (some ⟨w.heap.size + 1, 0, none⟩) 1 1] 55)).alloc (.cells #[.int .i64 1, .slice (some ⟨w.heap.size + 1 + 1, 0, none⟩) 2 2] 31) := ⟨_, rfl⟩
  have hb1 : Below w.heap.size w w1 := by rw [hw1]; exact ((((Below.refl _ _).alloc (Nat.le_refl _) _).alloc (by simp) _).alloc (by simp; omega) _).alloc (by simp; omega) _
  have hs1 : w1.heap.size = w.heap.size + 4 := by rw [hw1]; simp
  have k0 : Blk w1 w.heap.size 3 #[.int .i64 1] := by rw [hw1]; exact (((Blk.new w _ _).alloc _).alloc _).alloc _
  have k1 : Blk w1 (w.heap.size + 1) 3 #[.int .i64 (-1)] := by rw [hw1]; simpa using ((Blk.new (w.alloc (.cells #[.int .i64 1] 3)) 3 #[.int .i64 (-1)]).alloc (.cells #[.slice (some ⟨w.heap.size, 0, none⟩) 1 1, .slice (some ⟨w.heap.size + 1, 0, none⟩) 1 1] 55)).alloc (.cells #[.int .i64 1, .slice (some ⟨w.heap.size + 1 + 1, 0, none⟩) 2 2] 31)
  have k2 : Blk w1 (w.heap.size + 1 + 1) 55 #[.slice (some ⟨w.heap.size, 0, none⟩) 1 1, .slice (some ⟨w.heap.size + 1, 0, none⟩) 1 1] := by rw [hw1]; simpa using (Blk.new ((w.alloc (.cells #[.int .i64 1] 3)).alloc (.cells #[.int .i64 (-1)] 3)) 55 #[.slice (some ⟨w.heap.size, 0, none⟩) 1 1, .slice (some ⟨w.heap.size + 1, 0, none⟩) 1 1]).alloc (.cells #[.int .i64 1, .slice (some ⟨w.heap.size + 1 + 1, 0, none⟩) 2 2] 31)
  have k3 : Blk w1 (w.heap.size + 1 + 1 + 1) 31 #[.int .i64 1, .slice (some ⟨w.heap.size + 1 + 1, 0, none⟩) 2 2] := by rw [hw1]; simpa using Blk.new (((w.alloc (.cells #[.int .i64 1] 3)).alloc (.cells #[.int .i64 (-1)] 3)).alloc (.cells #[.slice (some ⟨w.heap.size, 0, none⟩) 1 1, .slice (some ⟨w.heap.size + 1, 0, none⟩) 1 1] 55)) 31 #[.int .i64 1, .slice (some ⟨w.heap.size + 1 + 1, 0, none⟩) 2 2]
  have HOWN : Hid (∀ w', Below w1.heap.size w1 w' → w'.ownsRow w.heap.size 55 1 (.slice (some ⟨w.heap.size + 1 + 1, 0, none⟩) 2 2) 2 [.slice (some ⟨w.heap.size, 0, none⟩) 1 1, .slice (some ⟨w.heap.size + 1, 0, none⟩) 1 1] ∧
      ORows w' w'.heap.size w.heap.size [.slice (some ⟨w.heap.size, 0, none⟩) 1 1, .slice (some ⟨w.heap.size + 1, 0, none⟩) 1 1] two8) := Lib.hid fun w' hb => by
    have hs := hb.size
    refine ⟨own_of_blk8 (xs := [.slice (some ⟨w.heap.size, 0, none⟩) 1 1, .slice (some ⟨w.heap.size + 1, 0, none⟩) 1 1]) (k2.below hb k2.lt) (by omega) (by simp), fun j hj => ?_⟩
    match j, hj with
    | 0, _ => exact ⟨_, 1, rfl, own_of_blk8 (xs := [.int .i64 1]) (k0.below hb k0.lt) (Nat.le_refl _) (by decide), fun g hg => by have e : w.heap.size = g := (by simpa [Value.ownBlock] using hg); omega⟩
    | 1, _ => exact ⟨_, 1, rfl, own_of_blk8 (xs := [.int .i64 (-1)]) (k1.below hb k1.lt) (by omega) (by decide), fun g hg => by have e : w.heap.size + 1 = g := (by simpa [Value.ownBlock] using hg); omega⟩
  have HTE : Hid (∀ w', Below w.heap.size w w' → Tab7 w' ∧ EnvN m w') := Lib.hid fun w' hb => ⟨(hT.b.on hb).here, hE.same hb⟩
  obtain ⟨w2, hw2⟩ : ∃ w2, w2 = w1.alloc (.cells #[.bool false, .slice none 0 0] 60) := ⟨_, rfl⟩
  have hb12 : Below w1.heap.size w1 w2 := by rw [hw2]; exact (Below.refl _ _).alloc (Nat.le_refl _) _
  have hb2 : Below w.heap.size w w2 := hb1.trans (hb12.mono hb1.size)
  have ks : Blk w2 w1.heap.size 60 #[.bool false, .slice none 0 0] := by rw [hw2]; exact Blk.new w1 _ _
  have HCK := Lib.hid (check8_any 1 two8 [(false, [])] _ w.heap.size w.heap.size (some ⟨w.heap.size + 1 + 1, 0, none⟩) (some ⟨w1.heap.size, 0, none⟩) 2 1 w2 (by decide) (by decide) two8_lt (HOWN.out w2 hb12).1 (HOWN.out w2 hb12).2 (fun _ => ⟨w1.heap.size, 0, rfl, ks.lt, fun j hj => by
      obtain rfl : j = 0 := by simp at hj; omega
      exact ⟨none, 0, ks.cell 0, ks.cell 1, Cells.nil_, fun _ => ⟨0, World.ownsRow_nil _ _ _ _, fun g hg => by simp [Value.ownBlock] at hg⟩⟩⟩) ⟨by decide, fun k => by match k with | 0 => exact ⟨by decide, fun i => by simp [List.getD]⟩ | k + 1 => exact ⟨by simp [List.getD], fun i => by simp [List.getD]⟩⟩ (by decide) (HTE.out w2 hb2).1)
  have HB2 := Lib.hid hb2
  have HB12 := Lib.hid hb12
  have HK3 := Lib.hid k3
  have HW2 := Lib.hid hw2
  have HW1 := Lib.hid hw1
  have e4 : w1.heap.size = w.heap.size + 1 + 1 + 1 + 1 := hs1
  rw [e4] at HCK
  clear hT hE k0 k1 k2 k3 ks hb1 hb2 hb12 hw2 hw1
  go_enter Tryz.func9, Tryz.ntmps9
  go_wp2_with fail
  rw [← HW1.out, ← HW2.out]
  refine HCK.out.mono ?_
  rintro e w3 ⟨hb3, (⟨hf, _⟩ | ⟨_, en, bd, hch, rfl⟩)⟩
  · exact absurd hf (by decide)
  obtain ⟨rfl, rfl⟩ := two8_chk hch
  have HB13 := Lib.hid (HB12.out.trans (hb3.mono HB12.out.size))
  have HB3 := Lib.hid (HB2.out.trans (hb3.mono HB2.out.size))
  have hs3 := HB13.out.size
  have HK33 := Lib.hid (HK3.out.below HB13.out HK3.out.lt)
  obtain ⟨w4, hw4⟩ : ∃ w4, w4 = w3.alloc (.cells #[.bool true, .int .i64 0, .int .i64 (-1)] 40) := ⟨_, rfl⟩
  have hb34 : Below w3.heap.size w3 w4 := by rw [hw4]; exact (Below.refl _ _).alloc (Nat.le_refl _) _
  have HB14 := Lib.hid (HB13.out.trans (hb34.mono HB13.out.size))
  have HB4 := Lib.hid (HB3.out.trans (hb34.mono HB3.out.size))
  have HK34 := Lib.hid (HK33.out.below hb34 HK33.out.lt)
  have HR4 := Lib.hid (show Blk w4 w3.heap.size 40 #[.bool true, .int .i64 0, .int .i64 (-1)] by rw [hw4]; exact Blk.new w3 _ _)
  have htx := text8_any 1 two8 _ w.heap.size w.heap.size (some ⟨w.heap.size + 1 + 1, 0, none⟩) 2 [100, 32, 49, 32, 48, 10, 48, 10] m w4 (by decide) (by decide) two8_lt (HOWN.out w4 HB14.out).1 (HOWN.out w4 HB14.out).2 (by decide) (HTE.out w4 HB4.out).1 (HTE.out w4 HB4.out).2
  have HTX := Lib.hid htx
  have HW4 := Lib.hid hw4
  have f0 := HK33.out.cell 0
  have f1 := HK33.out.cell 1
  have g0 := HK34.out.cell 0
  have g1 := HK34.out.cell 1
  simp at f0 f1 g0 g1
  rw [hw4] at g0 g1
  clear hb3 hch hb34 htx hw4
  go_wp2_with fail
  rw [← HW4.out]
  refine HTX.out.mono ?_
  rintro e w5 ⟨r, k, htx, hb5, h5⟩
  rw [← fq_txt] at htx
  obtain ⟨rfl, rfl⟩ := txt_self8 fq_right htx
  rcases h5 with ⟨hf, _⟩ | ⟨_, en, bd, hch, rfl⟩
  · exact absurd hf (by decide)
  obtain ⟨rfl, rfl⟩ := two8_del hch
  have HB5 := Lib.hid (HB4.out.trans (hb5.mono HB4.out.size))
  have HR5 := Lib.hid (HR4.out.below hb5 HR4.out.lt)
  have q0 := HR5.out.cell 0
  have q1 := HR5.out.cell 1
  have q2 := HR5.out.cell 2
  have hs5 := hb5.size
  have hr5 := HR5.out.lt
  simp at q0 q1 q2
  have HBE := Lib.hid (HB5.out.alloc (by have := HB5.out.size; omega) (.cells #[.bool false, .int .i64 (-1), .int .i64 1] 40))
  clear hb5 htx hch
  go_wp2
  go_ret
  exact ⟨rfl, HBE.out⟩
end Go.Proofs.YthcpfaahcncfjaaGreatDoor
