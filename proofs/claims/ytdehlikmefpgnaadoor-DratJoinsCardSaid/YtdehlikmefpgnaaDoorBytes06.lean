/- Any bytes are a proof just if they are its bytes; what only lacks some is told so. -/
import Derived.Test.YtdehlikmefpgnaaDoorTexts06
import Derived.Deep.RegionHeld3
import Derived.Deep.QuietTactic
import Derived.BigQuiet
namespace Go.Proofs.YtdehlikmefpgnaaDoor
open Go.RowKit
set_option linter.unusedSimpArgs false
set_option linter.unusedVariables false
set_option linter.unnecessarySimpa false

theorem bytes_of_kints {w : World} {B : Nat} {A : Option Addr} {ns : List Int} (h : KInts .u8 w B A ns) (hb : ∀ j, 0 ≤ ns.getD j 0 ∧ ns.getD j 0 ≤ 255) : ∃ bs : List UInt8, bs.length = ns.length ∧ Bytes w B A bs := by
  refine ⟨ns.map fun n => UInt8.ofNat n.toNat, by simp, ?_⟩
  unfold Bytes
  rw [List.length_map]
  refine Cells.congr h fun j hj => ?_
  have := hb j
  simp [List.getD, hj] at this ⊢
  omega
theorem cells_bytes (bs : List UInt8) : (List.range bs.length).map (fun j => Value.int .u8 ((bs[j]?.getD 0).toNat : Int)) = Lib.byteCells bs := by
  apply List.ext_getElem
  · simp [Lib.byteCells]
  · intro j h1 h2
    simp at h1
    simp [Lib.byteCells, List.getD, h1]
/-- are they the bytes of a proof -/
def IsBin (b : List UInt8) : Prop := ∃ ps, stpsRight ps = true ∧ binOf ps = b
abbrev ends06 : List (List UInt8) := [[0], [1, 0], [2, 0], [1, 1, 0]]
theorem isBin_of {b : List UInt8} {ps : List Stp} (h : BinIs b (some ps, 0)) : stpsRight ps = true ∧ binOf ps = b := by
  rcases h with ⟨_, h1, h2⟩
  exact ⟨h1, h2⟩
theorem noBin_of {b : List UInt8} {k : Int} (h : BinIs b (none, k)) : ¬ IsBin b := by
  rintro ⟨ps, h1, h2⟩
  rcases h with _ | ⟨h3, _⟩ | h3
  · exact h3 ps h1 h2
  · exact h3 ps [] h1 (by rw [h2, List.append_nil])
theorem goes_short {b : List UInt8} (h : BinIs b (none, 10)) : ∃ i, i < 4 ∧ IsBin (b ++ ends06.getD i []) := by
  rcases h with _ | ⟨_, ps, e, h1, h2, h3⟩
  rcases h2 with rfl | rfl
  · exact ⟨0, by decide, ps, h1, h3⟩
  · exact ⟨1, by decide, ps, h1, h3⟩
theorem goes_form {b : List UInt8} (h : BinIs b (none, 9)) : ¬ ∃ i, i < 4 ∧ IsBin (b ++ ends06.getD i []) := by
  rintro ⟨i, _, ps, h1, h2⟩
  rcases h with _ | _ | h3
  exact h3 ps _ h1 h2
theorem bin_err {b : List UInt8} {k : Int} (h : BinIs b (none, k)) : k = 9 ∨ k = 10 := by
  rcases h with _ | _ | _
  · exact Or.inr rfl
  · exact Or.inl rfl

set_option maxRecDepth 100000 in
set_option maxHeartbeats 8000000 in
theorem bytes6_any (bs : List UInt8) (c : Nat) (A : Option Addr) (m : Int) (w : World) (hE : EnvN m w) (h : Bytes w w.heap.size A bs) (hc : bs.length ≤ c) (hl : bs.length ≤ 9223372036854775807) :
    Calls Tryd.prog 5 #[.slice A bs.length c] w fun e w' => e = .returned (.bool true) ∧ Below w.heap.size w w' := by
  obtain ⟨i0, hi, hz0, hz1, hz2⟩ := info_parts Tryd.infoByte
  have FT := Lib.hid (fit06_any m w hE)
  have HE := Lib.hid hE
  have H := Lib.hid h
  clear hE h
  go_enter Tryd.func5, Tryd.ntmps5
  go_wp2_with fail
  refine FT.out.mono ?_
  rintro e w1 ⟨rfl, hb1⟩
  have HB1 := Lib.hid hb1
  have hby1 : Bytes w1 w1.heap.size A bs := Cells.more (Cells.below H.out hb1) hb1.size
  have hs1 := hb1.size
  clear FT hb1
  by_cases hlong : 400 < bs.length
  · clear hby1
    go_wp2
    go_ret
    exact ⟨rfl, HB1.out⟩
  · have PB := Lib.hid (parseBinary_any bs w1.heap.size c A w1 hby1 (Nat.le_refl _) hc (by omega))
    have HBY1 := Lib.hid hby1
    clear hby1
    go_wp2_with fail
    refine PB.out.mono ?_
    rintro e w2 ⟨hb2, hcase⟩
    have HB2 := Lib.hid (HB1.out.trans (hb2.mono hs1))
    have hby2 : Bytes w2 w2.heap.size A bs := Cells.more (Cells.below HBY1.out hb2) hb2.size
    have hs2 := hb2.size
    clear hb2 PB
    rcases hcase with ⟨ps, A2, c2, rfl, h1, h2⟩ | ⟨k, rfl, h1, h2⟩
    · obtain ⟨hr, ht⟩ := isBin_of h1
      have hst := h2.steps
      have htl : (binOf ps).length ≤ 400 := by rw [ht]; omega
      have hpl : ps.length ≤ 400 := by have := (bin_lens (ps := ps)).1; omega
      have hwd := wide_of_right hr (by omega) (fun j => by have := (bin_lens (ps := ps)).2 j; omega)
      have RI := Lib.hid (fun w3 (hb3 : Below w2.heap.size w2 w3) => right6_any ps w2.heap.size c2 A2 w3 (hst.below hb3) hb3.size hwd)
      have BI := Lib.hid (fun w3 (hb3 : Below w2.heap.size w2 w3) => binary6_any ps w2.heap.size c2 A2 w3 (hst.below hb3) hb3.size hr (by omega))
      have KE := Lib.hid (fun w3 (hb3 : Below w2.heap.size w2 w3) => run_bytes_string (Cells.below hby2 hb3) c)
      rw [hr] at RI
      rw [ht] at BI
      have k0 := KE.out w2 (Below.refl _ _)
      clear hr ht hst hwd h1 h2 hby2 htl
      go_wp2_with fail
      go_region_held3 (fun w' => (convert 28 9 (.slice A bs.length c)).run Tryd.prog w' = .ok (.string ⟨bs.toArray⟩) w')
        (first | exact KK4.out | exact KK3.out | exact k0 | exact KE.out _ (Below.refl _ _).drew | go_keep)
        (first
          | (go_at_call 21; refine (RI.out w2.drew (Below.refl _ _).drew).mono ?_; rintro e w3 ⟨rfl, hb3'⟩; have HB3 := Lib.hid (below_undrew hb3'); have KK3 := Lib.hid (KE.out w3 HB3.out); clear hb3')
          | (go_at_call 18; refine (BI.out w3 HB3.out).mono ?_; rintro e w4 ⟨rfl, hb4'⟩; have HB4 := Lib.hid (HB3.out.trans (hb4'.mono HB3.out.size)); have KK4 := Lib.hid (KE.out w4 HB4.out); clear hb4'))
      go_wp2_with fail
      go_ret
      exact ⟨by simp, HB2.out.trans (HB4.out.mono HB2.out.size)⟩
    · have hk0 : (k == 0) = false := by simpa using h2
      have HBI := Lib.hid h1
      have HBY2 := Lib.hid hby2
      obtain ⟨w3, hw3⟩ : ∃ w3, w3 = w2.alloc (.cells #[.string ⟨#[0]⟩, .string ⟨#[1, 0]⟩, .string ⟨#[2, 0]⟩, .string ⟨#[1, 1, 0]⟩] 9) := ⟨_, rfl⟩
      have hbk : Blk w3 w2.heap.size 9 #[.string ⟨#[0]⟩, .string ⟨#[1, 0]⟩, .string ⟨#[2, 0]⟩, .string ⟨#[1, 1, 0]⟩] := by rw [hw3]; exact Blk.new w2 _ _
      have hb3 : Below w2.heap.size w2 w3 := by rw [hw3]; exact (Below.refl _ _).alloc (Nat.le_refl _) _
      have hs3 : w3.heap.size = w2.heap.size + 1 := by rw [hw3]; simp
      have HEND := Lib.hid (show ∀ i, i < 4 → w3.cell? ⟨w2.heap.size, i, none⟩ = some (.string ⟨(ends06.getD i []).toArray⟩) from fun i hi => by
        rw [hbk.cell]
        match i, hi with
        | 0, _ => rfl
        | 1, _ => rfl
        | 2, _ => rfl
        | 3, _ => rfl)
      have HEL := Lib.hid (show ∀ i, (ends06.getD i []).length ≤ 3 from fun i => by
        match i with
        | 0 => decide
        | 1 => decide
        | 2 => decide
        | 3 => decide
        | i + 4 => simp [List.getD])
      have HB3 := Lib.hid (HB2.out.trans (hb3.mono HB2.out.size))
      have HBY3 := Lib.hid (Cells.below hby2 hb3)
      have HS3 := Lib.hid hs3
      clear hbk hb3 hs3 h1 h2 hby2
      go_wp2
      rw [← hw3]
      clear hw3
      go_loopg [5, 36] 5 (fun gk g i wr => ∃ (q : Nat) (goes : Bool), q ≤ 4 ∧ gk = 4 - q + 1 ∧ i = .int .i64 q ∧ g = .bool goes ∧ (goes = true ↔ ∃ i, i < q ∧ IsBin (bs ++ ends06.getD i [])) ∧ Below w3.heap.size w3 wr)
      case atStart => exact ⟨0, false, by omega, by omega, rfl, rfl, by simp, Below.refl _ _⟩
      case round =>
        obtain ⟨q, goes, hq, rfl, rfl, rfl, hg, hb⟩ := hrel
        obtain ⟨wo, rfl⟩ : ∃ wo : World, wo = wr := ⟨_, rfl⟩
        have HG := Lib.hid hg
        have HBo := Lib.hid hb
        have hso := hb.size
        clear hg
        by_cases hlt : q < 4
        · have hce := (hb.cell (p := ⟨w2.heap.size, q, none⟩) (by have := HS3.out; simp; omega)).trans (HEND.out q hlt)
          have hby : Bytes wo w2.heap.size A bs := Cells.below HBY3.out (hb.mono (by have := HS3.out; omega))
          have hel := HEL.out q
          obtain ⟨en, hen⟩ : ∃ en, en = ends06.getD q [] := ⟨_, rfl⟩
          rw [← hen] at hce hel
          have HEN := Lib.hid hen
          have HBYo := Lib.hid hby
          clear hen hb hby
          go_wp2_with (at_builtin; refine wpList_append_cells _ rfl _ _ 28 rfl wo.heap.size 5 i0 (.int .u8 0) 1 Tryd.underlying28 hi hz0 hz1 hz2 rfl (.slice none 0 0) 0 [] rfl (World.ownsRow_nil _ _ _ _) w2.heap.size A bs.length c _ rfl HBYo.out (fun j _ => rfl) (by unfold maxLen; omega) (by omega) (Nat.le_refl _) ?_)
          intro v' w4 hown4 hg4 hob4
          rw [cells_bytes] at hown4
          obtain ⟨A4, c4, hv4, _⟩ := own_slice hown4
          have HOW4 := Lib.hid hown4
          have HB4 := Lib.hid (HBo.out.grown hg4 hso (fun g hg => by cases hg))
          have hs4 := hg4.size
          have HL4 := Lib.hid (HBYo.out.below (Below.grown (Below.refl wo.heap.size wo) hg4 (Nat.le_refl _) (fun g hg => by cases hg) |>.mono (by have := HS3.out; omega)))
          clear hown4 hg4 hob4 hv4
          go_wp2_with (at_builtin; refine Lib.wpList_append_own_string _ rfl _ _ 28 9 rfl wo.heap.size 5 i0 Tryd.underlying28 Tryd.underlying9 hi hz0 hz1 hz2 _ _ _ rfl HOW4.out ⟨en.toArray⟩ rfl ?c3 ?c4 ?c5 ?_)
          case c3 => show bs.length + en.toArray.size ≤ _; unfold maxLen; simp; omega
          case c4 => show bs.length + en.toArray.size ≤ _; simp; omega
          case c5 => omega
          intro v'' w5 hown5 hg5 _
          have e5 : bs.length + en.length = (bs ++ en).length := by simp
          rw [e5, Lib.strCells_eq, show (⟨en.toArray⟩ : ByteArray).data.toList = en from rfl, ← byteCells_append] at hown5
          obtain ⟨be, hbe⟩ : ∃ be, be = bs ++ en := ⟨_, rfl⟩
          rw [← hbe] at hown5
          obtain ⟨A5, c5, hv5, hc5, _⟩ := own_slice hown5
          subst hv5
          have hby5 := bytes_of_own hown5
          have hz5 := hg5.size
          have HB5 := Lib.hid (HB4.out.grown hg5 (by omega) (fun g hg => by have := (HOW4.out.lt g hg).1; omega))
          have hlb : be.length ≤ 403 := by rw [hbe, List.length_append]; omega
          have PB := Lib.hid (parseBinary_any be w5.heap.size c5 A5 w5 hby5 (Nat.le_refl _) hc5 (by omega))
          have HBE := Lib.hid hbe
          clear hown5 hg5 hby5 HOW4 hs4 hbe e5
          go_wp2_with (go_at_call 16; refine PB.out.mono ?_)
          rintro e w6 ⟨hb6, hcase⟩
          have HB6 := Lib.hid (HB5.out.trans (hb6.mono HB5.out.size))
          clear hb6 PB
          have hstep : ∀ (now : Bool), (now = true ↔ IsBin be) → ((goes || now) = true ↔ ∃ i, i < q + 1 ∧ IsBin (bs ++ ends06.getD i [])) := fun now hn => by
            rw [Bool.or_eq_true, HG.out, hn, HBE.out, HEN.out]
            constructor
            · rintro (⟨i, h1, h2⟩ | h)
              · exact ⟨i, by omega, h2⟩
              · exact ⟨q, by omega, h⟩
            · rintro ⟨i, h1, h2⟩
              rcases Nat.lt_or_ge i q with h3 | h3
              · exact Or.inl ⟨i, h3, h2⟩
              · obtain rfl : i = q := by omega
                exact Or.inr h2
          have HST := Lib.hid hstep
          clear hstep
          rcases hcase with ⟨qs, A6, c6, rfl, h1, h2⟩ | ⟨k6, rfl, h1, h2⟩
          · obtain ⟨hr, ht⟩ := isBin_of h1
            have HNOW := Lib.hid (show IsBin be from ⟨qs, hr, ht⟩)
            have hst := h2.steps
            have htl : (binOf qs).length ≤ 403 := by rw [ht]; exact hlb
            have BI := Lib.hid (fun w7 (hb7 : Below w6.heap.size w6 w7) => binary6_any qs w6.heap.size c6 A6 w7 (hst.below hb7) hb7.size hr (by omega))
            rw [ht] at BI
            have hby6 : Bytes w6 w2.heap.size A bs := Cells.below HBY3.out (HB6.out.mono (by have := HS3.out; omega))
            have KE := Lib.hid (fun w7 (hb7 : Below w2.heap.size w6 w7) => run_bytes_string (Cells.below hby6 hb7) c)
            have hs26 : w2.heap.size ≤ w6.heap.size := by have := HS3.out; have := HB6.out.size; omega
            have k0 := KE.out w6 (Below.refl _ _)
            have q2 := add_str (P := Tryd.prog) bs en be HBE.out (by omega) (by omega)
            clear hr ht hst htl h1 h2 hby6 hlb
            cases goes with
            | true =>
              go_wp2_with fail
              go_quiet (fail)
              go_wp2
              go_roundg (4 - q)
              case measure => omega
              case rel => exact ⟨q + 1, true, by omega, by omega, by go_num, rfl, (by simpa using HST.out true (by simp [HNOW.out])), below_drewN HB6.out _⟩
            | false =>
              go_wp2_with fail
              go_region_held3 (fun w' => (convert 28 9 (.slice A bs.length c)).run Tryd.prog w' = .ok (.string ⟨bs.toArray⟩) w')
                (first | exact KK7.out | exact k0 | exact KE.out _ (Below.refl _ _).drew | go_keep)
                (first
                  | (go_at_call 18; refine (BI.out w6.drew (Below.refl _ _).drew).mono ?_; rintro e w7 ⟨rfl, hb7'⟩; have HB7 := Lib.hid (below_undrew hb7'); have KK7 := Lib.hid (KE.out w7 (HB7.out.mono hs26)); clear hb7'))
              go_wp2_with fail
              go_roundg (4 - q)
              case measure => omega
              case rel => exact ⟨q + 1, true, by omega, by omega, by go_num, rfl, (by simpa using HST.out true (by simp [HNOW.out])), HB6.out.trans (HB7.out.mono HB6.out.size)⟩
          · have HNOW := Lib.hid (noBin_of h1)
            have hk6 : (k6 == 0) = false := by simpa using h2
            clear h1 h2
            cases goes with
            | true =>
              go_wp2_with fail
              go_quiet (fail)
              go_wp2
              go_roundg (4 - q)
              case measure => omega
              case rel => exact ⟨q + 1, true, by omega, by omega, by go_num, rfl, (by simpa using HST.out false (by simp [HNOW.out])), below_drewN HB6.out _⟩
            | false =>
              go_wp2_with fail
              go_quiet (fail)
              go_wp2
              go_roundg (4 - q)
              case measure => omega
              case rel => exact ⟨q + 1, false, by omega, by omega, by go_num, rfl, (by simpa using HST.out false (by simp [HNOW.out])), below_drewN HB6.out _⟩
        · obtain rfl : q = 4 := by omega
          have hkk := bin_err HBI.out
          rcases hkk with rfl | rfl
          · have hgf : goes = false := by
              cases goes with
              | false => rfl
              | true => exact absurd (HG.out.1 rfl) (goes_form HBI.out)
            subst hgf
            clear hb
            go_wp2
            go_ret
            exact ⟨rfl, HB3.out.trans (HBo.out.mono HB3.out.size)⟩
          · have hgt : goes = true := HG.out.2 (goes_short HBI.out)
            subst hgt
            clear hb
            go_wp2
            go_ret
            exact ⟨rfl, HB3.out.trans (HBo.out.mono HB3.out.size)⟩
theorem bytes6_raw (ns : List Int) (c : Nat) (A : Option Addr) (m : Int) (w : World) (hE : EnvN m w) (h : KInts .u8 w w.heap.size A ns) (hb : ∀ j, 0 ≤ ns.getD j 0 ∧ ns.getD j 0 ≤ 255) (hc : ns.length ≤ c) (hl : ns.length ≤ 9223372036854775807) :
    Calls Tryd.prog 5 #[.slice A ns.length c] w fun e w' => e = .returned (.bool true) ∧ Below w.heap.size w w' := by
  obtain ⟨bs, h1, h2⟩ := bytes_of_kints h hb
  rw [← h1] at hc hl ⊢
  exact bytes6_any bs c A m w hE h2 hc hl
end Go.Proofs.YtdehlikmefpgnaaDoor
