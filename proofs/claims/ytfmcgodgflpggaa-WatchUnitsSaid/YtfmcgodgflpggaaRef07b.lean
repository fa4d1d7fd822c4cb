/- The document's own answer of what follows: the plain search. -/
import Derived.Test.YtfmcgodgflpggaaRef07
import Derived.Test.YtfmcgodgflpggaaRupMath
namespace Go.Proofs.Ytfmcgodgflpggaa
open Go.RowKit
set_option linter.unusedVariables false

theorem range_ints07 (xs : List Int) : (List.range xs.length).map (fun j => Value.int .i64 (xs.getD j 0)) = xs.map (Value.int .i64) := by
  apply List.ext_getElem
  · simp
  · intro i h1 h2
    simp at h1
    simp [List.getD, h1]
theorem rows_row {xss : List (List Int)} {j : Nat} (hj : j < xss.length) : xss.getD j [] ∈ xss := by
  rw [show xss.getD j [] = xss[j] by simp [List.getD, hj]]
  exact List.getElem_mem hj
theorem neg_mid {x : Int} (h1 : -1000000 ≤ x) (h2 : x ≤ 1000000) : -1000000 ≤ -x ∧ -x ≤ 1000000 := by omega
theorem Kin.mid {cs : List (List Int)} {L k : List Int} (h : Kin cs L k) (hL : Mid L) (hc : ∀ c, c ∈ cs → Mid c) (hn : cs.flatten.length ≤ 1000000000) (hl : L.length ≤ 1000000000) : Mid k ∧ k.length ≤ 2000000000 := by
  have := h.len
  refine ⟨⟨by omega, fun x hx => ?_⟩, by omega⟩
  rcases (h.fol x hx).lit with h1 | ⟨c, h1, h2⟩
  · exact hL.2 x h1
  · exact (hc c h1).2 x h2

/-- the answer of a search, in a row of the caller's own -/
def Followed (cs : List (List Int)) (L : List Int) (w : World) (e : Ending) (w' : World) : Prop := ∃ (r : List Int) (ok : Bool) (Ar : Option Addr) (cr : Nat), e = .returned (.tuple #[.slice Ar r.length cr, .bool ok]) ∧ Told cs L r ok ∧ Mid r ∧ r.length ≤ 2000000000 ∧
      w'.ownsRow w.heap.size 3 1 (.slice Ar r.length cr) r.length (r.map (Value.int .i64)) ∧ Below w.heap.size w w'

set_option maxRecDepth 100000 in
set_option maxHeartbeats 4000000 in
theorem follow_any07 (cs : List (List Int)) (L : List Int) (B B' : Nat) (A A' : Option Addr) (c c' : Nat) (w : World) (hcs : cs.length ≤ 1000000000) (hm : ∀ d, d ∈ cs → Mid d) (hf : cs.flatten.length ≤ 1000000000) (hL : Mid L) (hl : L.length ≤ 1000000000)
    (h : Rows w B A cs) (h' : Ints w B' A' L) (hB : B ≤ w.heap.size) (hB' : B' ≤ w.heap.size) :
    Calls Try.prog 11 #[.slice A cs.length c, .slice A' L.length c'] w (Followed cs L w) := by
  have H := Lib.hid h
  have H' := Lib.hid h'
  have HM := Lib.hid hm
  have HF := Lib.hid hf
  have HL := Lib.hid hL
  obtain ⟨T, hT⟩ : ∃ T, T = cs.flatten.length := ⟨_, rfl⟩
  have HTT := Lib.hid hT
  have hTb : T ≤ 1000000000 := by rw [hT]; exact hf
  obtain ⟨i0, hi, hz0, hz1, hz2⟩ := info_parts Try.infoInt3
  clear h h' hm hf hL hT
  go_enter Try.func11, Try.ntmps11
  go_wp2_with (at_builtin; refine wpList_append_cells _ rfl _ _ 33 rfl w.heap.size 3 i0 (.int .i64 0) 8 Try.underlying33 hi hz0 hz1 hz2 rfl (.slice none 0 0) 0 [] rfl (World.ownsRow_nil _ _ _ _) B' A' L.length c' _ rfl H'.out (fun j _ => rfl) (by unfold maxLen; omega) (by omega) (Nat.le_refl _) ?_)
  intro v' w1 hown hg _
  have hb1 : Below w.heap.size w w1 := ⟨hg.os, hg.tape, hg.output, hg.size, fun k hk => hg.block k hk (by simp [Value.ownBlock])⟩
  have ho : w1.ownsRow w.heap.size 3 1 v' L.length (L.map (Value.int .i64)) := by
    rw [← range_ints07 L]
    simpa using hown
  obtain ⟨A1, c1, hv1, _⟩ := own_slice ho
  subst hv1
  have HO := Lib.hid ho
  have HB1 := Lib.hid hb1
  clear hown hg ho hb1
  go_wp2
  go_loopg [6] (T + 1) (fun gk v wr => ∃ (k : List Int) (Ak : Option Addr) (ck : Nat), gk = L.length + T - k.length + 1 ∧ v = .slice Ak k.length ck ∧ Hid (Kin cs L k) ∧
    wr.ownsRow w.heap.size 3 1 (.slice Ak k.length ck) k.length (k.map (Value.int .i64)) ∧ Below w.heap.size w wr)
  case atStart => exact ⟨L, A1, c1, by omega, rfl, Lib.hid Kin.start, HO.out, HB1.out⟩
  case round =>
    obtain ⟨k, Ak, ck, rfl, rfl, HK, hown, hbw⟩ := hrel
    obtain ⟨wo, rfl⟩ : ∃ wo : World, wo = wr := ⟨_, rfl⟩
    have HOK := Lib.hid hown
    have HBK := Lib.hid hbw
    obtain ⟨hmk, hk2⟩ := HK.out.mid HL.out HM.out HF.out hl
    have HMK := Lib.hid hmk
    have HIK := Lib.hid (ints_of_own hown)
    have HIN := Lib.hid (fun x => in_any07 k wo.heap.size Ak ck x wo (by omega) (ints_of_own hown))
    clear hown hbw hmk HO HB1
    go_wp2
    go_loopg [8] (k.length + 1) (fun gk i wr => ∃ j : Nat, wo = wr ∧ j ≤ k.length ∧ gk = k.length - j + 1 ∧ i = .int .i64 j ∧ Hid (∀ y, y ∈ k.take j → -y ∉ k))
    case atStart => exact ⟨0, rfl, by omega, by omega, rfl, Lib.hid (by simp)⟩
    case round =>
      obtain ⟨j, rfl, hj, rfl, rfl, HNO⟩ := hrel
      by_cases hlt : j < k.length
      · obtain ⟨b, off, rfl, _, hc⟩ := Cells.at_ HIK.out hlt
        obtain ⟨htk, hmem⟩ := take_snoc7 hlt
        have x1 := HMK.out.getD j
        obtain ⟨y, hy⟩ : ∃ y, y = k.getD j 0 := ⟨_, rfl⟩
        rw [← hy] at hc htk hmem x1
        have HTK := Lib.hid htk
        have HMEM := Lib.hid hmem
        obtain ⟨x1, x2⟩ := x1
        have hwy : IntKind.i64.wrap (-y) = -y := IntWalk.i64_in _ (by omega)
        clear hy htk hmem
        go_wp2_with fail
        refine (HIN.out (-y)).mono ?_
        rintro e w2 ⟨rfl, rfl⟩
        by_cases he : -y ∈ k
        · have HT := Lib.hid (told_no (HK.out.clash1 HMEM.out he))
          rw [decide_eq_true he]
          clear he
          go_wp2
          go_ret2
          exact ⟨[], false, none, 0, rfl, HT.out, ⟨by simp, fun x hx => by simp at hx⟩, by simp, World.ownsRow_nil _ _ _ _, HBK.out⟩
        · have HE := Lib.hid he
          rw [decide_eq_false he]
          clear he
          go_wp2
          go_roundg (k.length - j)
          case measure => omega
          case rel =>
            refine ⟨j + 1, rfl, by omega, by omega, by go_num, Lib.hid ?_⟩
            rw [HTK.out]
            intro z hz
            rcases List.mem_append.1 hz with hz | hz
            · exact HNO.out z hz
            · rw [List.mem_singleton.1 hz]; exact HE.out
      · obtain rfl : j = k.length := by omega
        rw [List.take_length] at HNO
        go_wp2
        go_loopg [6, 7, 9] (cs.length + 1) (fun gk v gr i wr => ∃ (k' : List Int) (A2 : Option Addr) (c2 : Nat) (g : Bool) (j : Nat), j ≤ cs.length ∧ gk = cs.length - j + 1 ∧ i = .int .i64 j ∧ v = .slice A2 k'.length c2 ∧ gr = .bool g ∧ Hid (Kin cs L k') ∧
          Hid ((g = false → k' = k ∧ ∀ d, d ∈ cs.take j → Still k d) ∧ (g = true → k.length < k'.length)) ∧
          wr.ownsRow w.heap.size 3 1 (.slice A2 k'.length c2) k'.length (k'.map (Value.int .i64)) ∧ Below w.heap.size w wr)
        case atStart => exact ⟨k, Ak, ck, false, 0, by omega, by omega, rfl, rfl, rfl, HK, Lib.hid ⟨fun _ => ⟨rfl, by simp⟩, fun h => by cases h⟩, HOK.out, HBK.out⟩
        case round =>
          obtain ⟨k', A2, c2, g, j, hj2, rfl, rfl, rfl, rfl, HK2, HG, hown2, hbw2⟩ := hrel
          obtain ⟨wp, rfl⟩ : ∃ wp : World, wp = wr := ⟨_, rfl⟩
          have HO2 := Lib.hid hown2
          have HB2 := Lib.hid hbw2
          obtain ⟨hmk2, hk3⟩ := HK2.out.mid HL.out HM.out HF.out hl
          have HIN2 := Lib.hid (fun x => in_any07 k' wp.heap.size A2 c2 x wp (by omega) (ints_of_own hown2))
          clear hown2 hbw2 hmk2
          by_cases hlt2 : j < cs.length
          · obtain ⟨b, off, Aj, cj, rfl, _, hcj, hij⟩ := (H.out.below (HB2.out.mono hB)).at_ hlt2
            have hmd := HM.out _ (rows_row hlt2)
            have hmem := rows_row hlt2
            have htk : cs.take (j + 1) = cs.take j ++ [cs.getD j []] := by rw [List.take_succ_eq_append_getElem hlt2]; simp [List.getD, hlt2]
            obtain ⟨d, hd⟩ : ∃ d, d = cs.getD j [] := ⟨_, rfl⟩
            rw [← hd] at hcj hij hmd hmem htk
            have HIJ := Lib.hid hij
            have HMD := Lib.hid hmd
            have HMEM := Lib.hid hmem
            have HTK := Lib.hid htk
            have hdl := hmd.1
            clear hij hmd hmem htk hd
            go_wp2
            go_loopg [10, 11, 12] (d.length + 1) (fun gk lf la i wr => ∃ (q s1 : Nat) (s2 : Int), wp = wr ∧ q ≤ d.length ∧ gk = d.length - q + 1 ∧ i = .int .i64 q ∧ lf = .int .i64 s1 ∧ la = .int .i64 s2 ∧ Hid (scanL k' (d.take q) = (s1, s2)) ∧ -1000000 ≤ s2 ∧ s2 ≤ 1000000 ∧ s1 ≤ q)
            case atStart => exact ⟨0, 0, 0, rfl, by omega, by omega, rfl, rfl, rfl, Lib.hid (by simp [scanL]), by omega, by omega, by omega⟩
            case round =>
              obtain ⟨q, s1, s2, rfl, hq, rfl, rfl, rfl, rfl, HS, hs1, hs2, hsq⟩ := hrel
              by_cases hlt3 : q < d.length
              · obtain ⟨b3, off3, rfl, _, hc3⟩ := Cells.at_ HIJ.out hlt3
                obtain ⟨htq, _⟩ := take_snoc7 hlt3
                obtain ⟨x1, x2⟩ := HMD.out.getD q
                obtain ⟨x, hx⟩ : ∃ x, x = d.getD q 0 := ⟨_, rfl⟩
                rw [← hx] at hc3 htq x1 x2
                have HTQ : Hid (scanL k' (d.take (q + 1)) = stepL k' (s1, s2) x) := Lib.hid (by rw [htq, scanL_snoc, HS.out])
                have hwx : IntKind.i64.wrap (-x) = -x := IntWalk.i64_in _ (by omega)
                clear hx htq
                go_wp2_with fail
                refine (HIN2.out (-x)).mono ?_
                rintro e w3 ⟨rfl, rfl⟩
                by_cases he : -x ∈ k'
                · have HS2 : Hid (scanL k' (d.take (q + 1)) = (s1, s2)) := Lib.hid (by rw [HTQ.out]; unfold stepL; rw [if_neg (fun h => h.1 he)])
                  rw [decide_eq_true he]
                  clear he
                  go_wp2
                  go_roundg (d.length - q)
                  case measure => omega
                  case rel => exact ⟨q + 1, s1, s2, rfl, by omega, by omega, by go_num, rfl, rfl, HS2, hs1, hs2, by omega⟩
                · rw [decide_eq_false he]
                  by_cases h0 : s1 = 0
                  · have HS2 : Hid (scanL k' (d.take (q + 1)) = (s1 + 1, x)) := Lib.hid (by rw [HTQ.out]; unfold stepL; rw [if_pos ⟨he, .inl h0⟩])
                    have hz : ((s1 : Int) == 0) = true := by simp; omega
                    clear he h0
                    go_wp2
                    go_roundg (d.length - q)
                    case measure => omega
                    case rel => exact ⟨q + 1, s1 + 1, x, rfl, by omega, by omega, by go_num, by go_num, rfl, HS2, x1, x2, by omega⟩
                  · have hz : ((s1 : Int) == 0) = false := by simp; omega
                    by_cases hne : x = s2
                    · have HS2 : Hid (scanL k' (d.take (q + 1)) = (s1, s2)) := Lib.hid (by rw [HTQ.out]; unfold stepL; rw [if_neg (fun h => by rcases h.2 with h | h; exact h0 h; exact h hne)])
                      have hz2 : (x != s2) = false := by simp [hne]
                      clear he h0 hne
                      go_wp2
                      go_roundg (d.length - q)
                      case measure => omega
                      case rel => exact ⟨q + 1, s1, s2, rfl, by omega, by omega, by go_num, rfl, rfl, HS2, hs1, hs2, by omega⟩
                    · have HS2 : Hid (scanL k' (d.take (q + 1)) = (s1 + 1, x)) := Lib.hid (by rw [HTQ.out]; unfold stepL; rw [if_pos ⟨he, .inr hne⟩])
                      have hz2 : (x != s2) = true := by simp [hne]
                      clear he h0 hne
                      go_wp2
                      go_roundg (d.length - q)
                      case measure => omega
                      case rel => exact ⟨q + 1, s1 + 1, x, rfl, by omega, by omega, by go_num, by go_num, rfl, HS2, x1, x2, by omega⟩
              · obtain rfl : q = d.length := by omega
                rw [List.take_length] at HS
                have HE1 : Hid ((scanL k' d).1 = s1) := Lib.hid (by rw [HS.out])
                have HE2 : Hid ((scanL k' d).2 = s2) := Lib.hid (by rw [HS.out])
                by_cases h0 : s1 = 0
                · have HT := Lib.hid (told_no (HK2.out.clash0 HMEM.out (by rw [HE1.out]; exact h0)))
                  have hz : ((s1 : Int) == 0) = true := by simp; omega
                  clear h0
                  go_wp2
                  go_ret2
                  exact ⟨[], false, none, 0, rfl, HT.out, ⟨by simp, fun x hx => by simp at hx⟩, by simp, World.ownsRow_nil _ _ _ _, HB2.out⟩
                · have hz : ((s1 : Int) == 0) = false := by simp; omega
                  by_cases h1 : s1 = 1
                  · have hq1 : ((s1 : Int) == 1) = true := by simp; omega
                    by_cases hin : s2 ∈ k'
                    · have HST : Hid (Still k' d) := Lib.hid ⟨by rw [HE1.out]; exact h0, fun _ => by rw [HE2.out]; exact hin⟩
                      clear h0 h1
                      go_wp2_with fail
                      refine (HIN2.out s2).mono ?_
                      rintro e w3 ⟨rfl, rfl⟩
                      rw [decide_eq_true hin]
                      clear hin
                      go_wp2
                      go_roundg (cs.length - j)
                      case measure => omega
                      case rel =>
                        refine ⟨k', A2, c2, g, j + 1, by omega, by omega, by go_num, rfl, rfl, HK2, Lib.hid ⟨fun hg => ?_, HG.out.2⟩, HO2.out, HB2.out⟩
                        obtain ⟨rfl, hs⟩ := HG.out.1 hg
                        refine ⟨rfl, fun z hz => ?_⟩
                        rw [HTK.out] at hz
                        rcases List.mem_append.1 hz with hz | hz
                        · exact hs z hz
                        · rw [List.mem_singleton.1 hz]; exact HST.out
                    · have HK3 : Hid (Kin cs L (k' ++ [s2])) := Lib.hid (by have := HK2.out.add HMEM.out (by rw [HE1.out]; exact h1) (by rw [HE2.out]; exact hin); rwa [HE2.out] at this)
                      clear h0 h1
                      go_wp2_with fail
                      refine (HIN2.out s2).mono ?_
                      rintro e w3 ⟨rfl, rfl⟩
                      rw [decide_eq_false hin]
                      clear hin
                      go_wp2_with (at_builtin; refine wpList_append1 _ rfl _ _ 33 rfl w.heap.size 3 i0 (.int .i64 0) 8 Try.underlying33 hi hz0 hz1 hz2 rfl _ k'.length _ rfl (HO2.out.alloc _) (.int .i64 s2) wp.heap.size rfl (by go_cell) rfl (by unfold maxLen; omega) (by omega) (by have := HB2.out.size; simp; omega) ?_)
                      intro v5 w5 hown5 hg5 _
                      obtain ⟨A5, c5, hv5, _⟩ := own_slice hown5
                      subst hv5
                      have HO5 := Lib.hid hown5
                      have HB5 := Lib.hid ((HB2.out.alloc HB2.out.size _).grown hg5 (by have := HB2.out.size; simp; omega) (fun z hz => (HO2.out.lt z hz).1))
                      clear hown5 hg5
                      go_wp2
                      go_roundg (cs.length - j)
                      case measure => omega
                      case rel =>
                        refine ⟨k' ++ [s2], A5, c5, true, j + 1, by omega, by omega, by go_num, by rw [List.length_append]; rfl, rfl, HK3, Lib.hid ⟨fun h => (by cases h), fun _ => ?_⟩, ?_, HB5.out⟩
                        · rw [List.length_append]
                          cases g with
                          | true => have := HG.out.2 rfl; simp; omega
                          | false => have := (HG.out.1 rfl).1; subst this; simp
                        · have := HO5.out
                          rw [List.length_append, List.map_append]
                          exact this
                  · have hq1 : ((s1 : Int) == 1) = false := by simp; omega
                    have HST : Hid (Still k' d) := Lib.hid ⟨by rw [HE1.out]; exact h0, fun h => absurd (HE1.out.symm.trans h) h1⟩
                    clear h0 h1
                    go_wp2
                    go_roundg (cs.length - j)
                    case measure => omega
                    case rel =>
                      refine ⟨k', A2, c2, g, j + 1, by omega, by omega, by go_num, rfl, rfl, HK2, Lib.hid ⟨fun hg => ?_, HG.out.2⟩, HO2.out, HB2.out⟩
                      obtain ⟨rfl, hs⟩ := HG.out.1 hg
                      refine ⟨rfl, fun z hz => ?_⟩
                      rw [HTK.out] at hz
                      rcases List.mem_append.1 hz with hz | hz
                      · exact hs z hz
                      · rw [List.mem_singleton.1 hz]; exact HST.out
          · obtain rfl : j = cs.length := by omega
            rw [List.take_length] at HG
            cases g with
            | true =>
              have hlen := HG.out.2 rfl
              have hl5 : k'.length ≤ L.length + T := by rw [HTT.out]; exact HK2.out.len
              go_wp2
              go_roundg (L.length + T - k'.length + 1)
              case measure => omega
              case rel => exact ⟨k', A2, c2, by omega, rfl, HK2, HO2.out, HB2.out⟩
            | false =>
              obtain ⟨rfl, hs⟩ := HG.out.1 rfl
              have HT := Lib.hid (HK2.out.done HNO.out hs)
              clear hs
              go_wp2
              go_ret2
              exact ⟨_, true, A2, c2, rfl, HT.out, HMK.out, hk3, HO2.out, HB2.out⟩

theorem Mid.negs {c : List Int} (h : Mid c) : Mid (negs c) := ⟨by simpa [Proofs.Ytfmcgodgflpggaa.negs] using h.1, fun x hx => by
  obtain ⟨y, hy, rfl⟩ := List.mem_map.1 hx
  have := h.2 y hy
  omega⟩

end Go.Proofs.Ytfmcgodgflpggaa
