/- The statement on clauses without a literal, and on two that are resolved: the walk. -/
import Derived.Test.YtkncndddednipaaClauses04
import Derived.Test.YtkncndddednipaaNorm4
import Derived.Test.YtkncndddednipaaLaw02
import Derived.Test.YtkncndddednipaaBoolBlk
import Derived.Deep.OwnRows
namespace Go.Proofs.Ytkncndddednipaa
open Go.RowKit

theorem ne_of_bne {a b : Int} (h : (a == b) = false) : a ≠ b := by simpa using h
theorem sat_resolve {z : List Bool} {xs ds : List Int} {p : Int} (h0 : p ≠ 0) (h1 : clauseSat z xs = true) (h2 : clauseSat z ds = true) : clauseSat z (resolveOf xs ds p) = true := by
  unfold clauseSat at *
  obtain ⟨x, hx, hs⟩ := List.any_eq_true.1 h1
  obtain ⟨y, hy, ht⟩ := List.any_eq_true.1 h2
  by_cases hxp : x = p
  · by_cases hyp : y = -p
    · exfalso
      subst hxp hyp
      unfold litHolds at hs ht
      rw [litVar_opp] at ht
      split at hs
      · rename_i hv
        rw [if_pos hv] at ht
        rcases Int.lt_trichotomy x 0 with hlt | heq | hgt
        · rw [decide_eq_false (show ¬ 0 < x by omega)] at hs
          rw [decide_eq_true (show 0 < -x by omega)] at ht
          simp at hs ht
          rw [hs] at ht
          cases ht
        · exact h0 heq
        · rw [decide_eq_true hgt] at hs
          rw [decide_eq_false (show ¬ 0 < -x by omega)] at ht
          simp at hs ht
          rw [hs] at ht
          cases ht
      · cases hs
    · exact List.any_eq_true.2 ⟨y, mem_resolveOf.2 (.inr ⟨hy, hyp⟩), ht⟩
  · exact List.any_eq_true.2 ⟨x, mem_resolveOf.2 (.inl ⟨hx, hxp⟩), hs⟩
theorem clauseOf_bd {ns : List Int} (hb : ∀ k, -128 ≤ ns.getD k 0 ∧ ns.getD k 0 ≤ 127) : ∀ x ∈ clauseOf ns, -128 ≤ x ∧ x ≤ 128 := by
  intro x hx
  have hm : x ∈ ns := (List.mem_filter.1 hx).1
  obtain ⟨k, hk, rfl⟩ := List.getElem_of_mem hm
  have := hb k
  simp only [List.getD, List.getElem?_eq_getElem hk, Option.getD_some] at this
  omega
theorem bd_getD {xs : List Int} (h : ∀ x ∈ xs, -128 ≤ x ∧ x ≤ 128) (k : Nat) : -128 ≤ xs.getD k 0 ∧ xs.getD k 0 ≤ 128 := by
  by_cases hk : k < xs.length
  · simp only [List.getD, List.getElem?_eq_getElem hk, Option.getD_some]; exact h _ (List.getElem_mem hk)
  · simp only [List.getD, List.getElem?_eq_none (Nat.le_of_not_lt hk), Option.getD_none]; omega
theorem Lits.resolve {xs ds : List Int} {p : Int} (hx : Lits xs) (hd : Lits ds) (hl : xs.length + ds.length ≤ 1000000000) : Lits (resolveOf xs ds p) := by
  refine ⟨?_, fun y hy => ?_⟩
  · have := norm_len (withoutOf xs p ++ withoutOf ds (-p))
    have := without_len xs p
    have := without_len ds (-p)
    unfold resolveOf
    simp at *
    omega
  · rcases mem_resolveOf.1 hy with h | h
    · exact hx.2 y h.1
    · exact hd.2 y h.1
theorem resolve_len (xs ds : List Int) (p : Int) : (resolveOf xs ds p).length ≤ xs.length + ds.length := by
  have := norm_len (withoutOf xs p ++ withoutOf ds (-p))
  have := without_len xs p
  have := without_len ds (-p)
  unfold resolveOf
  simp at *
  omega

theorem Try.infoBool4 : (Try.prog.info? 4).map (fun i => (i.zero, i.size, i.bytes)) = some (some (.bool false), 1, 1) := by kernel_rfl
theorem madeBools4 (n : Nat) : madeCells #[Value.bool false] n = boolCells (List.replicate n false) := by
  apply Array.ext'
  rw [toList_madeCells_one]
  simp [boolCells]

set_option maxRecDepth 100000 in
set_option maxHeartbeats 3200000 in
theorem resolves_any (ns ms : List Int) (n : Int) (B B' : Nat) (A A' : Option Addr) (c c' : Nat) (w : World) (hn : ns.length ≤ 140737488355328) (hm : ms.length ≤ 140737488355328) (hb : ∀ k, -128 ≤ ns.getD k 0 ∧ ns.getD k 0 ≤ 127) (hbm : ∀ k, -128 ≤ ms.getD k 0 ∧ ms.getD k 0 ≤ 127)
    (hn0 : 0 ≤ n) (hn1 : n ≤ 65535) (h : KInts .i8 w B A ns) (h' : KInts .i8 w B' A' ms) (hB : B ≤ w.heap.size) (hB' : B' ≤ w.heap.size) :
    Calls Try.prog 5 #[.slice A ns.length c, .slice A' ms.length c', .int .u16 n] w fun e w' => e = .returned (.bool true) ∧ Below w.heap.size w w' := by
  have H := Lib.hid h
  have H' := Lib.hid h'
  have HBD := Lib.hid hb
  have HBM := Lib.hid hbm
  clear h h' hb hbm
  go_enter Try.func5, Try.ntmps5
  go_wp2_with fail
  refine (fit04_any _).mono ?_
  rintro e w1 ⟨rfl, hb1⟩
  have HB1 := Lib.hid hb1
  have hs1 := hb1.size
  clear hb1
  by_cases h60 : 60 < ns.length + ms.length
  · go_wp2
    go_ret
    exact ⟨rfl, HB1.out⟩
  · go_wp2_with fail
    refine (clause_law_any ns B A c w1 (by omega) HBD.out (Cells.keep H.out fun p hp => HB1.out.cell (by omega)) (by omega)).mono ?_
    rintro e w2 ⟨Ac, cc, rfl, hown, hb⟩
    have hLx := clauseOf_lits (ns := ns) (by omega) HBD.out
    have hxl := clauseOf_len ns
    have HXB := Lib.hid (clauseOf_bd HBD.out)
    obtain ⟨xs, hxs⟩ : ∃ xs, xs = clauseOf ns := ⟨_, rfl⟩
    rw [← hxs] at hown hLx hxl HXB ⊢
    have hx60 : xs.length ≤ 60 := by omega
    have HI2 : Hid (Ints w2 w2.heap.size Ac xs) := Lib.hid (ints_of_own hown)
    have HL := Lib.hid hLx
    have HB2 := Lib.hid (HB1.out.trans (hb.mono HB1.out.size))
    have hs2 := HB2.out.size
    clear hown hb hxs hLx hxl
    go_wp2_with fail
    refine (clause_law_any ms B' A' c' w2 (by omega) HBM.out (Cells.keep H'.out fun p hp => HB2.out.cell (by omega)) (by omega)).mono ?_
    rintro e w3 ⟨Ad, cd, rfl, hown, hb⟩
    have hLx := clauseOf_lits (ns := ms) (by omega) HBM.out
    have hxl := clauseOf_len ms
    have HDB := Lib.hid (clauseOf_bd HBM.out)
    obtain ⟨ds, hds⟩ : ∃ ds, ds = clauseOf ms := ⟨_, rfl⟩
    rw [← hds] at hown hLx hxl HDB ⊢
    have hd60 : ds.length ≤ 60 := by omega
    have HD3 : Hid (Ints w3 w3.heap.size Ad ds) := Lib.hid (ints_of_own hown)
    have HI3 : Hid (Ints w3 w2.heap.size Ac xs) := Lib.hid (Cells.below HI2.out hb)
    have HLD := Lib.hid hLx
    have HB3 := Lib.hid (HB2.out.trans (hb.mono HB2.out.size))
    have hs3 := hb.size
    clear hown hb hds hLx hxl HI2
    obtain ⟨q, hq⟩ : ∃ q : Int, n % 9 = q := ⟨_, rfl⟩
    have hq0 : 0 ≤ q := by omega
    have hq1 : q ≤ 8 := by omega
    go_wp2_with fail
    obtain ⟨p, hp⟩ : ∃ p : Int, p = 1 + q := ⟨_, rfl⟩
    have hp1 : 1 ≤ p := by omega
    have hp2 : p ≤ 9 := by omega
    rw [← hp]
    clear hp hq hq0 hq1
    have hfl : xs.length + ds.length ≤ 120 := by omega
    refine (resolve_any xs ds p _ _ Ac Ad cc cd w3 HL.out HLD.out (by omega) (by omega) (by omega) HI3.out HD3.out (by omega) (Nat.le_refl _)).mono ?_
    rintro e w4 ⟨Ax, cx, rfl, hown, hb⟩
    have hxr := resolve_len xs ds p
    have HSAT : Hid (∀ z, clauseSat z xs = true → clauseSat z ds = true → clauseSat z (resolveOf xs ds p) = true) := Lib.hid fun z => sat_resolve (by omega)
    have HMX : Hid (∀ y, y ∈ resolveOf xs ds p ↔ (y ∈ xs ∧ y ≠ p) ∨ (y ∈ ds ∧ y ≠ -p)) := Lib.hid fun y => mem_resolveOf
    have HRX : Hid (Rising (resolveOf xs ds p)) := Lib.hid (rising_normOf _)
    have HLX : Hid (Lits (resolveOf xs ds p)) := Lib.hid (HL.out.resolve HLD.out (by omega))
    obtain ⟨xr, hxrr⟩ : ∃ xr, xr = resolveOf xs ds p := ⟨_, rfl⟩
    rw [← hxrr] at hown hxr HSAT HMX HRX HLX ⊢
    have HX4 : Hid (Ints w4 w4.heap.size Ax xr) := Lib.hid (ints_of_own hown)
    have HI4 : Hid (Ints w4 w2.heap.size Ac xs) := Lib.hid (Cells.below HI3.out (hb.mono hs3))
    have HD4 : Hid (Ints w4 w3.heap.size Ad ds) := Lib.hid (Cells.below HD3.out hb)
    have HB4 := Lib.hid (HB3.out.trans (hb.mono HB3.out.size))
    have hs4 := hb.size
    clear hown hb hxrr HI3 HD3
    go_wp2_with fail
    refine (without_any xs p _ Ac cc w4 HL.out HI4.out (by omega)).mono ?_
    rintro e w5 ⟨Aw, cw, rfl, hown, hb⟩
    have hwl := without_len xs p
    have HMW : Hid (∀ y, y ∈ withoutOf xs p ↔ y ∈ xs ∧ y ≠ p) := Lib.hid fun y => mem_withoutOf
    have HRW : Hid (Rising (withoutOf xs p)) := Lib.hid (rising_withoutOf xs p)
    have HLW : Hid (Lits (withoutOf xs p)) := Lib.hid (HL.out.without p)
    obtain ⟨xw, hxw⟩ : ∃ xw, xw = withoutOf xs p := ⟨_, rfl⟩
    rw [← hxw] at hown hwl HMW HRW HLW ⊢
    have HIw : Hid (Ints w5 w5.heap.size Aw xw) := Lib.hid (ints_of_own hown)
    have hs5 := hb.size
    have HIx : Hid (Ints w5 w5.heap.size Ax xr) := Lib.hid (Cells.more (Cells.below HX4.out hb) hs5)
    have HIc : Hid (Ints w5 w5.heap.size Ac xs) := Lib.hid (Cells.more (Cells.below HI4.out (hb.mono (by omega))) (by omega))
    have HId : Hid (Ints w5 w5.heap.size Ad ds) := Lib.hid (Cells.more (Cells.below HD4.out (hb.mono (by omega))) (by omega))
    have HB5 := Lib.hid (HB4.out.trans (hb.mono HB4.out.size))
    have hs05 := HB5.out.size
    clear hown hb hxw HX4 HI4 HD4 HB4
    go_wp2
    go_loopg [48] (xs.length + 1) (fun g i w' => ∃ k : Nat, w5 = w' ∧ k ≤ xs.length ∧ g = xs.length - k + 1 ∧ i = .int .i64 k)
    case atStart => exact ⟨0, rfl, by omega, by omega, rfl⟩
    case round =>
      obtain ⟨k, hw, hk, rfl, rfl⟩ := hrel
      subst hw
      by_cases hlt : k < xs.length
      · obtain ⟨b1, o1, hA1, _, hc1⟩ := Cells.at_ HIc.out hlt
        have hmem := getD_mem hlt
        have hyb := HL.out.getD k
        obtain ⟨y, hy⟩ : ∃ y, y = xs.getD k 0 := ⟨_, rfl⟩
        rw [← hy] at hc1 hmem hyb
        obtain ⟨hy1, hy2⟩ := hyb
        clear hy
        rcases hq : (y == p) with _ | _
        · have hq' : (y != p) = true := by simpa using hq
          have hne := ne_of_bne hq
          have HW1 := Lib.hid (List.contains_iff_mem.2 ((HMW.out y).2 ⟨hmem, hne⟩))
          have HX1 := Lib.hid (List.contains_iff_mem.2 ((HMX.out y).2 (.inl ⟨hmem, hne⟩)))
          have HA1 := Lib.hid hA1
          subst hA1
          clear hmem hne hq
          go_wp2_with fail
          refine (in_any xw y _ Aw cw _ (by omega) HIw.out).mono ?_
          rintro e w' ⟨rfl, rfl⟩
          rw [HW1.out]
          go_wp2_with fail
          refine (in_any xr y _ Ax cx _ (by omega) HIx.out).mono ?_
          rintro e w' ⟨rfl, rfl⟩
          rw [HX1.out]
          go_wp2
          go_roundg (xs.length - k)
          case measure => omega
          case rel => exact ⟨k + 1, rfl, by omega, by omega, by go_num⟩
        · have hq' : (y != p) = false := by simpa using hq
          have hW1 : xw.contains y = false := by
            rw [Bool.eq_false_iff]; intro hc; exact ((HMW.out y).1 (List.contains_iff_mem.1 hc)).2 (by simpa using hq)
          have HW1 := Lib.hid hW1
          subst hA1
          clear hmem hq hW1
          go_wp2_with fail
          refine (in_any xw y _ Aw cw _ (by omega) HIw.out).mono ?_
          rintro e w' ⟨rfl, rfl⟩
          rw [HW1.out]
          go_wp2
          go_roundg (xs.length - k)
          case measure => omega
          case rel => exact ⟨k + 1, rfl, by omega, by omega, by go_num⟩
      · go_wp2
        clear hk hlt
        go_loopg [73] (ds.length + 1) (fun g i w' => ∃ k : Nat, w5 = w' ∧ k ≤ ds.length ∧ g = ds.length - k + 1 ∧ i = .int .i64 k)
        case atStart => exact ⟨0, rfl, by omega, by omega, rfl⟩
        case round =>
          obtain ⟨k, hw, hk, rfl, rfl⟩ := hrel
          subst hw
          by_cases hlt : k < ds.length
          · obtain ⟨b1, o1, hA1, _, hc1⟩ := Cells.at_ HId.out hlt
            have hmem := getD_mem hlt
            have hyb := HLD.out.getD k
            obtain ⟨y, hy⟩ : ∃ y, y = ds.getD k 0 := ⟨_, rfl⟩
            rw [← hy] at hc1 hmem hyb
            obtain ⟨hy1, hy2⟩ := hyb
            clear hy
            rcases hq : (y == -p) with _ | _
            · have hq' : (y != -p) = true := by simpa using hq
              have hne := ne_of_bne hq
              have HX1 := Lib.hid (List.contains_iff_mem.2 ((HMX.out y).2 (.inr ⟨hmem, hne⟩)))
              subst hA1
              clear hmem hne hq
              go_wp2_with fail
              refine (in_any xr y _ Ax cx _ (by omega) HIx.out).mono ?_
              rintro e w' ⟨rfl, rfl⟩
              rw [HX1.out]
              go_wp2
              go_roundg (ds.length - k)
              case measure => omega
              case rel => exact ⟨k + 1, rfl, by omega, by omega, by go_num⟩
            · have hq' : (y != -p) = false := by simpa using hq
              subst hA1
              clear hmem hq
              go_wp2
              go_roundg (ds.length - k)
              case measure => omega
              case rel => exact ⟨k + 1, rfl, by omega, by omega, by go_num⟩
          · go_wp2
            clear hk hlt
            go_loopg [90] (xr.length + 1) (fun g i w' => ∃ k : Nat, w5 = w' ∧ k ≤ xr.length ∧ g = xr.length - k + 1 ∧ i = .int .i64 k)
            case atStart => exact ⟨0, rfl, by omega, by omega, rfl⟩
            case round =>
              obtain ⟨k, hw, hk, rfl, rfl⟩ := hrel
              subst hw
              by_cases hlt : k < xr.length
              · obtain ⟨b1, o1, hA1, _, hc1⟩ := Cells.at_ HIx.out hlt
                have hmem := getD_mem hlt
                have hyb := HLX.out.getD k
                obtain ⟨y, hy⟩ : ∃ y, y = xr.getD k 0 := ⟨_, rfl⟩
                rw [← hy] at hc1 hmem hyb
                obtain ⟨hy1, hy2⟩ := hyb
                clear hy
                have hcase := (HMX.out y).1 hmem
                have HA1 := Lib.hid hA1
                subst hA1
                clear hmem
                rcases hr : xs.contains y with _ | _
                · have hd : y ∈ ds ∧ y ≠ -p := by
                    rcases hcase with h | h
                    · rw [List.contains_iff_mem.2 h.1] at hr; cases hr
                    · exact h
                  have HR := Lib.hid hr
                  have HD1 := Lib.hid (List.contains_iff_mem.2 hd.1)
                  have hq : (y == -p) = false := by simpa using hd.2
                  have hq' : (y != -p) = true := by simpa using hd.2
                  clear hr hcase hd
                  go_wp2_with fail
                  refine (in_any xs y _ Ac cc _ (by omega) HIc.out).mono ?_
                  rintro e w' ⟨rfl, rfl⟩
                  rw [HR.out]
                  go_wp2_with fail
                  refine (in_any ds y _ Ad cd _ (by omega) HId.out).mono ?_
                  rintro e w' ⟨rfl, rfl⟩
                  rw [HD1.out]
                  go_wp2
                  go_roundg (xr.length - k)
                  case measure => omega
                  case rel => exact ⟨k + 1, rfl, by omega, by omega, by go_num⟩
                · have HR := Lib.hid hr
                  clear hr
                  rcases hq : (y == p) with _ | _
                  · have hq' : (y != p) = true := by simpa using hq
                    clear hcase
                    go_wp2_with fail
                    refine (in_any xs y _ Ac cc _ (by omega) HIc.out).mono ?_
                    rintro e w' ⟨rfl, rfl⟩
                    rw [HR.out]
                    go_wp2
                    go_roundg (xr.length - k)
                    case measure => omega
                    case rel => exact ⟨k + 1, rfl, by omega, by omega, by go_num⟩
                  · have hq' : (y != p) = false := by simpa using hq
                    have hd : y ∈ ds ∧ y ≠ -p := by
                      rcases hcase with h | h
                      · exact absurd (by simpa using hq) h.2
                      · exact h
                    have HD1 := Lib.hid (List.contains_iff_mem.2 hd.1)
                    have hqm : (y == -p) = false := by simpa using hd.2
                    have hqm' : (y != -p) = true := by simpa using hd.2
                    clear hcase hd
                    go_wp2_with fail
                    refine (in_any xs y _ Ac cc _ (by omega) HIc.out).mono ?_
                    rintro e w' ⟨rfl, rfl⟩
                    rw [HR.out]
                    go_wp2_with fail
                    refine (in_any ds y _ Ad cd _ (by omega) HId.out).mono ?_
                    rintro e w' ⟨rfl, rfl⟩
                    rw [HD1.out]
                    go_wp2
                    go_roundg (xr.length - k)
                    case measure => omega
                    case rel => exact ⟨k + 1, rfl, by omega, by omega, by go_num⟩
              · go_wp2
                clear hk hlt
                go_loopg [117] (xw.length + 1) (fun g i w' => ∃ k : Nat, w5 = w' ∧ k ≤ xw.length ∧ g = xw.length - k + 1 ∧ i = .int .i64 k)
                case atStart => exact ⟨0, rfl, by omega, by omega, rfl⟩
                case round =>
                  obtain ⟨k, hw, hk, rfl, rfl⟩ := hrel
                  subst hw
                  by_cases hlt : k < xw.length
                  · obtain ⟨b1, o1, hA1, _, hc1⟩ := Cells.at_ HIw.out hlt
                    have hmem := getD_mem hlt
                    have hyb := HLW.out.getD k
                    obtain ⟨y, hy⟩ : ∃ y, y = xw.getD k 0 := ⟨_, rfl⟩
                    rw [← hy] at hc1 hmem hyb
                    obtain ⟨hy1, hy2⟩ := hyb
                    clear hy
                    have HC1 := Lib.hid (List.contains_iff_mem.2 ((HMW.out y).1 hmem).1)
                    have HA1 := Lib.hid hA1
                    subst hA1
                    clear hmem
                    go_wp2_with fail
                    refine (in_any xs y _ Ac cc _ (by omega) HIc.out).mono ?_
                    rintro e w' ⟨rfl, rfl⟩
                    rw [HC1.out]
                    go_wp2
                    go_roundg (xw.length - k)
                    case measure => omega
                    case rel => exact ⟨k + 1, rfl, by omega, by omega, by go_num⟩
                  · have KEEP := Lib.hid hk
                    clear hk
                    rcases hr1 : xs.contains p with _ | _
                    · have HR1 := Lib.hid hr1
                      clear hr1
                      go_wp2_with fail
                      refine (in_any xs p _ Ac cc _ (by omega) HIc.out).mono ?_
                      rintro e w' ⟨rfl, rfl⟩
                      rw [HR1.out]
                      go_wp2_with fail
                      refine (form_any xr _ Ax cx _ (by omega) HLX.out.getD HRX.out HIx.out).mono ?_
                      rintro e w6 ⟨rfl, m6, rfl⟩
                      go_wp2_with fail
                      refine (form_any xw _ Aw cw _ (by omega) HLW.out.getD HRW.out (show Ints (w5.drewN m6) w5.heap.size Aw xw from HIw.out)).mono ?_
                      rintro e w7 ⟨rfl, m7, rfl⟩
                      go_wp2
                      go_ret
                      exact ⟨rfl, below_drewN HB5.out _⟩
                    · have HR1 := Lib.hid hr1
                      clear hr1
                      go_wp2_with fail
                      refine (in_any xs p _ Ac cc _ (by omega) HIc.out).mono ?_
                      rintro e w' ⟨rfl, rfl⟩
                      rw [HR1.out]
                      rcases hr2 : ds.contains (-p) with _ | _
                      · have HR2 := Lib.hid hr2
                        clear hr2
                        go_wp2_with fail
                        refine (in_any ds (-p) _ Ad cd _ (by omega) HId.out).mono ?_
                        rintro e w' ⟨rfl, rfl⟩
                        rw [HR2.out]
                        go_wp2_with fail
                        refine (form_any xr _ Ax cx _ (by omega) HLX.out.getD HRX.out HIx.out).mono ?_
                        rintro e w6 ⟨rfl, m6, rfl⟩
                        go_wp2_with fail
                        refine (form_any xw _ Aw cw _ (by omega) HLW.out.getD HRW.out (show Ints (w5.drewN m6) w5.heap.size Aw xw from HIw.out)).mono ?_
                        rintro e w7 ⟨rfl, m7, rfl⟩
                        go_wp2
                        go_ret
                        exact ⟨rfl, below_drewN HB5.out _⟩
                      · have HR2 := Lib.hid hr2
                        clear hr2
                        go_wp2_with fail
                        refine (in_any ds (-p) _ Ad cd _ (by omega) HId.out).mono ?_
                        rintro e w' ⟨rfl, rfl⟩
                        rw [HR2.out]
                        have hmk := run_make_row' (P := Try.prog) 42 4 (.bool false) 1 Try.underlying42 Try.infoBool4 rfl .i64 .i64 128 (by omega) (by omega)
                        rw [show ((128 : Nat) : Int) = 128 from rfl] at hmk
                        go_wp2
                        obtain ⟨w6, hw6⟩ : ∃ w6, w6 = w5.alloc (Obj.cells (madeCells #[Value.bool false] 128) 4) := ⟨_, rfl⟩
                        have HBK6 := Lib.hid (show BlkB w6 w5.heap.size 4 (List.replicate 128 false) by rw [hw6, madeBools4]; exact Blk.new w5 _ _)
                        have HIx6 : Hid (Ints w6 w5.heap.size Ax xr) := Lib.hid (by rw [hw6]; exact Cells.alloc HIx.out (Nat.le_refl _) _)
                        have HIw6 : Hid (Ints w6 w5.heap.size Aw xw) := Lib.hid (by rw [hw6]; exact Cells.alloc HIw.out (Nat.le_refl _) _)
                        have HIc6 : Hid (Ints w6 w5.heap.size Ac xs) := Lib.hid (by rw [hw6]; exact Cells.alloc HIc.out (Nat.le_refl _) _)
                        have HId6 : Hid (Ints w6 w5.heap.size Ad ds) := Lib.hid (by rw [hw6]; exact Cells.alloc HId.out (Nat.le_refl _) _)
                        have HB6 := Lib.hid (show Below w.heap.size w w6 by rw [hw6]; exact HB5.out.alloc hs05 _)
                        have hs6 : w5.heap.size ≤ w6.heap.size := by rw [hw6]; simp
                        rw [← hw6]
                        clear hw6 hmk HIx HIw HIc HId HB5 HR1 HR2
                        go_loopg [146] (128 + 1) (fun gk i wr => ∃ (j : Nat) (z : List Bool), j ≤ 128 ∧ gk = 128 - j + 1 ∧ i = .int .i64 j ∧ Hid (z.length = 128) ∧ BlkB wr w5.heap.size 4 z ∧ w6.grownBy wr (some w5.heap.size))
                        case atStart => exact ⟨0, _, by omega, by omega, rfl, Lib.hid (by simp), HBK6.out, World.grownBy.refl _ _⟩
                        case round =>
                          obtain ⟨j, z, hj, rfl, rfl, hz, hbk, hgr⟩ := hrel
                          have HBKr := Lib.hid hbk
                          have HGr := Lib.hid hgr
                          clear hbk hgr HBK6
                          by_cases hjl : j < 128
                          · have hc : wr.cell? ⟨w5.heap.size, j, none⟩ = some (.bool (z.getD j false)) := HBKr.out.cell (by rw [hz.out]; omega)
                            have hf : wr.frozen? ⟨w5.heap.size, j, none⟩ = false := HBKr.out.frozen j
                            obtain ⟨zj, hzj⟩ : ∃ zj, zj = z.getD j false := ⟨_, rfl⟩
                            rw [← hzj] at hc
                            obtain ⟨s, hs⟩ : ∃ s : Int, (j : Int) % 16 = s := ⟨_, rfl⟩
                            have hs0 : 0 ≤ s := by omega
                            have hs1 : s < 16 := by omega
                            clear hzj
                            go_wp2
                            go_roundg (128 - j)
                            case measure => omega
                            case rel => exact ⟨j + 1, _, by omega, by omega, by go_num, Lib.hid (by simp [hz.out]), HBKr.out.set_ j _, grown_trans HGr.out (grown_setCell _ ⟨w5.heap.size, j, none⟩ _)⟩
                          · obtain rfl : j = 128 := by omega
                            have hbl := below_of_grown HGr.out hs6 (Nat.le_refl _)
                            have HIx7 : Hid (Ints wr w5.heap.size Ax xr) := Lib.hid (Cells.below HIx6.out hbl)
                            have HIw7 : Hid (Ints wr w5.heap.size Aw xw) := Lib.hid (Cells.below HIw6.out hbl)
                            have HIc7 : Hid (Ints wr w5.heap.size Ac xs) := Lib.hid (Cells.below HIc6.out hbl)
                            have HId7 : Hid (Ints wr w5.heap.size Ad ds) := Lib.hid (Cells.below HId6.out hbl)
                            have HZ7 : Hid (Bools wr wr.heap.size (some ⟨w5.heap.size, 0, none⟩) z) := Lib.hid HBKr.out.bools
                            have HB7 := Lib.hid (HB6.out.trans (hbl.mono (by omega)))
                            have hs7 := hbl.size
                            have hs07 := HB7.out.size
                            clear hbl HIx6 HIw6 HIc6 HId6 HB6 HBKr HGr
                            go_wp2_with fail
                            obtain ⟨w8, hw8⟩ : ∃ w8, w8 = (wr.alloc (Obj.cells #[Value.slice Ac xs.length cc, Value.slice Ad ds.length cd] 24)).alloc (Obj.cells #[Value.int IntKind.i64 128, Value.slice (some ⟨wr.heap.size, 0, none⟩) 2 2] 38) := ⟨_, rfl⟩
                            have HIx8 : Hid (Ints w8 w5.heap.size Ax xr) := Lib.hid (by rw [hw8]; exact (Cells.alloc HIx7.out (by omega) _).alloc (by simp; omega) _)
                            have HIw8 : Hid (Ints w8 w5.heap.size Aw xw) := Lib.hid (by rw [hw8]; exact (Cells.alloc HIw7.out (by omega) _).alloc (by simp; omega) _)
                            have HR8 : Hid (Rows w8 w8.heap.size (some ⟨wr.heap.size, 0, none⟩) [xs, ds]) := Lib.hid (by
                              rw [hw8]
                              refine rows_blk4 (t := 24) (vs := [Value.slice Ac xs.length cc, Value.slice Ad ds.length cd]) ((Blk.new wr _ _).alloc _) (by simp; omega) fun j hj => ?_
                              match j, hj with
                              | 0, _ => exact ⟨_, _, rfl, Cells.more ((Cells.alloc HIc7.out (by omega) _).alloc (by simp; omega) _) (by simp; omega)⟩
                              | 1, _ => exact ⟨_, _, rfl, Cells.more ((Cells.alloc HId7.out (by omega) _).alloc (by simp; omega) _) (by simp; omega)⟩)
                            have HF8 : Hid (Blk w8 (wr.heap.size + 1) 38 #[Value.int IntKind.i64 128, Value.slice (some ⟨wr.heap.size, 0, none⟩) 2 2]) := Lib.hid (by
                              rw [hw8]
                              have := Blk.new (wr.alloc (Obj.cells #[Value.slice Ac xs.length cc, Value.slice Ad ds.length cd] 24)) 38 #[Value.int IntKind.i64 128, Value.slice (some ⟨wr.heap.size, 0, none⟩) 2 2]
                              simp only [World.size_alloc] at this
                              exact this)
                            have HZ8 : Hid (Bools w8 w8.heap.size (some ⟨w5.heap.size, 0, none⟩) z) := Lib.hid (by rw [hw8]; exact Cells.more ((Cells.alloc HZ7.out (Nat.le_refl _) _).alloc (by simp) _) (by simp; omega))
                            have HB8 := Lib.hid (show Below w.heap.size w w8 by rw [hw8]; exact (HB7.out.alloc (by omega) _).alloc (by simp; omega) _)
                            have hs8 : wr.heap.size + 2 ≤ w8.heap.size := by rw [hw8]; simp
                            rw [← hw8]
                            clear hw8 HIx7 HIw7 HIc7 HId7 HZ7 HB7
                            refine (form_any xr _ Ax cx _ (by omega) HLX.out.getD HRX.out HIx8.out).mono ?_
                            rintro e w9 ⟨rfl, m6, rfl⟩
                            go_wp2_with fail
                            refine (form_any xw _ Aw cw _ (by omega) HLW.out.getD HRW.out (show Ints (w8.drewN m6) w5.heap.size Aw xw from HIw8.out)).mono ?_
                            rintro e w10 ⟨rfl, m7, rfl⟩
                            obtain ⟨wd, hwd⟩ : ∃ wd, wd = (w8.drewN m6).drewN m7 := ⟨_, rfl⟩
                            have HIxd : Hid (Ints wd w5.heap.size Ax xr) := Lib.hid (by rw [hwd]; exact HIx8.out)
                            have HRd : Hid (Rows wd wd.heap.size (some ⟨wr.heap.size, 0, none⟩) [xs, ds]) := Lib.hid (by rw [hwd]; exact HR8.out)
                            have HFd : Hid (Blk wd (wr.heap.size + 1) 38 #[Value.int IntKind.i64 128, Value.slice (some ⟨wr.heap.size, 0, none⟩) 2 2]) := Lib.hid (by rw [hwd]; exact HF8.out)
                            have HZd : Hid (Bools wd wd.heap.size (some ⟨w5.heap.size, 0, none⟩) z) := Lib.hid (by rw [hwd]; exact HZ8.out)
                            have HBd : Hid (Below w.heap.size w wd) := Lib.hid (by rw [hwd]; exact below_drewN (below_drewN HB8.out _) _)
                            have hsd : wr.heap.size + 2 ≤ wd.heap.size := by rw [hwd]; exact hs8
                            rw [← hwd]
                            clear hwd HIx8 HIw8 HR8 HF8 HZ8 HB8
                            have f0 : wd.cell? ⟨wr.heap.size + 1, 0, none⟩ = some (.int .i64 128) := by rw [HFd.out.cell]; rfl
                            have f1 : wd.cell? ⟨wr.heap.size + 1, 1, none⟩ = some (.slice (some ⟨wr.heap.size, 0, none⟩) 2 2) := by rw [HFd.out.cell]; rfl
                            go_wp2_with fail
                            clear f0 f1
                            have hr : Calls Try.prog 18 #[.agg #[.int .i64 128, .slice (some ⟨wr.heap.size, 0, none⟩) 2 2], .slice (some ⟨w5.heap.size, 0, none⟩) 128 128] wd fun e w' => e = .returned (.bool (formSat z [xs, ds])) ∧ Below wd.heap.size wd w' := by
                              have h1 := docholds_any 128 [xs, ds] _ _ _ _ z 2 128 wd (by simp) (fun j => by match j with | 0 => simp; omega | 1 => simp; omega | j + 2 => simp) (fun j k => by
                                rw [hz.out]
                                match j with
                                | 0 => exact bd_getD HXB.out k
                                | 1 => exact bd_getD HDB.out k
                                | j + 2 => simp) (by rw [hz.out]; omega) HRd.out HZd.out (Nat.le_refl _) (Nat.le_refl _)
                              rw [hz.out] at h1
                              exact h1
                            refine hr.mono ?_
                            clear hr
                            rintro e w11 ⟨rfl, hb11⟩
                            have HIx11 : Hid (Ints w11 w5.heap.size Ax xr) := Lib.hid (Cells.below HIxd.out (hb11.mono (by omega)))
                            have HZ11 : Hid (Bools w11 wd.heap.size (some ⟨w5.heap.size, 0, none⟩) z) := Lib.hid (Cells.below HZd.out hb11)
                            have HB11 := Lib.hid (HBd.out.trans (hb11.mono HBd.out.size))
                            have hs11 := hb11.size
                            have hs011 := HB11.out.size
                            clear hb11 HIxd HRd HFd HZd HBd
                            rcases hsat : formSat z [xs, ds] with _ | _
                            · clear hsat
                              go_wp2
                              go_ret
                              exact ⟨rfl, HB11.out⟩
                            · have hx1 : formSat z [xr] = true := by
                                unfold formSat at hsat ⊢
                                simp at hsat ⊢
                                exact HSAT.out z hsat.1 hsat.2
                              have HX1 := Lib.hid hx1
                              clear hsat hx1
                              go_wp2_with fail
                              obtain ⟨w12, hw12⟩ : ∃ w12, w12 = w11.alloc (Obj.cells #[Value.slice Ax xr.length cx] 24) := ⟨_, rfl⟩
                              have HR12 : Hid (Rows w12 w12.heap.size (some ⟨w11.heap.size, 0, none⟩) [xr]) := Lib.hid (by
                                rw [hw12]
                                refine rows_blk4 (t := 24) (vs := [Value.slice Ax xr.length cx]) (Blk.new w11 _ _) (by simp) fun j hj => ?_
                                match j, hj with
                                | 0, _ => exact ⟨_, _, rfl, Cells.more (Cells.alloc HIx11.out (by omega) _) (by simp; omega)⟩)
                              have HZ12 : Hid (Bools w12 w12.heap.size (some ⟨w5.heap.size, 0, none⟩) z) := Lib.hid (by rw [hw12]; exact Cells.more (Cells.alloc HZ11.out hs11 _) (by simp; omega))
                              have HB12 := Lib.hid (show Below w.heap.size w w12 by rw [hw12]; exact HB11.out.alloc hs011 _)
                              rw [← hw12]
                              clear hw12 HIx11 HZ11 HB11
                              have hr : Calls Try.prog 18 #[.agg #[.int .i64 128, .slice (some ⟨w11.heap.size, 0, none⟩) 1 1], .slice (some ⟨w5.heap.size, 0, none⟩) 128 128] w12 fun e w' => e = .returned (.bool true) ∧ Below w12.heap.size w12 w' := by
                                have h1 := docholds_any 128 [xr] _ _ _ _ z 1 128 w12 (by simp) (fun j => by match j with | 0 => simp; omega | j + 1 => simp) (fun j k => by
                                  rw [hz.out]
                                  match j with
                                  | 0 => exact bd_getD (fun y hy => by rcases (HMX.out y).1 hy with h | h; exact HXB.out y h.1; exact HDB.out y h.1) k
                                  | j + 1 => simp) (by rw [hz.out]; omega) HR12.out HZ12.out (Nat.le_refl _) (Nat.le_refl _)
                                rw [hz.out, HX1.out] at h1
                                exact h1
                              refine hr.mono ?_
                              clear hr
                              rintro e w13 ⟨rfl, hb13⟩
                              have HB13 := Lib.hid (HB12.out.trans (hb13.mono HB12.out.size))
                              clear hb13
                              go_wp2
                              go_ret
                              exact ⟨rfl, HB13.out⟩

theorem resolves_raw (a a' : Option Addr) (len cap len' cap' : Nat) (z z' : Nat → Int) (n : Int) (W : World) (h : IsInts .i8 W a len cap z) (h' : IsInts .i8 W a' len' cap' z') (hs : cap * 1 ≤ 140737488351232) (hs' : cap' * 1 ≤ 140737488351232) (hn : (Lit.int .u16 n).wf = true) :
    Calls Try.prog 5 #[.slice a len cap, .slice a' len' cap', .int .u16 n] W fun e w' => e = .returned (.bool true) ∧ Below W.heap.size W w' := by
  have hl := h.1
  have hl' := h'.1
  obtain ⟨ns, rfl, _, hk, hw⟩ := kints_of h
  obtain ⟨ms, rfl, _, hk', hw'⟩ := kints_of h'
  have hb := bounds_u16 hn
  exact resolves_any ns ms n _ _ a a' cap cap' W (by omega) (by omega) (i8_bounds hw) (i8_bounds hw') hb.1 hb.2 hk hk' (Nat.le_refl _) (Nat.le_refl _)
end Go.Proofs.Ytkncndddednipaa
