/- The statement on clauses without literals: the walk. -/
import Derived.Test.YtbejjddkndcldaaOpenPair
import Derived.Test.YtbejjddkndcldaaEmp14
import Derived.Deep.RegionHeld3
namespace Go.Proofs.Ytbejjddkndcldaa
open Go.RowKit
set_option linter.unusedVariables false
set_option linter.unusedSimpArgs false

macro "emp_blk" : tactic => `(tactic| repeat (first
  | with_reducible exact Blk.new _ _ _
  | with_reducible exact blk_new14 (by simp)
  | with_reducible refine Blk.drew_ ?_
  | with_reducible refine Blk.alloc ?_ _))

set_option maxRecDepth 100000 in
set_option maxHeartbeats 8000000 in
theorem empty14_any (v u : Nat) (fs : List Int) (Af : Option Addr) (cf : Nat) (w : World) (hv : v ≤ 255) (hu : u ≤ 255) (hi : KInts .u8 w w.heap.size Af fs) (hfs : ∀ y ∈ fs, 0 ≤ y ∧ y ≤ 255) :
    Calls Try.prog 9 #[.int .u8 v, .int .u8 u, .slice Af fs.length cf] w fun e w' => e = .returned (.bool true) ∧ Below w.heap.size w w' := by
  have HI := Lib.hid hi
  have HFS := Lib.hid hfs
  obtain ⟨n, hn⟩ : ∃ n : Nat, (v : Int) % 10 = n := ⟨v % 10, by omega⟩
  obtain ⟨k, hk⟩ : ∃ k : Nat, (u : Int) % 5 = k := ⟨u % 5, by omega⟩
  have hn9 : n ≤ 9 := by omega
  have hk4 : k ≤ 4 := by omega
  clear hi hfs
  go_enter Try.func9, Try.ntmps9
  go_wp2_with fail
  refine (fit_any14 w).mono ?_
  rintro e w1 ⟨rfl, hb1⟩
  have HB1 := Lib.hid hb1
  have hs1 := hb1.size
  clear hb1
  by_cases hlen : 40 < fs.length
  · have hlI : (40 : Int) < (fs.length : Int) := by omega
    go_wp2
    go_ret
    exact ⟨rfl, HB1.out⟩
  · have hlI : ¬ (40 : Int) < (fs.length : Int) := by omega
    have hm1 := run_make_row' (P := Try.prog) 28 32 (.slice none 0 0) 24 Try.underlying28 infoR14 rfl .i64 .i64 k (by omega) (by omega)
    have hm2 := run_make_row' (P := Try.prog) 51 4 (.bool false) 1 Try.underlying51 infoCB rfl .i64 .i64 n (by omega) (by omega)
    go_wp2_with fail
    clear hn hk hv hu
    go_cut [9, 10] (fun x y wx => ∃ ρ g s b, x = .pointer (some ⟨g, 0, none⟩) ∧ y = .int .i64 0 ∧ Hid (St14 wx w1.heap.size ρ g (List.replicate n false) (empties k) s b) ∧ Hid (b.flips ≤ 0 ∧ b.fewest = k ∧ b.of (List.replicate n false) = List.replicate n false ∧ (List.replicate n false).length = n) ∧ Hid (Below w1.heap.size w1 wx))
    case first =>
      go_region_held3 (fun _ => True) (trivial) (first
        | (go_at_call 21; with_reducible refine (emp_new n k _ _ _ (by omega) (by omega) (by emp_blk) (by emp_blk)).mono ?_; rintro e w8 ⟨ρ, g, s, b, rfl, hst, hf1, hf2, hf3, hb8⟩; have HST := Lib.hid hst; have HBL := Lib.hid hb8; clear hst hb8))
      all_goals
        go_wp2_with fail
        go_meet
        exact ⟨ρ, g, s, b, rfl, rfl, Lib.hid (HST.out.base (by simp; omega)), Lib.hid ⟨hf1, hf2, hf3, by simp⟩, Lib.hid (((((Below.refl w1.heap.size w1).alloc (Nat.le_refl _) _).alloc (by simp) _).drew).trans (HBL.out.mono (by simp; omega)))⟩
    case rest =>
      obtain ⟨ρ8, g, s8, b8, rfl, rfl, HS8, HF8, HB8⟩ := hcut
      obtain ⟨w8, rfl⟩ : ∃ w8, w8 = wc := ⟨_, rfl⟩
      obtain ⟨wb, hwb⟩ : ∃ wb : World, wb = w1 := ⟨_, rfl⟩
      clear hm1 hm2 hwb wb
      go_wp2_with fail
      go_loopg [47] (fs.length + 1) (fun gk ti wr => ∃ (i : Nat) (z : List Bool) (ρ : Nat → Nat) (s : LS) (b : BS), i ≤ fs.length ∧ gk = fs.length - i + 1 ∧ ti = .int .i64 (i : Nat) ∧ Hid (b.flips ≤ i ∧ b.fewest = k ∧ b.of z = List.replicate n false ∧ z.length = n) ∧ Hid (St14 wr w1.heap.size ρ g z (empties k) s b) ∧ Hid (Below w1.heap.size w1 wr))
      case atStart => exact ⟨0, _, ρ8, s8, b8, by omega, by omega, rfl, HF8, HS8, HB8⟩
      case round =>
        obtain ⟨i, z, ρ, s, b, hi, rfl, rfl, HF, HS, HB⟩ := hrel
        clear HF8 HS8 HB8
        by_cases hlt : i < fs.length
        · have hfi := HFS.out (fs.getD i 0) (by simp only [List.getD, List.getElem?_eq_getElem hlt, Option.getD_some]; exact List.getElem_mem hlt)
          obtain ⟨bq, oq, eAf, bqb, cv⟩ := Cells.at_ (Cells.below HI.out (HB1.out.trans (HB.out.mono hs1))) hlt
          obtain ⟨x, hxx⟩ : ∃ x, fs.getD i 0 = x := ⟨_, rfl⟩
          rw [hxx] at hfi cv
          have HFL := Lib.hid (emp_flip HS.out (by have := HF.out.1; omega) HF.out.2.1 x (by omega))
          have hiI : (i : Int) < (fs.length : Int) := by omega
          subst eAf
          clear hxx
          go_wp2_with fail
          with_reducible refine HFL.out.mono ?_
          rintro e w9 ⟨rfl, ρ1, z1, s1, b1, hst1, hbl1, hz1, hf1, hf2, hf3⟩
          have HS1 := Lib.hid hst1
          have HB1' := Lib.hid (HB.out.trans hbl1)
          have HF1 : Hid (b1.flips ≤ i + 1 ∧ b1.fewest = k ∧ b1.of z1 = List.replicate n false ∧ z1.length = n) := Lib.hid ⟨by have := HF.out.1; omega, hf2, hf3.trans HF.out.2.2.1, hz1.trans HF.out.2.2.2⟩
          have HU := Lib.hid (emp_unsat HS1.out)
          have HC := Lib.hid (emp_clauses HS1.out)
          clear hst1 hbl1 hz1 hf1 hf2 hf3 HFL cv
          go_wp2_with fail
          with_reducible refine HU.out.mono ?_
          rintro e w10 ⟨rfl, rfl⟩
          go_wp2_with fail
          with_reducible refine HC.out.mono ?_
          rintro e w10 ⟨rfl, rfl⟩
          clear HU HC
          go_wp2_with fail
          go_loopg [13] (n + 1) (fun gj tj wi => ∃ y : Nat, 1 ≤ y ∧ y ≤ n + 1 ∧ gj = n + 1 - y + 1 ∧ tj = .int .i64 (y : Nat) ∧ Hid (St14 wi w1.heap.size ρ1 g z1 (empties k) s1 b1) ∧ Hid (Below w1.heap.size w1 wi))
          case atStart => exact ⟨1, by omega, by omega, by omega, rfl, HS1, HB1'⟩
          case round =>
            obtain ⟨y, hy1, hy2, rfl, rfl, HSi, HBi⟩ := hrel
            clear HS1 HB1'
            by_cases hly : y ≤ n
            · have hlyI : (y : Int) ≤ (n : Int) := by omega
              have HBK := Lib.hid (emp_break HSi.out (y : Int) (by omega))
              have HMK := Lib.hid (emp_makes HSi.out (y : Int) (by omega))
              go_wp2_with fail
              with_reducible refine HBK.out.mono ?_
              rintro e w10 ⟨rfl, rfl⟩
              go_wp2_with fail
              with_reducible refine HMK.out.mono ?_
              rintro e w10 ⟨rfl, m, rfl⟩
              have HS2 := Lib.hid (HSi.out.drewN m)
              have HB2 := Lib.hid (below_drewN HBi.out m)
              clear HBK HMK
              go_wp2_with fail
              go_roundg (n + 1 - y)
              case measure => omega
              case rel => exact ⟨y + 1, by omega, by omega, by omega, by go_num, HS2, HB2⟩
            · have hlyI : ¬ (y : Int) ≤ (n : Int) := by omega
              go_wp2_with fail
              go_roundg (fs.length - i)
              case measure => omega
              case rel => exact ⟨i + 1, z1, ρ1, s1, b1, by omega, by omega, by go_num, HF1, HSi, HBi⟩
        · have hie : fs.length = i := by omega
          subst hie
          have hbe := st_best HS.out
          rw [HF.out.2.2.2, HF.out.2.2.1, HF.out.2.1] at hbe
          have HBE := Lib.hid hbe
          clear hbe
          go_wp2_with fail
          with_reducible refine HBE.out.mono ?_
          rintro e w9 ⟨Ab, cb, rfl, hown, hb9⟩
          have hc := bools_cells (zs := List.replicate n false) (w := w9) (base := wr.heap.size) (t := 4) (A := Ab) (c := cb) (by rw [List.length_replicate]; exact hown)
          rw [List.length_replicate] at hc
          have HZB : Hid (Cells w9 w9.heap.size Ab n fun _ => .bool false) := Lib.hid (hc.congr fun j hj => by simp [List.getD, hj])
          have HB9 := Lib.hid (HB.out.trans (hb9.mono HB.out.size))
          clear hown hb9 HBE HS HF HB hc
          go_wp2_with fail
          go_loopg [88] (n + 1) (fun gj tj wi => ∃ y : Nat, wi = w9 ∧ y ≤ n ∧ gj = n - y + 1 ∧ tj = .int .i64 (y : Nat))
          case atStart => exact ⟨0, rfl, by omega, by omega, rfl⟩
          case round =>
            obtain ⟨y, hwi, hy, rfl, rfl⟩ := hrel
            subst hwi
            by_cases hly : y < n
            · have hlyI : (y : Int) < (n : Int) := by omega
              obtain ⟨bz, oz, eAz, _, cz⟩ := Cells.at_ HZB.out hly
              subst eAz
              go_wp2_with fail
              go_roundg (n - y)
              case measure => omega
              case rel => exact ⟨y + 1, rfl, by omega, by omega, by go_num⟩
            · have hye : n = y := by omega
              subst hye
              have HBE := Lib.hid (HB1.out.trans (HB9.out.mono hs1))
              go_wp2_with fail
              go_ret
              exact ⟨rfl, HBE.out⟩
theorem empty14_raw (u v : Int) (w : World) (Al : Option Addr) (len cap : Nat) (z : Nat → Int) (hu : (Lit.int .u8 u).wf = true) (hv : (Lit.int .u8 v).wf = true) (hi : IsInts .u8 w Al len cap z) :
    Calls Try.prog 9 #[.int .u8 u, .int .u8 v, .slice Al len cap] w fun e w' => e = .returned (.bool true) ∧ Below w.heap.size w w' := by
  obtain ⟨a, rfl, ha⟩ := u8_nat14 hu
  obtain ⟨b, rfl, hb⟩ := u8_nat14 hv
  obtain ⟨fs, rfl, _, hk, hw⟩ := list_of hi
  exact empty14_any a b fs Al cap w ha hb hk fun y hy => by have := bounds_u8 (hw y hy); omega
end Go.Proofs.Ytbejjddkndcldaa
