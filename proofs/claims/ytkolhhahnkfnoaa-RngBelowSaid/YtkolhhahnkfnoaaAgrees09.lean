/- The statement on streams that agree. -/
import Derived.Test.YtkolhhahnkfnoaaRuns09
namespace Go.Proofs.Ytkolhhahnkfnoaa
open Go.RowKit
set_option linter.unusedVariables false
set_option linter.unusedSimpArgs false

/-- a row of one's own that may be written -/
def RowW (w : World) (lo hi : Nat) (A : Option Addr) (n : Nat) (f : Nat → Nat) : Prop :=
  0 < n → ∃ g, A = some ⟨g, 0, none⟩ ∧ lo ≤ g ∧ g < hi ∧ g < w.heap.size ∧ ∀ j, j < n → w.cell? ⟨g, j, none⟩ = some (.int .u64 (f j)) ∧ w.frozen? ⟨g, j, none⟩ = false
theorem Strm.far {w : World} {B b : Nat} {ws : List Nat} {last drawn : Nat} (h : Strm w B b ws last drawn) {p : Addr} (hp : p.block < B) (u : Value) : Strm (w.setCell p u) B b ws last drawn := by
  obtain ⟨A, c, h1, h2, h3, h4⟩ := h.ex
  have hl := h.low
  refine ⟨⟨A, c, h1.far (by omega) u, fun h0 => ?_, h3, h4⟩, h.last, h.low, h.wide, h.small⟩
  obtain ⟨g, off, e, hb, hc⟩ := h2 h0
  have := h4 g off (by simpa using h0) e
  exact ⟨g, off, e, hb, fun j hj => (World.cell?_setCell_other _ _ _ _ (fun e => by subst e; simp at hp; omega)).trans (hc j hj)⟩
theorem RowW.set {w : World} {lo hi n i : Nat} {g : Nat} {f : Nat → Nat} (h : RowW w lo hi (some ⟨g, 0, none⟩) n f) (hi' : i < n) (v : Nat) : RowW (w.setCell ⟨g, i, none⟩ (.int .u64 v)) lo hi (some ⟨g, 0, none⟩) n (fun j => if j = i then v else f j) := fun h0 => by
  obtain ⟨g', e, h1, h2, h3, h4⟩ := h h0
  injection e with e; injection e with e; subst e
  refine ⟨g, rfl, h1, h2, by simpa using h3, fun j hj => ⟨?_, by rw [World.frozen?_setCell]; exact (h4 j hj).2⟩⟩
  show _ = some (Value.int .u64 (((if j = i then v else f j : Nat)) : Int))
  by_cases hji : j = i
  · subst hji
    rw [if_pos rfl]
    exact World.cell?_setCell_same _ _ _ (h4 j hj).1
  · rw [if_neg hji, World.cell?_setCell_other _ _ _ _ (fun e => hji (by injection e with _ e; exact e.symm))]
    exact (h4 j hj).1
theorem RowW.congr {w : World} {lo hi n : Nat} {A : Option Addr} {f g : Nat → Nat} (h : RowW w lo hi A n f) (e : ∀ j, j < n → f j = g j) : RowW w lo hi A n g := fun h0 => by
  obtain ⟨g', e1, h1, h2, h3, h4⟩ := h h0
  exact ⟨g', e1, h1, h2, h3, fun j hj => by rw [← e j hj]; exact h4 j hj⟩
theorem RowW.below {w w' : World} {lo hi n : Nat} {A : Option Addr} {f : Nat → Nat} (h : RowW w lo hi A n f) (hb : Below hi w w') : RowW w' lo hi A n f := fun h0 => by
  obtain ⟨g', e1, h1, h2, h3, h4⟩ := h h0
  exact ⟨g', e1, h1, h2, Nat.lt_of_lt_of_le h3 hb.size, fun j hj => ⟨(hb.cell (by exact h2)).trans (h4 j hj).1, (hb.frozen (by exact h2)).trans (h4 j hj).2⟩⟩
theorem RowW.words {w : World} {lo hi n c : Nat} {A : Option Addr} {f : Nat → Nat} (h : RowW w lo hi A n f) (hn : n ≤ c) (hw : ∀ j, j < n → f j < 2 ^ 64) (hs : n ≤ 1000000) : Words w hi A c ((List.range n).map f) := by
  refine ⟨fun h0 => ?_, by simpa using hn, fun x hx => ?_, by simpa using hs⟩
  · obtain ⟨g', e1, h1, h2, h3, h4⟩ := h (by simpa using h0)
    refine ⟨g', 0, e1, h2, fun j hj => ?_⟩
    have hj : j < n := by simpa using hj
    rw [Nat.zero_add, (h4 j hj).1]
    simp [List.getD, hj]
  · simp at hx
    obtain ⟨j, hj, rfl⟩ := hx
    exact hw j hj
theorem RowW.of_own {w : World} {lo n c : Nat} {A : Option Addr} {f : Nat → Nat} (h : w.ownsRow lo 23 1 (.slice A n c) n ((List.range n).map fun j => .int .u64 (f j))) : RowW w lo w.heap.size A n f := fun h0 => by
  obtain ⟨g, rfl, h1, h2⟩ := own_addr h h0
  refine ⟨g, rfl, h1, h2, h2, fun j hj => ⟨?_, World.ownsRow.frozenAt h j⟩⟩
  rw [World.ownsRow.cellAt h j (by omega)]
  simp [hj]
/-- all bits turned -/
def inv64 (x : Nat) : Nat := 18446744073709551615 ^^^ x
theorem inv_lt {x : Nat} (h : x < 2 ^ 64) : inv64 x < 2 ^ 64 := Nat.xor_lt_two_pow (by decide) h
theorem inv_ne (x : Nat) : inv64 x ≠ x := fun h => by
  have r := Nat.xor_mod_two_eq_one (a := 18446744073709551615) (b := x)
  unfold inv64 at h
  rw [h] at r
  omega
theorem inv_bits {x : Nat} (h : x < 2 ^ 64) : bits .xor .u64 18446744073709551615 (x : Int) = (inv64 x : Nat) :=
  u64_xor_nat 18446744073709551615 x (by decide) h

theorem agrees_out (a : Option Addr) (len cap : Nat) (s n : Int) (w : World) (h : 60 < len) :
    Calls Try.prog 4 #[.slice a len cap, .int .u64 s, .int .u8 n] w fun e w' => e = .returned (.bool true) ∧ Below w.heap.size w w' := by
  go_enter Try.func4, Try.ntmps4
  go_wp2_with fail
  refine (fit_any _).mono ?_
  rintro e w1 ⟨rfl, hb⟩
  go_wp2
  go_ret
  exact ⟨rfl, hb⟩

/-- the other words, as far as they are turned -/
def turnedTo (ws : List Nat) (k i j : Nat) : Nat := if k ≤ j ∧ j < i then inv64 (ws.getD j 0) else ws.getD j 0
theorem wide_getD {ws : List Nat} (h : ∀ x ∈ ws, x < 2 ^ 64) (j : Nat) : ws.getD j 0 < 2 ^ 64 := by
  by_cases hj : j < ws.length
  · simp [List.getD, hj]; exact h _ (List.getElem_mem hj)
  · simp [List.getD, List.getElem?_eq_none (by omega : ws.length ≤ j)]

set_option maxHeartbeats 4000000 in
theorem agrees_in (a : Option Addr) (cap : Nat) (ws : List Nat) (s nn : Nat) (w : World) (hs : s < 2 ^ 64) (hl : ws.length ≤ 60) (h : Words w w.heap.size a cap ws) (hn : nn ≤ 255) :
    Calls Try.prog 4 #[.slice a ws.length cap, .int .u64 s, .int .u8 nn] w fun e w' => e = .returned (.bool true) ∧ Below w.heap.size w w' := by
  obtain ⟨i0, hi, hz0, hz1, hz2⟩ := info_parts infoU9
  have HW := Lib.hid h
  have HS := Lib.hid hs
  obtain ⟨L, hL⟩ : ∃ L, L = ws.length := ⟨_, rfl⟩
  have HN := Lib.hid (fun (w1 : World) (hb : Below w.heap.size w w1) => hL ▸ new_any (HW.out.below hb (Nat.le_refl _)) hb.size s hs)
  rw [← hL] at hl ⊢
  have HL := Lib.hid hL
  obtain ⟨K, hK⟩ : ∃ K : Nat, K = nn % (L + 1) := ⟨_, rfl⟩
  have hKL : K ≤ L := by have := Nat.mod_lt nn (show 0 < L + 1 by omega); omega
  have hK1 : (nn : Int) % ((L : Int) + 1) = (K : Int) := by rw [hK]; simp
  have hL1 : IntKind.i64.wrap ((L : Int) + 1) = (L : Int) + 1 := IntWalk.i64_in _ ⟨by omega, by omega⟩
  have hg : Hid (∀ w1 : World, Below w.heap.size w w1 → Cells w1 w.heap.size a L (fun j => .int .u64 (ws.getD j 0 : Nat))) := Lib.hid fun w1 hb => by
    have := (HW.out.below hb (Nat.le_refl _)).1
    have := Cells.congr (g := fun j => .int .u64 (ws.getD j 0 : Nat)) this (fun j _ => by rw [getD_map9])
    simpa [← hL] using this
  clear h hs hL hK
  go_enter Try.func4, Try.ntmps4
  go_wp2_with fail
  refine (fit_any _).mono ?_
  rintro e w1 ⟨rfl, hb⟩
  have HB := Lib.hid hb
  clear hb
  go_wp2_with (at_builtin; refine wpList_append_cells _ rfl _ _ 22 rfl w1.heap.size 23 i0 (.int .u64 0) 8 Try.underlying22 hi hz0 hz1 hz2 rfl _ 0 [] rfl (World.ownsRow_nil _ _ _ _) w.heap.size _ L _ _ rfl (hg.out _ HB.out) (fun _ _ => rfl) (by unfold maxLen; omega) (by omega) (Nat.le_refl _) ?_)
  intro v' w2 hown hg2 _
  have ho : w2.ownsRow w1.heap.size 23 1 v' L ((List.range L).map fun j => .int .u64 (ws.getD j 0 : Nat)) := by simpa using hown
  obtain ⟨A', c', hv', hlc, _⟩ := own_slice ho
  subst hv'
  have HR := Lib.hid (RowW.of_own ho)
  have HB2 := Lib.hid (HB.out.trans (((Below.refl w1.heap.size _).grown hg2 (Nat.le_refl _) (by simp [Value.ownBlock])).mono HB.out.size))
  have hb12 := hg2.size
  have hb1 := HB.out.size
  clear hown hg2 ho
  go_wp2
  obtain ⟨S1, hS1⟩ : ∃ S1, S1 = w1.heap.size := ⟨_, rfl⟩
  obtain ⟨S2, hS2⟩ : ∃ S2, S2 = w2.heap.size := ⟨_, rfl⟩
  rw [← hS1, ← hS2] at HR
  rw [hK1]
  clear hK1
  go_loopg [9] (L + 1 - K) (fun g i wr => ∃ k : Nat, Hid (RowW wr S1 S2 A' L (turnedTo ws K k)) ∧ Hid (Below S1 w2 wr) ∧ S2 ≤ wr.heap.size ∧ K ≤ k ∧ k ≤ L ∧ g = L + 1 - k ∧ i = .int .i64 k)
  case atStart => exact ⟨K, Lib.hid (HR.out.congr fun j _ => by unfold turnedTo; rw [if_neg (by omega)]), Below.refl _ _, by omega, by omega, by omega, rfl, rfl⟩
  case round =>
    obtain ⟨k, hr, hb, hsz, hkK, hk, rfl, rfl⟩ := hrel
    by_cases hlt : k < L
    · obtain ⟨gg, rfl, g1, g2, g3, g4⟩ := hr.out (by omega)
      obtain ⟨c1, f1⟩ := g4 k hlt
      have et : turnedTo ws K k k = ws.getD k 0 := by unfold turnedTo; rw [if_neg (by omega)]
      rw [et] at c1
      obtain ⟨x, hx⟩ : ∃ x, x = ws.getD k 0 := ⟨_, rfl⟩
      have hxl : x < 2 ^ 64 := by rw [hx]; exact wide_getD HW.out.2.2.1 k
      obtain ⟨y, hy⟩ : ∃ y, y = inv64 x := ⟨_, rfl⟩
      have hxy : bits .xor .u64 IntKind.u64.max (x : Int) = (y : Int) := by rw [hy]; exact inv_bits hxl
      rw [← hx] at c1
      have HRN := Lib.hid ((hr.out.set hlt y).congr (g := turnedTo ws K (k + 1)) fun j hj => by
        unfold turnedTo
        by_cases hjk : j = k
        · subst hjk; rw [if_pos rfl, if_pos (by omega), hy, hx]
        · rw [if_neg hjk]
          by_cases hc : K ≤ j ∧ j < k
          · rw [if_pos hc, if_pos (by omega)]
          · rw [if_neg hc, if_neg (by omega)])
      have HBN := Lib.hid (hb.out.setCell (p := ⟨gg, k, none⟩) (by simpa using g1) (.int .u64 y))
      clear hx hy hxl et g4 hr
      go_wp2
      go_roundg (L - k)
      case measure => omega
      case rel => exact ⟨k + 1, HRN, HBN, by simpa using hsz, by omega, by omega, by omega, by go_num⟩
    · obtain rfl : L = k := by omega
      have HBW := Lib.hid (HB2.out.trans (hb.out.mono (by omega)))
      obtain ⟨wx, rfl⟩ : ∃ wx, wx = wr := ⟨_, rfl⟩
      obtain ⟨os, hos⟩ : ∃ os, os = (List.range L).map (turnedTo ws K L) := ⟨_, rfl⟩
      have hosl : os.length = L := by rw [hos]; simp
      have hosd : ∀ j, j < L → os.getD j 0 = turnedTo ws K L j := fun j hj => by rw [hos]; simp [List.getD, hj]
      have HN2 := Lib.hid (fun (w3 : World) (h : RowW w3 S1 S2 A' L (turnedTo ws K L)) (h2 : S2 ≤ w3.heap.size) =>
        hosl ▸ new_any (show Words w3 S2 A' c' os from hos ▸ h.words hlc (fun j _ => by unfold turnedTo; split; exact inv_lt (wide_getD HW.out.2.2.1 j); exact wide_getD HW.out.2.2.1 j) (by omega)) h2 s HS.out)
      have HOS := Lib.hid hosd
      have HOL := Lib.hid hosl
      have hlw := HL.out
      have HLW := Lib.hid hlw
      clear hos hosl hosd hlw
      go_wp2_with fail
      refine (HN.out _ HBW.out).mono ?_
      rintro e w3 ⟨ba, rfl, hst, hb3⟩
      have hr3 := hr.out.below (hb3.mono hsz)
      have hsz3 := hb3.size
      have HB3 := Lib.hid (HBW.out.trans (hb3.mono (by omega)))
      have HA3 := Lib.hid hst
      have hal := hst.low
      have halt := hst.lt
      clear hst hb3
      go_wp2_with fail
      refine (HN2.out _ hr3 (by omega)).mono ?_
      rintro e w4 ⟨bb, rfl, hst, hb4⟩
      have HR4 := Lib.hid (hr3.below (hb4.mono (by omega)))
      have HB4 := Lib.hid (HB3.out.trans (hb4.mono (by omega)))
      have HA4 := Lib.hid (HA3.out.below hb4 halt)
      have HC4 := Lib.hid hst
      have hbl := hst.low
      obtain ⟨SA, hSA⟩ : ∃ SA, SA = wx.heap.size := ⟨_, rfl⟩
      obtain ⟨SB, hSB⟩ : ∃ SB, SB = w3.heap.size := ⟨_, rfl⟩
      rw [← hSA] at HA4 hal hsz hsz3
      rw [← hSB] at HC4 hbl hsz3 halt
      have hbs4 : S2 ≤ w4.heap.size := by have := hb4.size; omega
      clear hst hb4 hr3 hr hb
      go_wp2
      go_loopg [49] (L + 1) (fun g i wr => ∃ j : Nat, Hid (Strm wr SA ba ws (seedOf s) 0) ∧ Hid (Strm wr SB bb os (seedOf s) 0) ∧ Hid (∃ f, RowW wr S1 S2 A' L f) ∧ Hid (Below w.heap.size w wr) ∧ j ≤ L ∧ g = L + 1 - j ∧ i = .int .i64 j)
      case atStart => exact ⟨0, HA4, HC4, ⟨_, HR4.out⟩, HB4, by omega, by omega, rfl⟩
      case round =>
        obtain ⟨j, ha, hc, hr, hb, hj, rfl, rfl⟩ := hrel
        by_cases hlt : j < L
        · obtain ⟨f, hrf⟩ := hr.out
          obtain ⟨gg, rfl, g1, g2, g3, g4⟩ := hrf (by omega)
          obtain ⟨c1, f1⟩ := g4 j hlt
          have HRN := Lib.hid (hrf.set hlt 5)
          have HBN := Lib.hid (hb.out.setCell (p := ⟨gg, j, none⟩) (by simp; omega) (.int .u64 5))
          have HAN := Lib.hid (ha.out.far (p := ⟨gg, j, none⟩) (by simp; omega) (.int .u64 5))
          have HCN := Lib.hid (hc.out.far (p := ⟨gg, j, none⟩) (by simp; omega) (.int .u64 5))
          clear g4 hrf hr ha hc hb
          go_wp2
          go_roundg (L - j)
          case measure => omega
          case rel => exact ⟨j + 1, HAN, HCN, ⟨_, HRN.out⟩, HBN, by omega, by omega, by go_num⟩
        · obtain ⟨wy, rfl⟩ : ∃ wy, wy = wr := ⟨_, rfl⟩
          obtain rfl : L = j := by omega
          clear hlt hj
          go_wp2
          go_loopg [57] (K + 1) (fun g i wr => ∃ j la lb : Nat, Hid (Strm wr SA ba (ws.drop j) la j) ∧ Hid (Strm wr SB bb (os.drop j) lb j) ∧ Hid (Below w.heap.size w wr) ∧ j ≤ K ∧ g = K + 1 - j ∧ i = .int .i64 j)
          case atStart => exact ⟨0, _, _, ha, hc, hb, by omega, by omega, rfl⟩
          case round =>
            obtain ⟨j, la, lb, ha, hc, hb, hj, rfl, rfl⟩ := hrel
            by_cases hlt : j < K
            · obtain ⟨n1, n2⟩ := drop_next ws j (by have := HLW.out; omega) la
              obtain ⟨n3, n4⟩ := drop_next os j (by have := HOL.out; omega) lb
              have hoj := HOS.out j (by omega)
              rw [show turnedTo ws K L j = ws.getD j 0 by unfold turnedTo; rw [if_neg (by omega)]] at hoj
              rw [hoj] at n3
              obtain ⟨x, hx⟩ : ∃ x, x = ws.getD j 0 := ⟨_, rfl⟩
              rw [← hx] at n1 n3
              have N1 := Lib.hid n1
              have N3 := Lib.hid n3
              clear n1 n2 n3 n4 hoj hx
              go_wp2_with fail
              refine (next_any ha.out (by omega)).mono ?_
              rintro e w5 ⟨rfl, hs5, ho5⟩
              rw [N1.out]
              have HA5 := Lib.hid hs5
              have HC5 := Lib.hid (hc.out.only ho5 halt)
              have HB5 := Lib.hid (hb.out.trans (ho5.below (by omega)))
              clear hs5 ho5 ha hc hb
              go_wp2_with fail
              refine (next_any HC5.out (by omega)).mono ?_
              rintro e w6 ⟨rfl, hs6, ho6⟩
              rw [N3.out]
              have HC6 := Lib.hid (show Strm w6 SB bb (os.drop (j + 1)) _ (j + 1) from by rw [← List.tail_drop]; exact hs6)
              have HA6 := Lib.hid (show Strm w6 SA ba (ws.drop (j + 1)) _ (j + 1) from by rw [← List.tail_drop]; exact HA5.out.below (ho6.below (Nat.le_refl _)) (by omega))
              have HB6 := Lib.hid (HB5.out.trans (ho6.below (by omega)))
              clear hs6 ho6
              go_wp2
              go_roundg (K - j)
              case measure => omega
              case rel => exact ⟨j + 1, _, _, HA6, HC6, HB6, by omega, by omega, by go_num⟩
            · obtain rfl : K = j := by omega
              clear hlt hj
              by_cases hKL2 : K = L
              · have hkl : ((K : Int) == (L : Int)) = true := by rw [hKL2]; simp
                go_wp2
                go_ret
                exact ⟨rfl, hb.out⟩
              · have hkl : ((K : Int) == (L : Int)) = false := by simp; omega
                obtain ⟨n1, n2⟩ := drop_next ws K (by have := HLW.out; omega) la
                obtain ⟨n3, n4⟩ := drop_next os K (by have := HOL.out; omega) lb
                have hoj := HOS.out K (by omega)
                rw [show turnedTo ws K L K = inv64 (ws.getD K 0) by unfold turnedTo; rw [if_pos (by omega)]] at hoj
                rw [hoj] at n3
                have hne := inv_ne (ws.getD K 0)
                obtain ⟨x, hx⟩ : ∃ x, x = ws.getD K 0 := ⟨_, rfl⟩
                rw [← hx] at n1 n3 hne
                obtain ⟨y, hy⟩ : ∃ y, y = inv64 x := ⟨_, rfl⟩
                rw [← hy] at n3 hne
                have hxy : ((x : Int) != (y : Int)) = true := by simp; omega
                have N1 := Lib.hid n1
                have N3 := Lib.hid n3
                clear n1 n2 n3 n4 hoj hx hy hne
                go_wp2_with fail
                refine (next_any ha.out (by omega)).mono ?_
                rintro e w5 ⟨rfl, hs5, ho5⟩
                rw [N1.out]
                have HA5 := Lib.hid hs5
                have HC5 := Lib.hid (hc.out.only ho5 halt)
                have HB5 := Lib.hid (hb.out.trans (ho5.below (by omega)))
                clear hs5 ho5 ha hc hb
                go_wp2_with fail
                refine (next_any HC5.out (by omega)).mono ?_
                rintro e w6 ⟨rfl, hs6, ho6⟩
                rw [N3.out]
                have HB6 := Lib.hid (HB5.out.trans (ho6.below (by omega)))
                clear hs6 ho6
                go_wp2
                go_ret
                exact ⟨rfl, HB6.out⟩
theorem agrees_any (a : Option Addr) (len cap : Nat) (z : Nat → Int) (s n : Int) (w : World) (hs : (Lit.int .u64 s).wf = true) (hn : (Lit.int .u8 n).wf = true) (h : IsInts .u64 w a len cap z) :
    Calls Try.prog 4 #[.slice a len cap, .int .u64 s, .int .u8 n] w fun e w' => e = .returned (.bool true) ∧ Below w.heap.size w w' := by
  by_cases hl : 60 < len
  · exact agrees_out a len cap s n w hl
  · obtain ⟨ws, rfl, hw⟩ := words_of h (by omega)
    simp [Lit.wf, IntKind.min, IntKind.max, IntKind.signed, IntKind.bits] at hs hn
    obtain ⟨t, rfl⟩ : ∃ t : Nat, s = (t : Int) := ⟨s.toNat, by omega⟩
    obtain ⟨m, rfl⟩ : ∃ m : Nat, n = (m : Int) := ⟨n.toNat, by omega⟩
    exact agrees_in a cap ws t m w (by omega) (by omega) hw (by omega)
end Go.Proofs.Ytkolhhahnkfnoaa
