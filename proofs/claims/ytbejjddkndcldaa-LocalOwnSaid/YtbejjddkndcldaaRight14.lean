/- The statements' own check of a state, by definition. -/
import Derived.Test.YtbejjddkndcldaaLaw14
import Derived.Test.YtbejjddkndcldaaRgtMath
import Derived.Maps.Own
import Derived.Maps.OwnOps
import Derived.Maps.OwnSet
import Derived.Maps.Views
namespace Go.Proofs.Ytbejjddkndcldaa
open Go.RowKit Go.Maps
set_option linter.unusedVariables false
set_option linter.unusedSimpArgs false

theorem intLaw14 : Maps.Keyed Try.prog 3 := Maps.int_keyed Try.underlying3
theorem zeroI14 (w : World) : (zeroValue 3).run Try.prog w = .ok (.int .i64 0) w := by kernel_rfl
/-- a row of counts -/
def cntA (n : Nat) (f : Nat → Nat) : Array Value := ((List.range n).map fun u => Value.int .i64 (f u : Nat)).toArray
theorem cntA_at {n u : Nat} {f : Nat → Nat} (h : u < n) : (cntA n f)[u]? = some (.int .i64 (f u : Nat)) := by simp [cntA, h]
theorem cntA_set {n u : Nat} {f : Nat → Nat} (h : u < n) (x : Nat) : (cntA n f).setIfInBounds u (.int .i64 (x : Nat)) = cntA n fun v => if v = u then x else f v := by
  apply Array.ext
  · simp [cntA]
  · intro i h1 h2
    simp [cntA] at h2
    by_cases e : u = i
    · subst e; simp [cntA]
    · rw [Array.getElem_setIfInBounds_ne (h := e)]
      · simp [cntA, Ne.symm e]
      · simpa [cntA] using h2
theorem cntA_zero (n : Nat) : madeCells #[Value.int .i64 0] n = cntA n fun _ => 0 := by
  apply Array.ext'
  rw [toList_madeCells_one]
  apply List.ext_getElem
  · simp [cntA]
  · intro i h1 h2
    simp [cntA]
theorem cntA_congr {n : Nat} {f g : Nat → Nat} (h : ∀ u, u < n → f u = g u) : cntA n f = cntA n g := by
  unfold cntA
  congr 1
  refine List.map_congr_left fun u hu => ?_
  rw [h u (List.mem_range.1 hu)]
/-- what the statement has made for itself -/
structure Rg (w wr : World) (n K1 K2 mp kb : Nat) (fb fm : Nat → Nat) (f : Int → Int) (N : Nat) : Prop where
  bel : Below w.heap.size w wr
  b1 : Blk wr K1 3 (cntA (n + 1) fb)
  b2 : Blk wr K2 3 (cntA (n + 1) fm)
  map : ∃ D : DataW Unit, wr.ownsMap Try.prog 3 (plainElem (H := Unit) Try.prog 3) mp kb D ∧ Maps.size D = N ∧ ∀ x : Int, -9223372036854775808 ≤ x → x ≤ 9223372036854775807 → D.atKey (.int .i64 x) (.lit (.int .i64 0)) = .lit (.int .i64 (f x)) ∧ Maps.has D (.int .i64 x) = decide (f x ≠ 0)
  ne : K1 ≠ K2
  l1 : w.heap.size ≤ K1
  l2 : w.heap.size ≤ K2
  l3 : w.heap.size ≤ mp
theorem map_ne_blk14 {w : World} {P : Program} {k : TypeId} {R : Value → Option (DataW Unit × List MemPlace)} {b n g : Nat} {D : DataW Unit} {t : TypeId} {cs : Array Value} (h : w.ownsMap P k R b n D) (hg : Blk w g t cs) : g ≠ b := by
  obtain ⟨es, clock, hb, _⟩ := h
  rintro rfl
  unfold Blk at hg
  rw [hb] at hg
  cases hg
section
variable {w wr wx : World} {n K1 K2 mp kb : Nat} {fb fm : Nat → Nat} {f : Int → Int} {N : Nat}
theorem Rg.below (h : Rg w wr n K1 K2 mp kb fb fm f N) (hb : Below wr.heap.size wr wx) : Rg w wx n K1 K2 mp kb fb fm f N := by
  obtain ⟨D, h1, h2⟩ := h.map
  refine ⟨h.bel.trans (hb.mono h.bel.size), h.b1.below hb h.b1.lt, h.b2.below hb h.b2.lt, ⟨D, ?_, h2⟩, h.ne, h.l1, h.l2, h.l3⟩
  obtain ⟨es, clock, k1, k2⟩ := h1
  exact ⟨es, clock, (hb.block mp (Array.getElem?_eq_some_iff.1 k1).1).trans k1, k2⟩
theorem Rg.drewN (h : Rg w wr n K1 K2 mp kb fb fm f N) (k : Nat) : Rg w (wr.drewN k) n K1 K2 mp kb fb fm f N := h.below (below_drewN (Below.refl _ _) k)
theorem Rg.set1 (h : Rg w wr n K1 K2 mp kb fb fm f N) {u : Nat} (hu : u < n + 1) (x : Nat) : Rg w (wr.setCell ⟨K1, u, none⟩ (.int .i64 (x : Nat))) n K1 K2 mp kb (fun v => if v = u then x else fb v) fm f N := by
  obtain ⟨D, h1, h2⟩ := h.map
  refine ⟨h.bel.setCell h.l1 _, ?_, h.b2.far (Ne.symm h.ne) _, ⟨D, h1.setCell (Ne.symm (map_ne_blk14 h1 h.b1)) _, h2⟩, h.ne, h.l1, h.l2, h.l3⟩
  rw [← cntA_set hu]
  exact h.b1.set_ u _
theorem Rg.set2 (h : Rg w wr n K1 K2 mp kb fb fm f N) {u : Nat} (hu : u < n + 1) (x : Nat) : Rg w (wr.setCell ⟨K2, u, none⟩ (.int .i64 (x : Nat))) n K1 K2 mp kb fb (fun v => if v = u then x else fm v) f N := by
  obtain ⟨D, h1, h2⟩ := h.map
  refine ⟨h.bel.setCell h.l2 _, h.b1.far h.ne _, ?_, ⟨D, h1.setCell (Ne.symm (map_ne_blk14 h1 h.b2)) _, h2⟩, h.ne, h.l1, h.l2, h.l3⟩
  rw [← cntA_set hu]
  exact h.b2.set_ u _
theorem Rg.put (h : Rg w wr n K1 K2 mp kb fb fm f N) {D : DataW Unit} {x y : Int} (hD : wr.ownsMap Try.prog 3 (plainElem (H := Unit) Try.prog 3) mp kb D) (hs : Maps.size D = N) (hf : ∀ x : Int, -9223372036854775808 ≤ x → x ≤ 9223372036854775807 → D.atKey (.int .i64 x) (.lit (.int .i64 0)) = .lit (.int .i64 (f x)) ∧ Maps.has D (.int .i64 x) = decide (f x ≠ 0))
    (hx : -9223372036854775808 ≤ x ∧ x ≤ 9223372036854775807) (hy : y ≠ 0) (ho : wx.ownsMap Try.prog 3 (plainElem (H := Unit) Try.prog 3) mp (kb + 1) (D.put (.int .i64 x) (.lit (.int .i64 y)))) (hg : wr.grownBy wx (some mp)) :
    Rg w wx n K1 K2 mp (kb + 1) fb fm (fun z => if z = x then y else f z) (if f x = 0 then N + 1 else N) := by
  refine ⟨h.bel.grown hg h.bel.size (fun q hq => by injection hq with hq; have := h.l3; omega), h.b1.grown hg (fun e => by injection e with e; exact map_ne_blk14 hD h.b1 e), h.b2.grown hg (fun e => by injection e with e; exact map_ne_blk14 hD h.b2 e), ⟨_, ho, ?_, fun z h1 h2 => ?_⟩, h.ne, h.l1, h.l2, h.l3⟩
  · rw [Maps.size_put (hD.tidy intLaw14), (hf x hx.1 hx.2).2, hs]
    by_cases e : f x = 0
    · rw [if_pos e]; simp [e]
    · rw [if_neg e]; simp [e]
  · have hk : ∀ z : Int, WideAt.IsKeyLit (.int .i64 z) := fun _ => trivial
    by_cases e : z = x
    · subst e
      simp only [if_true]
      rw [Maps.atKey_put_same hD.isMap (hk _), Maps.has_put_same hD.isMap (hk _)]
      simp [hy]
    · have ne : (Lit.int .i64 z) ≠ .int .i64 x := by intro h; injection h with _ h; exact e h
      simp only [if_neg e]
      rw [Maps.atKey_put_other ne, Maps.has_put_other ne]
      exact hf z h1 h2
end
theorem Rg.congr {w wr : World} {n K1 K2 mp kb : Nat} {fb fm fb' fm' : Nat → Nat} {f f' : Int → Int} {N N' : Nat} (h : Rg w wr n K1 K2 mp kb fb fm f N) (e1 : ∀ u, u < n + 1 → fb u = fb' u) (e2 : ∀ u, u < n + 1 → fm u = fm' u) (e3 : ∀ x, f x = f' x) (e4 : N = N') : Rg w wr n K1 K2 mp kb fb' fm' f' N' := by
  obtain rfl : f = f' := funext e3
  subst e4
  exact ⟨h.bel, by rw [← cntA_congr e1]; exact h.b1, by rw [← cntA_congr e2]; exact h.b2, h.map, h.ne, h.l1, h.l2, h.l3⟩
/-- which clauses ahead of i are noted -/
def rowF (s : LS) (i : Nat) (x : Int) : Int := if 0 ≤ x ∧ x < i ∧ (s.hss.getD x.toNat []).length = 0 then 1 else 0
theorem rowF_zero (s : LS) (x : Int) : rowF s 0 x = 0 := by unfold rowF; rw [if_neg (by omega)]
theorem rowF_at (s : LS) (i : Nat) : rowF s i (i : Nat) = 0 := by unfold rowF; rw [if_neg (by omega)]
theorem rowF_next {s : LS} {i : Nat} (h : (s.hss.getD i []).length = 0) (x : Int) : (if x = (i : Nat) then 1 else rowF s i x) = rowF s (i + 1) x := by
  unfold rowF
  by_cases e : x = (i : Nat)
  · subst e
    rw [if_pos rfl, if_pos ⟨by omega, by omega, by simpa using h⟩]
  · rw [if_neg e]
    by_cases h2 : 0 ≤ x ∧ x < i ∧ (s.hss.getD x.toNat []).length = 0
    · rw [if_pos h2, if_pos ⟨h2.1, by omega, h2.2.2⟩]
    · rw [if_neg h2, if_neg (fun h3 => h2 ⟨h3.1, by omega, h3.2.2⟩)]
theorem rowF_same {s : LS} {i : Nat} (h : (s.hss.getD i []).length ≠ 0) (x : Int) : rowF s i x = rowF s (i + 1) x := by
  unfold rowF
  by_cases e : x = (i : Nat)
  · subst e
    rw [if_neg (by omega), if_neg (fun h3 => h (by simpa using h3.2.2))]
  · by_cases h2 : 0 ≤ x ∧ x < i ∧ (s.hss.getD x.toNat []).length = 0
    · rw [if_pos h2, if_pos ⟨h2.1, by omega, h2.2.2⟩]
    · rw [if_neg h2, if_neg (fun h3 => h2 ⟨h3.1, by omega, h3.2.2⟩)]
/-- which are noted, once i of the row were met -/
def rowG (s : LS) (i : Nat) (x : Int) : Int := if 0 ≤ x ∧ x.toNat ∈ s.row.take i then 2 else rowF s s.cls.length x
theorem rowG_zero (s : LS) (x : Int) : rowF s s.cls.length x = rowG s 0 x := by
  unfold rowG
  rw [if_neg (fun h => by simp at h)]
theorem rowG_at {s : LS} {n i : Nat} (hg : s.Good n) (hi : i < s.row.length) : rowG s i (s.row.getD i 0 : Nat) = 1 := by
  have e : s.row.getD i 0 = s.row[i] := by simp [List.getD, hi]
  have hm := (hg.rmem (s.row.getD i 0)).1 (by rw [e]; exact List.getElem_mem hi)
  unfold rowG rowF
  rw [if_neg, if_pos]
  · exact ⟨by omega, by omega, by rw [Int.toNat_natCast, hm.2]; rfl⟩
  · rintro ⟨_, h⟩
    rw [Int.toNat_natCast] at h
    obtain ⟨k, hk⟩ := List.getElem?_of_mem h
    rw [List.getElem?_take] at hk
    split at hk
    · rename_i hki
      have := hg.rinj k i (s.row.getD i 0) hk (by rw [List.getElem?_eq_getElem hi, e])
      omega
    · cases hk
theorem rowG_next {s : LS} {i : Nat} (hi : i < s.row.length) (x : Int) : (if x = (s.row.getD i 0 : Nat) then 2 else rowG s i x) = rowG s (i + 1) x := by
  have e : s.row.getD i 0 = s.row[i] := by simp [List.getD, hi]
  unfold rowG
  rw [List.take_succ_eq_append_getElem hi, ← e]
  by_cases ex : x = (s.row.getD i 0 : Nat)
  · rw [if_pos ex, if_pos ⟨by omega, by rw [ex, Int.toNat_natCast]; simp⟩]
  · rw [if_neg ex]
    by_cases h : 0 ≤ x ∧ x.toNat ∈ s.row.take i
    · rw [if_pos h, if_pos ⟨h.1, List.mem_append_left _ h.2⟩]
    · rw [if_neg h, if_neg]
      rintro ⟨h1, h2⟩
      rcases List.mem_append.1 h2 with h2 | h2
      · exact h ⟨h1, h2⟩
      · have := List.mem_singleton.1 h2
        exact ex (by omega)
theorem mkTo_full (s : LS) (z : List Bool) (u : Nat) : mkTo s z s.cls.length u = makeOf s z u := by
  unfold mkTo makeOf hav
  rw [List.filter_filter]
  congr 1
  refine List.filter_congr fun k _ => ?_
  rw [Bool.and_comm]
theorem makeOf_zero {s : LS} {z : List Bool} {n : Nat} (hg : s.Good n) : makeOf s z 0 = 0 := by
  unfold makeOf
  have : hav s.cls (-holder z 0) = [] := by
    rw [List.eq_nil_iff_forall_not_mem]
    intro i hi
    have := hg.lits i _ (mem_hav.1 hi)
    have habs := holder_abs z 0
    omega
  rw [this]
  rfl
theorem quiet_add_of14 {P : Program} {f : FuncId} {args : Array Value} {w : World} {a n : Nat} {v : Value} (h : Calls P f args (w.drewN (a + n)) fun e w' => e = .returned v ∧ ∃ j, w' = (w.drewN (a + n)).drewN j) :
    Calls P f args (w.drewN (a + n)) fun e w'' => e = .returned v ∧ ∃ m, w'' = w.drewN (a + m) :=
  h.mono fun _ _ ⟨he, j, hj⟩ => ⟨he, n + j, by rw [hj, World.drewN_drewN, Nat.add_assoc]⟩
theorem same_drew14 {P : Program} {f : FuncId} {args : Array Value} {W : World} {v : Value} (h : Calls P f args W fun e w' => e = .returned v ∧ W = w') : Calls P f args W fun e w' => e = .returned v ∧ ∃ j, w' = W.drewN j :=
  h.mono fun _ _ ⟨he, hw⟩ => ⟨he, 0, hw.symm⟩
set_option maxRecDepth 100000 in
set_option maxHeartbeats 8000000 in
theorem right_any14 {w : World} {ρ : Nat → Nat} {p : Lx} {z : List Bool} {s : LS} {b : BS} (h : LM w ρ p (MS.of z s b)) (hg : s.Good z.length) (ha : s.At z) (B B' : Nat) (A Az : Option Addr) (c cz : Nat) (hR : Rows w B A s.cls) (hZ : Bools w B' Az z) (hB : B ≤ w.heap.size) (hB' : B' ≤ w.heap.size) :
    Calls Try.prog 22 #[.pointer (some ⟨p.g, 0, none⟩), .slice A s.cls.length c, .slice Az z.length cz] w fun e w' => e = .returned (.bool true) ∧ Below w.heap.size w w' := by
  have hzn := hg.vars
  have hfew := hg.few
  have HCL := Lib.hid (clauses_any h)
  change Hid (Calls _ _ _ _ fun e w' => e = .returned (.int .i64 (s.cls.length : Nat)) ∧ w = w') at HCL
  have HX := Lib.hid (And.intro h (And.intro hg (And.intro ha (And.intro hR hZ))))
  obtain ⟨N, hN⟩ : ∃ N, s.cls.length = N := ⟨_, rfl⟩
  obtain ⟨n, hn⟩ : ∃ n, z.length = n := ⟨_, rfl⟩
  have HNN := Lib.hid (And.intro hN hn)
  rw [hN] at HCL hfew ⊢
  rw [hn] at hzn ⊢
  have hmk := run_make_row' (P := Try.prog) 32 3 (.int .i64 0) 8 Try.underlying32 infoCI rfl .i64 .i64 (n + 1) (by omega) (by omega)
  push_cast at hmk
  have hwr : IntKind.i64.wrap ((n : Int) + 1) = (n : Int) + 1 := i64_ok14 (by omega)
  clear h hg ha hR hZ hN hn
  go_enter Try.func22, Try.ntmps22
  go_wp2_with fail
  refine HCL.out.mono ?_
  rintro e w1 ⟨rfl, rfl⟩
  go_upto_region 3 with fail
  go_cut [7, 8] (fun v1 v2 w' => ∃ K1 K2, v1 = .slice (some ⟨K1, 0, none⟩) (n + 1) (n + 1) ∧ v2 = .slice (some ⟨K2, 0, none⟩) (n + 1) (n + 1) ∧ Hid (K1 ≠ K2 ∧ Blk w' K1 3 (cntA (n + 1) fun _ => 0) ∧ Blk w' K2 3 (cntA (n + 1) fun _ => 0) ∧ Below w.heap.size w w' ∧ w.heap.size ≤ K1 ∧ w.heap.size ≤ K2))
  case first =>
    go_region
    all_goals (go_wp2_with fail; go_meet)
    · refine ⟨w.heap.size, w.heap.size + 1, rfl, rfl, Lib.hid ⟨by omega, ?_, ?_, ?_, by omega, by omega⟩⟩
      · rw [← cntA_zero]; exact ((Blk.new w _ _).alloc _).drew_
      · rw [← cntA_zero]; exact (blk_new14 (by simp)).drew_
      · exact (((Below.refl _ _).alloc (Nat.le_refl _) _).alloc (by simp) _).drew
    · refine ⟨w.heap.size + 1, w.heap.size, rfl, rfl, Lib.hid ⟨by omega, ?_, ?_, ?_, by omega, by omega⟩⟩
      · rw [← cntA_zero]; exact (blk_new14 (by simp)).drew_
      · rw [← cntA_zero]; exact ((Blk.new w _ _).alloc _).drew_
      · exact (((Below.refl _ _).alloc (Nat.le_refl _) _).alloc (by simp) _).drew
  case rest =>
    obtain ⟨K1, K2, rfl, rfl, HK⟩ := hcut
    clear hmk hwr HCL
    have hmm := @run_makeMap Try.prog
    go_wp2_with fail
    obtain ⟨wm, hwm⟩ : ∃ wm, wm = wc.alloc (.map #[] 0) := ⟨_, rfl⟩
    have HR0 : Hid (Rg w wm n K1 K2 wc.heap.size 0 (fbU s z 0 0) (fmU s z 0 0) (rowF s 0) (zeroTo s 0)) := Lib.hid (by
      obtain ⟨k1, k2, k3, k4, k5, k6⟩ := HK.out
      rw [hwm]
      refine ⟨k4.alloc k4.size _, ?_, ?_, ⟨.map [], World.ownsMap_made _ _ _ _, rfl, fun x h1 h2 => ?_⟩, k1, k5, k6, k4.size⟩
      · rw [cntA_congr (g := fun _ => 0) fun u hu => by simp [fbU_zero, brk]]; exact k2.alloc _
      · rw [cntA_congr (g := fun _ => 0) fun u hu => by simp [fmU_zero, mkTo]]; exact k3.alloc _
      · rw [rowF_zero]
        exact ⟨rfl, rfl⟩)
    rw [← hwm]
    obtain ⟨mp, hmp⟩ : ∃ mp, wc.heap.size = mp := ⟨_, rfl⟩
    rw [hmp] at HR0 ⊢
    clear hwm hmm hmp HK
    go_wp2
    go_loopg [35] (N + 1) (fun gk ti wr => ∃ i kb : Nat, i ≤ N ∧ gk = N - i + 1 ∧ ti = .int .i64 (i : Nat) ∧ kb ≤ i ∧ Hid (Rg w wr n K1 K2 mp kb (fbU s z i 0) (fmU s z i 0) (rowF s i) (zeroTo s i)))
    case atStart => exact ⟨0, 0, by omega, by omega, rfl, Nat.le_refl _, HR0⟩
    case round =>
      obtain ⟨i, kb, hi, rfl, rfl, hkb, HRr⟩ := hrel
      clear HR0
      by_cases hlt : i < N
      · have hiC : i < s.cls.length := by rw [HNN.out.1]; exact hlt
        obtain ⟨h, hg, ha, hR, hZ⟩ := HX.out
        have hzl : z.length ≤ 1000 := by rw [HNN.out.2]; exact hzn
        have hcl1 : s.cls.length ≤ 1000 := by rw [HNN.out.1]; omega
        have hRr := hR.below (HRr.out.bel.mono hB)
        have hZr : Bools wr B' Az z := Cells.below hZ (HRr.out.bel.mono hB')
        have hLr := h.below HRr.out.bel
        obtain ⟨bA, oA, Ak, ck, eA, lA, cA0, hI0⟩ := hR.at_ hiC
        have cA := (HRr.out.bel.cell (p := ⟨bA, oA + i, none⟩) (show bA < w.heap.size by omega)).trans cA0
        have hI : Ints wr B Ak (s.cls.getD i []) := Cells.below hI0 (HRr.out.bel.mono hB)
        have hho := holding_law (s.cls.getD i []) z B B' Ak Az ck cz wr (by have := hg.short i; omega) hzl (fun x hx => hg.lits i x hx) hI hZr
        rw [← at_len hg ha i] at hho
        have hHo := holding_any hLr hcl1 (i : Int)
        change Calls _ _ _ _ (fun e w' => e = .returned (.int .i64 (if (0 : Int) ≤ (i : Int) ∧ (i : Int) < (s.cls.length : Nat) then ((s.hss.getD (i : Int).toNat []).length : Nat) else 0)) ∧ wr = w') at hHo
        rw [if_pos (by omega), Int.toNat_natCast] at hHo
        have hsh := hg.short i
        have hlits := hg.lits i
        have hNX0 := fun hl => rowF_next (s := s) (i := i) hl
        have hNX1 := fun hl => rowF_same (s := s) (i := i) hl
        have hzn' := zeroTo_next s i
        have HU1 := Lib.hid (fun u => (fbU_full hg ha hiC u).trans (fbU_zero s z (i + 1) u).symm)
        have HU2 := Lib.hid (fun (u : Nat) (hu : u < n + 1) => (fmU_full hg ha (i := i) (u := u) (by rw [HNN.out.2]; omega)).trans (fmU_zero s z (i + 1) u).symm)
        have HFB := Lib.hid (fun (j : Nat) (hj : j < (s.cls.getD i []).length) (u : Nat) => fbU_next (s := s) (z := z) (i := i) hj u)
        have HFM := Lib.hid (fun (j : Nat) (hj : j < (s.cls.getD i []).length) (u : Nat) => fmU_next (s := s) (z := z) (i := i) hj u)
        obtain ⟨C, hC⟩ : ∃ C, s.cls.getD i [] = C := ⟨_, rfl⟩
        obtain ⟨L, hL⟩ : ∃ L, (s.hss.getD i []).length = L := ⟨_, rfl⟩
        rw [hC] at cA hI hI0 hho hsh hlits HU1 HU2 HFB HFM
        rw [hL] at hho hHo hNX0 hNX1 hzn' HFB HFM
        obtain ⟨cl, hcl⟩ : ∃ cl, C.length = cl := ⟨_, rfl⟩
        rw [hcl] at cA hho hsh HU1 HU2 HFB HFM
        rw [HNN.out.2] at hho
        have HHO := Lib.hid hho
        have HHH := Lib.hid hHo
        have HI := Lib.hid hI0
        have HLT := Lib.hid (And.intro hlits (And.intro hcl (And.intro hC hL)))
        have HSH := Lib.hid (fun k => hg.short k)
        have HN0 := Lib.hid (And.intro hNX0 (And.intro hNX1 hzn'))
        have hLb : L ≤ 100 := by have := hg.hlen i; omega
        have hiN : (i : Int) < (N : Int) := by omega
        obtain ⟨D, hD1, hD2, hD3⟩ := HRr.out.map
        have HD := Lib.hid (And.intro hD1 (And.intro hD2 hD3))
        subst eA
        clear hI0 cA0 lA hzl hcl1 h hg ha hR hZ hRr hZr hLr hI hho hHo hlits hNX0 hNX1 hzn' hC hL hcl hD1 hD2 hD3
        rcases (by omega : L = 0 ∨ L = 1 ∨ 2 ≤ L) with hL | hL | hL
        · subst hL
          go_wp2_with fail
          refine HHO.out.mono ?_
          rintro e w3 ⟨rfl, rfl⟩
          go_wp2_with fail
          refine HHH.out.mono ?_
          rintro e w3 ⟨rfl, rfl⟩
          clear HHO HHH cA
          go_wp2_with (at_mapUpdate; refine wpList_mapUpdate_own _ rfl _ _ _ 90 rfl 3 3 intLaw14 Try.underlying90 _ mp kb D rfl HD.out.1 (by unfold maxLen; omega) _ _ _ rfl rfl (Maps.keyOf_int_mk Try.underlying3 (WalkArith.wf_i64 (by omega))) _ [] (plainElem_int Try.underlying3 (by decide)) ?_; intro w4 hown4 hgrow4)
          have hp := HRr.out.put HD.out.1 HD.out.2.1 HD.out.2.2 (by omega) (by omega) hown4 hgrow4
          rw [rowF_at, if_pos rfl] at hp
          have HR4 : Hid (Rg w w4 n K1 K2 mp (kb + 1) (fbU s z i 0) (fmU s z i 0) (rowF s (i + 1)) (zeroTo s (i + 1))) := Lib.hid (hp.congr (fun _ _ => rfl) (fun _ _ => rfl) (HN0.out.1 (by first | rfl | trivial)) (by rw [HN0.out.2.2]; rfl))
          clear hp hown4 hgrow4 HD HRr
          go_wp2
          go_loopg [54] (cl + 1) (fun gk ti wr => ∃ j : Nat, j ≤ cl ∧ gk = cl - j + 1 ∧ ti = .int .i64 (j : Nat) ∧ Hid (Rg w wr n K1 K2 mp (kb + 1) (fbU s z i j) (fmU s z i j) (rowF s (i + 1)) (zeroTo s (i + 1))))
          case atStart => exact ⟨0, by omega, by omega, rfl, HR4⟩
          case round =>
            obtain ⟨j, hj, rfl, rfl, HRj⟩ := hrel
            clear HR4
            by_cases hjl : j < cl
            · have hjC : j < C.length := by rw [HLT.out.2.1]; exact hjl
              obtain ⟨b1, o1, eK, _, cx⟩ := Cells.at_ (Cells.below HI.out (HRj.out.bel.mono hB)) hjC
              have hx := HLT.out.1 (C.getD j 0) (by simp only [List.getD, List.getElem?_eq_getElem hjC, Option.getD_some]; exact List.getElem_mem hjC)
              have hfb := HFB.out j hjl
              have hfm := HFM.out j hjl
              obtain ⟨x, hxx⟩ : ∃ x, C.getD j 0 = x := ⟨_, rfl⟩
              rw [hxx] at cx hx hfb hfm
              rw [HNN.out.2] at hx
              obtain ⟨v, v1, v2, v3⟩ := lit_cases hx.1
              rw [← v2] at hfb hfm hx
              have HFBj := Lib.hid hfb
              have HFMj := Lib.hid hfm
              have hvn : v < n + 1 := by omega
              have hjI : (j : Int) < (cl : Int) := by omega
              have hclb : cl ≤ 100 := hsh
              have cb := (HRj.out.b1.cell v).trans (cntA_at hvn)
              have cm := (HRj.out.b2.cell v).trans (cntA_at hvn)
              have fb_ := HRj.out.b1.frozen v
              have fm_ := HRj.out.b2.frozen v
              have hvI : (v : Int) < (n : Int) + 1 := by omega
              subst eK
              clear hfb hfm hjC v2
              go_upto_region 16 with fail
              go_cut [15] (fun y wx => y = .int .i64 (v : Int) ∧ wx = wr)
              case first =>
                rcases v3 with h5 | h5
                · have h6 : -x < x := by omega
                  have h7 : ¬ x < -x := by omega
                  have HXX := Lib.hid h5
                  clear h5
                  go_wp2_with fail
                  go_meet
                  exact ⟨by rw [HXX.out]; show Value.int .i64 (max (v : Int) (wrap64 (-(v : Int)))) = _; rw [show wrap64 (-(v : Int)) = -(v : Int) from by unfold wrap64; omega, show max (v : Int) (-(v : Int)) = v by omega], rfl⟩
                · have h6 : x < -x := by omega
                  have h7 : ¬ -x < x := by omega
                  have HXX := Lib.hid h5
                  clear h5
                  go_wp2_with fail
                  go_meet
                  exact ⟨by rw [HXX.out, Int.neg_neg]; show Value.int .i64 (max (-(v : Int)) (wrap64 (v : Int))) = _; rw [show wrap64 (v : Int) = (v : Int) from by unfold wrap64; omega, show max (-(v : Int)) (v : Int) = v by omega], rfl⟩
              case rest =>
                obtain ⟨rfl, rfl⟩ := hcut
                obtain ⟨fmv, hfmv⟩ : ∃ fmv, fmU s z i j v = fmv := ⟨_, rfl⟩
                rw [hfmv] at cm
                have hle : fmv ≤ 20000 := by rw [← hfmv]; exact fmU_le s z i j v (by omega) HSH.out
                have HS2 := Lib.hid (HRj.out.set2 hvn (fmv + 1))
                have HFV := Lib.hid hfmv
                clear hfmv cb fb_ v3
                go_wp2
                go_roundg (cl - j)
                case measure => omega
                case rel => exact ⟨j + 1, by omega, by omega, by go_num, Lib.hid (HS2.out.congr (fun u _ => by rw [HFBj.out]; simp) (fun u _ => by
                  rw [HFMj.out]
                  by_cases e : u = v
                  · subst e; rw [if_pos rfl, HFV.out]; simp
                  · rw [if_neg e]; simp [Ne.symm e]) (fun _ => rfl) rfl)⟩
            · have hje : cl = j := by omega
              subst hje
              go_wp2
              go_roundg (N - i)
              case measure => omega
              case rel => exact ⟨i + 1, kb + 1, by omega, by omega, by go_num, by omega, Lib.hid (HRj.out.congr (fun u _ => HU1.out u) (fun u hu => HU2.out u hu) (fun _ => rfl) rfl)⟩
        · subst hL
          have HR4 : Hid (Rg w wr n K1 K2 mp kb (fbU s z i 0) (fmU s z i 0) (rowF s (i + 1)) (zeroTo s (i + 1))) := Lib.hid (HRr.out.congr (fun _ _ => rfl) (fun _ _ => rfl) (HN0.out.2.1 (by decide)) (by rw [HN0.out.2.2]; rfl))
          clear HRr HD
          go_wp2_with fail
          refine HHO.out.mono ?_
          rintro e w3 ⟨rfl, rfl⟩
          go_wp2_with fail
          refine HHH.out.mono ?_
          rintro e w3 ⟨rfl, rfl⟩
          clear HHO HHH cA
          go_wp2
          go_loopg [54] (cl + 1) (fun gk ti wr => ∃ j : Nat, j ≤ cl ∧ gk = cl - j + 1 ∧ ti = .int .i64 (j : Nat) ∧ Hid (Rg w wr n K1 K2 mp kb (fbU s z i j) (fmU s z i j) (rowF s (i + 1)) (zeroTo s (i + 1))))
          case atStart => exact ⟨0, by omega, by omega, rfl, HR4⟩
          case round =>
            obtain ⟨j, hj, rfl, rfl, HRj⟩ := hrel
            clear HR4
            by_cases hjl : j < cl
            · have hjC : j < C.length := by rw [HLT.out.2.1]; exact hjl
              obtain ⟨b1, o1, eK, _, cx⟩ := Cells.at_ (Cells.below HI.out (HRj.out.bel.mono hB)) hjC
              have hx := HLT.out.1 (C.getD j 0) (by simp only [List.getD, List.getElem?_eq_getElem hjC, Option.getD_some]; exact List.getElem_mem hjC)
              have hfb := HFB.out j hjl
              have hfm := HFM.out j hjl
              obtain ⟨x, hxx⟩ : ∃ x, C.getD j 0 = x := ⟨_, rfl⟩
              rw [hxx] at cx hx hfb hfm
              rw [HNN.out.2] at hx
              obtain ⟨v, v1, v2, v3⟩ := lit_cases hx.1
              rw [← v2] at hfb hfm hx
              have HFBj := Lib.hid hfb
              have HFMj := Lib.hid hfm
              have hvn : v < n + 1 := by omega
              have hjI : (j : Int) < (cl : Int) := by omega
              have hclb : cl ≤ 100 := hsh
              have cb := (HRj.out.b1.cell v).trans (cntA_at hvn)
              have cm := (HRj.out.b2.cell v).trans (cntA_at hvn)
              have fb_ := HRj.out.b1.frozen v
              have fm_ := HRj.out.b2.frozen v
              have hvI : (v : Int) < (n : Int) + 1 := by omega
              subst eK
              clear hfb hfm hjC v2
              go_upto_region 16 with fail
              go_cut [15] (fun y wx => y = .int .i64 (v : Int) ∧ wx = wr)
              case first =>
                rcases v3 with h5 | h5
                · have h6 : -x < x := by omega
                  have h7 : ¬ x < -x := by omega
                  have HXX := Lib.hid h5
                  clear h5
                  go_wp2_with fail
                  go_meet
                  exact ⟨by rw [HXX.out]; show Value.int .i64 (max (v : Int) (wrap64 (-(v : Int)))) = _; rw [show wrap64 (-(v : Int)) = -(v : Int) from by unfold wrap64; omega, show max (v : Int) (-(v : Int)) = v by omega], rfl⟩
                · have h6 : x < -x := by omega
                  have h7 : ¬ -x < x := by omega
                  have HXX := Lib.hid h5
                  clear h5
                  go_wp2_with fail
                  go_meet
                  exact ⟨by rw [HXX.out, Int.neg_neg]; show Value.int .i64 (max (-(v : Int)) (wrap64 (v : Int))) = _; rw [show wrap64 (v : Int) = (v : Int) from by unfold wrap64; omega, show max (-(v : Int)) (v : Int) = v by omega], rfl⟩
              case rest =>
                obtain ⟨rfl, rfl⟩ := hcut
                obtain ⟨fbv, hfbv⟩ : ∃ fbv, fbU s z i j v = fbv := ⟨_, rfl⟩
                rw [hfbv] at cb
                have hle : fbv ≤ 20000 := by rw [← hfbv]; exact fbU_le s z i j v (by omega) HSH.out
                obtain ⟨w5, hw5⟩ : ∃ w5, w5 = wc.alloc (.cells #[.int .i64 x] 3) := ⟨_, rfl⟩
                have hb5 : Below wc.heap.size wc w5 := by rw [hw5]; exact (Below.refl _ _).alloc (Nat.le_refl _) _
                have hR5 := HRj.out.below hb5
                have hi5 : Ints w5 w5.heap.size (some ⟨wc.heap.size, 0, none⟩) [x] := ints_blk4 (t := 3) (by rw [hw5]; exact Blk.new wc _ _) (by rw [hw5]; simp)
                have hho5 := holding_law [x] z w5.heap.size B' (some ⟨wc.heap.size, 0, none⟩) Az 1 cz w5 (by simp) (by rw [HNN.out.2]; exact hzn) (fun y hy => by
                  obtain rfl : y = x := by simpa using hy
                  rw [HNN.out.2]
                  omega) hi5 (Cells.below HX.out.2.2.2.2 (hR5.bel.mono hB'))
                rw [HNN.out.2] at hho5
                have e5 : ([x].filter (hol z)).length = if hol z x = true then 1 else 0 := by
                  rw [List.filter_cons]
                  split <;> rfl
                rw [e5] at hho5
                have HS5 := Lib.hid hR5
                have cb5 := (hR5.b1.cell v).trans (cntA_at hvn)
                have fb5 := hR5.b1.frozen v
                rw [hfbv] at cb5
                have HH5 := Lib.hid hho5
                have HW5 := Lib.hid hw5
                have HFV := Lib.hid hfbv
                have HS1 := Lib.hid (hR5.set1 hvn (fbv + 1))
                obtain ⟨y, hy⟩ : ∃ y, hol z x = y := ⟨_, rfl⟩
                rw [hy] at HH5 HFBj
                clear hfbv cm fm_ v3 hb5 hR5 hi5 hho5 e5 hw5 hy
                cases y
                · go_wp2_with fail
                  rw [← HW5.out]
                  refine HH5.out.mono ?_
                  rintro e w6 ⟨rfl, rfl⟩
                  go_wp2
                  go_roundg (cl - j)
                  case measure => omega
                  case rel => exact ⟨j + 1, by omega, by omega, by go_num, Lib.hid (HS5.out.congr (fun u _ => by rw [HFBj.out]; simp) (fun u _ => by rw [HFMj.out]; simp) (fun _ => rfl) rfl)⟩
                · go_wp2_with fail
                  rw [← HW5.out]
                  refine HH5.out.mono ?_
                  rintro e w6 ⟨rfl, rfl⟩
                  go_wp2
                  go_roundg (cl - j)
                  case measure => omega
                  case rel => exact ⟨j + 1, by omega, by omega, by go_num, Lib.hid (HS1.out.congr (fun u _ => by
                    rw [HFBj.out]
                    by_cases e : u = v
                    · subst e; rw [if_pos rfl, HFV.out]; simp
                    · rw [if_neg e]; simp [Ne.symm e]) (fun u _ => by rw [HFMj.out]; simp) (fun _ => rfl) rfl)⟩
            · have hje : cl = j := by omega
              subst hje
              go_wp2
              go_roundg (N - i)
              case measure => omega
              case rel => exact ⟨i + 1, kb, by omega, by omega, by go_num, by omega, Lib.hid (HRj.out.congr (fun u _ => HU1.out u) (fun u hu => HU2.out u hu) (fun _ => rfl) rfl)⟩
        · have hL0 : ((L : Int) == 0) = false := by simp; omega
          have hL1 : ((L : Int) == 1) = false := by simp; omega
          have HR4 : Hid (Rg w wr n K1 K2 mp kb (fbU s z i 0) (fmU s z i 0) (rowF s (i + 1)) (zeroTo s (i + 1))) := Lib.hid (HRr.out.congr (fun _ _ => rfl) (fun _ _ => rfl) (HN0.out.2.1 (by omega)) (by rw [HN0.out.2.2, if_neg (by omega)]; rfl))
          clear HRr HD
          go_wp2_with fail
          refine HHO.out.mono ?_
          rintro e w3 ⟨rfl, rfl⟩
          go_wp2_with fail
          refine HHH.out.mono ?_
          rintro e w3 ⟨rfl, rfl⟩
          clear HHO HHH cA
          go_wp2
          go_loopg [54] (cl + 1) (fun gk ti wr => ∃ j : Nat, j ≤ cl ∧ gk = cl - j + 1 ∧ ti = .int .i64 (j : Nat) ∧ Hid (Rg w wr n K1 K2 mp kb (fbU s z i j) (fmU s z i j) (rowF s (i + 1)) (zeroTo s (i + 1))))
          case atStart => exact ⟨0, by omega, by omega, rfl, HR4⟩
          case round =>
            obtain ⟨j, hj, rfl, rfl, HRj⟩ := hrel
            clear HR4
            by_cases hjl : j < cl
            · have hjC : j < C.length := by rw [HLT.out.2.1]; exact hjl
              obtain ⟨b1, o1, eK, _, cx⟩ := Cells.at_ (Cells.below HI.out (HRj.out.bel.mono hB)) hjC
              have hx := HLT.out.1 (C.getD j 0) (by simp only [List.getD, List.getElem?_eq_getElem hjC, Option.getD_some]; exact List.getElem_mem hjC)
              have hfb := HFB.out j hjl
              have hfm := HFM.out j hjl
              obtain ⟨x, hxx⟩ : ∃ x, C.getD j 0 = x := ⟨_, rfl⟩
              rw [hxx] at cx hx hfb hfm
              rw [HNN.out.2] at hx
              obtain ⟨v, v1, v2, v3⟩ := lit_cases hx.1
              rw [← v2] at hfb hfm hx
              have HFBj := Lib.hid hfb
              have HFMj := Lib.hid hfm
              have hvn : v < n + 1 := by omega
              have hjI : (j : Int) < (cl : Int) := by omega
              have hclb : cl ≤ 100 := hsh
              have cb := (HRj.out.b1.cell v).trans (cntA_at hvn)
              have cm := (HRj.out.b2.cell v).trans (cntA_at hvn)
              have fb_ := HRj.out.b1.frozen v
              have fm_ := HRj.out.b2.frozen v
              have hvI : (v : Int) < (n : Int) + 1 := by omega
              subst eK
              clear hfb hfm hjC v2
              go_upto_region 16 with fail
              go_cut [15] (fun y wx => y = .int .i64 (v : Int) ∧ wx = wr)
              case first =>
                rcases v3 with h5 | h5
                · have h6 : -x < x := by omega
                  have h7 : ¬ x < -x := by omega
                  have HXX := Lib.hid h5
                  clear h5
                  go_wp2_with fail
                  go_meet
                  exact ⟨by rw [HXX.out]; show Value.int .i64 (max (v : Int) (wrap64 (-(v : Int)))) = _; rw [show wrap64 (-(v : Int)) = -(v : Int) from by unfold wrap64; omega, show max (v : Int) (-(v : Int)) = v by omega], rfl⟩
                · have h6 : x < -x := by omega
                  have h7 : ¬ -x < x := by omega
                  have HXX := Lib.hid h5
                  clear h5
                  go_wp2_with fail
                  go_meet
                  exact ⟨by rw [HXX.out, Int.neg_neg]; show Value.int .i64 (max (-(v : Int)) (wrap64 (v : Int))) = _; rw [show wrap64 (v : Int) = (v : Int) from by unfold wrap64; omega, show max (-(v : Int)) (v : Int) = v by omega], rfl⟩
              case rest =>
                obtain ⟨rfl, rfl⟩ := hcut
                clear cb fb_ cm fm_ v3
                go_wp2
                go_roundg (cl - j)
                case measure => omega
                case rel => exact ⟨j + 1, by omega, by omega, by go_num, Lib.hid (HRj.out.congr (fun u _ => by rw [HFBj.out, if_neg (fun e => by omega)]; rfl) (fun u _ => by rw [HFMj.out, if_neg (fun e => by omega)]; rfl) (fun _ => rfl) rfl)⟩
            · have hje : cl = j := by omega
              subst hje
              go_wp2
              go_roundg (N - i)
              case measure => omega
              case rel => exact ⟨i + 1, kb, by omega, by omega, by go_num, by omega, Lib.hid (HRj.out.congr (fun u _ => HU1.out u) (fun u hu => HU2.out u hu) (fun _ => rfl) rfl)⟩
      · have hNi : N = i := by omega
        subst hNi
        have HR5 : Hid (Rg w wr n K1 K2 mp kb (brk s.hss) (makeOf s z) (rowG s 0) s.row.length) := Lib.hid (HRr.out.congr (fun u _ => by rw [fbU_zero, ← HNN.out.1]; exact brk_full HX.out.2.1 u) (fun u _ => by rw [fmU_zero, ← HNN.out.1]; exact mkTo_full s z u) (fun x => by rw [← HNN.out.1]; exact rowG_zero s x) (by rw [← HNN.out.1]; exact zeroTo_row HX.out.2.1))
        obtain ⟨w5, rfl⟩ : ∃ w5 : World, w5 = wr := ⟨_, rfl⟩
        clear hi HRr
        go_wp2
        go_loopg [16] (n + 2) (fun gk ti wr => ∃ v : Nat, v ≤ n + 1 ∧ gk = n + 1 - v + 1 ∧ ti = .int .i64 (v : Nat) ∧ Hid (Rg w wr n K1 K2 mp kb (brk s.hss) (makeOf s z) (rowG s 0) s.row.length))
        case atStart => exact ⟨0, by omega, by omega, rfl, HR5⟩
        case round =>
          obtain ⟨v, hv, rfl, rfl, HRv⟩ := hrel
          clear HR5
          by_cases hlt : v < n + 1
          · have hL := HX.out.1.below HRv.out.bel
            have hZv := Cells.below HX.out.2.2.2.2 (HRv.out.bel.mono hB')
            have HBK := Lib.hid (fun k => same_drew14 (break_any (hL.drewN k) (show z.length ≤ 1000 by rw [HNN.out.2]; exact hzn) (v : Int) (by omega)))
            have HVL := Lib.hid (fun k => same_drew14 (value_loc (hL.drewN k) (show z.length ≤ 1000 by rw [HNN.out.2]; exact hzn) (v : Int) (by omega)))
            have cb := (HRv.out.b1.cell v).trans (cntA_at hlt)
            have cm := (HRv.out.b2.cell v).trans (cntA_at hlt)
            have hbl := brk_le s.hss v
            rw [HX.out.2.1.len, HNN.out.1] at hbl
            have hvI : (v : Int) < (n : Int) + 1 := by omega
            rcases Nat.eq_zero_or_pos v with h0 | h0
            · subst h0
              have HMK := Lib.hid (fun k => same_drew14 (make_no (hL.drewN k) (show z.length ≤ 1000 by rw [HNN.out.2]; exact hzn) (v := ((0 : Nat) : Int)) (by omega) (by omega)))
              change Hid (∀ k, Calls _ _ _ (wr.drewN k) fun e w' => e = .returned (.int .i64 (if (1 : Int) ≤ ((0 : Nat) : Int) ∧ ((0 : Nat) : Int) ≤ (z.length : Nat) then (brk s.hss ((0 : Nat) : Int).toNat : Nat) else 0)) ∧ ∃ j, w' = (wr.drewN k).drewN j) at HBK
              rw [if_neg (by omega)] at HBK
              change Hid (∀ k, Calls _ _ _ (wr.drewN k) fun e w' => e = .returned (.bool (valZ z ((0 : Nat) : Int))) ∧ ∃ j, w' = (wr.drewN k).drewN j) at HVL
              rw [show valZ z ((0 : Nat) : Int) = false from rfl] at HVL
              rw [brk_zero HX.out.2.1] at cb
              rw [show makeOf s z 0 = 0 from makeOf_zero HX.out.2.1] at cm
              clear hL hZv hbl
              go_wp2_with fail
              go_quiet (first
                | (go_at_call 28; first | exact Calls.quiet_of (HBK.out _) | exact quiet_add_of14 (HBK.out _))
                | (go_at_call 29; first | exact Calls.quiet_of (HMK.out _) | exact quiet_add_of14 (HMK.out _))
                | (go_at_call 33; first | exact Calls.quiet_of (HVL.out _) | exact quiet_add_of14 (HVL.out _)))
              go_wp2
              go_roundg (n + 1)
              case measure => omega
              case rel => exact ⟨1, by omega, by omega, by go_num, Lib.hid (HRv.out.drewN _)⟩
            · have HMK := Lib.hid (fun k => make_yes (hL.drewN k) HX.out.2.1 (v := v) h0 (by rw [HNN.out.2]; omega))
              change Hid (∀ k, Calls _ _ _ (wr.drewN k) fun e w' => e = .returned (.int .i64 (if (1 : Int) ≤ (v : Int) ∧ (v : Int) ≤ (z.length : Nat) then (brk s.hss (v : Int).toNat : Nat) else 0)) ∧ ∃ j, w' = (wr.drewN k).drewN j) at HBK
              rw [if_pos (by rw [HNN.out.2]; omega), Int.toNat_natCast] at HBK
              change Hid (∀ k, Calls _ _ _ (wr.drewN k) fun e w' => e = .returned (.bool (valZ z (v : Int))) ∧ ∃ j, w' = (wr.drewN k).drewN j) at HVL
              have hvz : valZ z (v : Int) = z.getD (v - 1) false := by
                unfold valZ
                rw [decide_eq_true (by rw [HNN.out.2]; omega), show ((v : Int) - 1).toNat = v - 1 by omega]
                rfl
              rw [hvz] at HVL
              obtain ⟨k, rfl⟩ : ∃ k, v = k + 1 := ⟨v - 1, by omega⟩
              rw [Nat.add_sub_cancel] at HVL
              obtain ⟨b2, o2, eZ, _, cz2⟩ := Cells.at_ hZv (show k < z.length by rw [HNN.out.2]; omega)
              obtain ⟨y, hy⟩ : ∃ y, z.getD k false = y := ⟨_, rfl⟩
              rw [hy] at HVL cz2
              have hml : makeOf s z (k + 1) ≤ 100 := Nat.le_trans (List.length_filter_le _ _) (Nat.le_trans (hav_len _ _) (by rw [HNN.out.1]; exact hfew))
              obtain ⟨X, hX⟩ : ∃ X, brk s.hss (k + 1) = X := ⟨_, rfl⟩
              obtain ⟨Y, hY⟩ : ∃ Y, makeOf s z (k + 1) = Y := ⟨_, rfl⟩
              rw [hX] at HBK cb hbl
              rw [hY] at HMK cm hml
              have hkn : (k : Int) < (n : Int) := by omega
              have hkb2 : (k : Int) ≤ 1000 := by omega
              have hk0 : (0 : Int) < (k : Int) + 1 := by omega
              subst eZ
              clear hL hZv hvz hy hX hY
              go_wp2_with fail
              go_quiet (first
                | (go_at_call 28; first | exact Calls.quiet_of (HBK.out _) | exact quiet_add_of14 (HBK.out _))
                | (go_at_call 29; first | exact Calls.quiet_of (HMK.out _) | exact quiet_add_of14 (HMK.out _))
                | (go_at_call 33; first | exact Calls.quiet_of (HVL.out _) | exact quiet_add_of14 (HVL.out _)))
              go_wp2
              go_roundg (n + 1 - (k + 1))
              case measure => omega
              case rel => exact ⟨k + 1 + 1, by omega, by omega, by go_num, Lib.hid (HRv.out.drewN _)⟩
          · have hve : v = n + 1 := by omega
            subst hve
            have hL := HX.out.1.below HRv.out.bel
            have hrl := HX.out.2.1.rlen
            rw [HNN.out.1] at hrl
            obtain ⟨R, hR⟩ : ∃ R, s.row.length = R := ⟨_, rfl⟩
            have HRR := Lib.hid hR
            have HUN := Lib.hid (unsat_any hL)
            change Hid (Calls _ _ _ _ fun e w' => e = .returned (.int .i64 (s.row.length : Nat)) ∧ wr = w') at HUN
            have hro1 := row_any hL (show s.row.length ≤ 1000 by omega) (R : Int)
            have hro2 := row_any hL (show s.row.length ≤ 1000 by omega) (-1)
            change Calls _ _ _ _ (fun e w' => e = .returned (.int .i64 (rowAt s.row (R : Int))) ∧ wr = w') at hro1
            change Calls _ _ _ _ (fun e w' => e = .returned (.int .i64 (rowAt s.row (-1))) ∧ wr = w') at hro2
            rw [show rowAt s.row (R : Int) = -1 from if_neg (by omega)] at hro1
            rw [show rowAt s.row (-1) = -1 from if_neg (by omega)] at hro2
            have HR1 := Lib.hid hro1
            have HR2 := Lib.hid hro2
            obtain ⟨D, hD1, hD2, hD3⟩ := HRv.out.map
            have hlen := hD1.len Try.underlying90 3
            rw [hD2, hR] at hlen
            rw [hR] at HUN hrl
            have HR6 : Hid (Rg w wr n K1 K2 mp kb (brk s.hss) (makeOf s z) (rowG s 0) R) := Lib.hid (by rw [← hR]; exact HRv.out)
            clear hL hro1 hro2 hD1 hD2 hD3 hR HRv
            go_wp2_with fail
            refine HUN.out.mono ?_
            rintro e w6 ⟨rfl, rfl⟩
            go_wp2_with fail
            refine HR1.out.mono ?_
            rintro e w6 ⟨rfl, rfl⟩
            go_wp2_with fail
            refine HR2.out.mono ?_
            rintro e w6 ⟨rfl, rfl⟩
            go_wp2_with fail
            refine HUN.out.mono ?_
            rintro e w6 ⟨rfl, rfl⟩
            clear hlen
            go_wp2
            clear HUN HR1 HR2 hlt
            go_loopg [145] (R + 1) (fun gk ti wr => ∃ i kc : Nat, i ≤ R ∧ gk = R - i + 1 ∧ ti = .int .i64 (i : Nat) ∧ kc ≤ 100 + i ∧ Hid (Rg w wr n K1 K2 mp kc (brk s.hss) (makeOf s z) (rowG s i) R))
            case atStart => exact ⟨0, kb, by omega, by omega, rfl, by omega, HR6⟩
            case round =>
              obtain ⟨i, kc, hi, rfl, rfl, hkc, HRi⟩ := hrel
              clear HR6
              by_cases hlt : i < R
              · have hL := HX.out.1.below HRi.out.bel
                have hiR : i < s.row.length := by rw [HRR.out]; exact hlt
                have hro := row_any hL (show s.row.length ≤ 1000 by rw [HRR.out]; omega) (i : Int)
                change Calls _ _ _ _ (fun e w' => e = .returned (.int .i64 (rowAt s.row (i : Int))) ∧ wr = w') at hro
                rw [show rowAt s.row (i : Int) = (s.row.getD i 0 : Nat) from by unfold rowAt; rw [if_pos (by omega), Int.toNat_natCast]] at hro
                have hg1 := rowG_at HX.out.2.1 hiR
                have hgn := fun x => rowG_next hiR x
                have hxb := ((HX.out.2.1.rmem (s.row.getD i 0)).1 (by simp only [List.getD, List.getElem?_eq_getElem hiR, Option.getD_some]; exact List.getElem_mem hiR)).1
                rw [HNN.out.1] at hxb
                obtain ⟨x, hx⟩ : ∃ x, s.row.getD i 0 = x := ⟨_, rfl⟩
                rw [hx] at hro hg1 hgn hxb
                have HRO := Lib.hid hro
                have HGN := Lib.hid (And.intro hg1 hgn)
                obtain ⟨D, hD1, hD2, hD3⟩ := HRi.out.map
                have HD := Lib.hid (And.intro hD1 (And.intro hD2 hD3))
                have hiI : (i : Int) < (R : Int) := by omega
                clear hL hro hg1 hgn hx hD1 hD2 hD3 hiR
                go_wp2_with fail
                refine HRO.out.mono ?_
                rintro e w6 ⟨rfl, rfl⟩
                go_wp2_with (first
                  | (at_lookup; refine wpList_lookup_own_int _ rfl _ _ 90 rfl 3 3 .i64 intLaw14 Try.underlying90 Try.underlying3 (zeroI14 _) mp kc D rfl HD.out.1 _ _ rfl (Maps.keyOf_int_mk Try.underlying3 (WalkArith.wf_i64 (by omega))) ?_; intro c3 hat hwc; obtain rfl : c3 = 1 := by rw [(HD.out.2.2 (x : Int) (by omega) (by omega)).1, HGN.out.1] at hat; injection hat with hat; injection hat with _ hat; exact hat.symm)
                  | (at_mapUpdate; refine wpList_mapUpdate_own _ rfl _ _ _ 90 rfl 3 3 intLaw14 Try.underlying90 _ mp kc D rfl HD.out.1 (by unfold maxLen; omega) _ _ _ rfl rfl (Maps.keyOf_int_mk Try.underlying3 (WalkArith.wf_i64 (by omega))) _ [] (plainElem_int Try.underlying3 (by decide)) ?_; intro w7 hown7 hgrow7))
                have hp := HRi.out.put HD.out.1 HD.out.2.1 HD.out.2.2 (x := (x : Int)) (by omega) (by omega) hown7 hgrow7
                rw [HGN.out.1, if_neg (by decide)] at hp
                have HR7 : Hid (Rg w w7 n K1 K2 mp (kc + 1) (brk s.hss) (makeOf s z) (rowG s (i + 1)) R) := Lib.hid (hp.congr (fun _ _ => rfl) (fun _ _ => rfl) HGN.out.2 rfl)
                clear hp hown7 hgrow7 HD HRi hat hwc
                go_wp2
                go_roundg (R - i)
                case measure => omega
                case rel => exact ⟨i + 1, kc + 1, by omega, by omega, by go_num, by omega, HR7⟩
              · have hie : R = i := by omega
                subst hie
                go_wp2
                go_ret
                exact ⟨rfl, HRi.out.bel⟩
end Go.Proofs.Ytbejjddkndcldaa
