/- The statement that a formula in which a variable is turned round is satisfied by just those assignments in which it is turned: walked. -/
import Derived.Test.YtdacdodigbpdoaaBrutes02
import Derived.Test.YtdacdodigbpdoaaTurnMath
import Derived.Test.YtdacdodigbpdoaaCells2
namespace Go.Proofs.Ytdacdodigbpdoaa
open Go.RowKit

/-- the second formula being turned, the first one as it was -/
structure TurnG (B gf gg : Nat) (A1 A2 : Option Addr) (c1 c2 : Nat) (vs : List Value) (xss : List (List Int)) (F : Nat) (S : Nat) (w0 wr : World) : Prop where
  bf : Blk wr gf 30 #[Value.int IntKind.i64 F, Value.slice A1 xss.length c1]
  bg : Blk wr gg 30 #[Value.int IntKind.i64 F, Value.slice A2 xss.length c2]
  rf : Rows wr B A1 xss
  own : wr.ownsRow B 33 1 (.slice A2 xss.length c2) xss.length vs
  below : Below S w0 wr
theorem TurnG.store {B gf gg S : Nat} {A1 A2 : Option Addr} {c1 c2 : Nat} {vs : List Value} {xss yss : List (List Int)} {F i k g ci : Nat} {w0 wr : World} (h : TurnG B gf gg A1 A2 c1 c2 vs xss F S w0 wr) (hS : S ≤ B)
    (ho : OwnList wr B 3 vs yss) (hi : i < yss.length) (hv : vs[i]? = some (.slice (some ⟨g, 0, none⟩) (yss.getD i []).length ci)) (hk : k < (yss.getD i []).length) (y : Int) :
    TurnG B gf gg A1 A2 c1 c2 vs xss F S w0 (wr.setCell ⟨g, k, none⟩ (.int .i64 y)) := by
  obtain ⟨Ai, ci', h1, h2⟩ := ho.each i hi
  rw [hv] at h1
  injection h1 with h1
  injection h1 with e1 _ e3
  subst e1 e3
  obtain ⟨g', hA, hg1, hg2⟩ := own_addr h2 (by omega)
  injection hA with hA
  injection hA with hA
  subst hA
  exact ⟨h.bf.far (p := ⟨g, k, none⟩) (fun e => own_blk_ne h2 h.bf (by decide) (by show some gf = some g; rw [e])) _,
    h.bg.far (p := ⟨g, k, none⟩) (fun e => own_blk_ne h2 h.bg (by decide) (by show some gg = some g; rw [e])) _,
    h.rf.setCell (p := ⟨g, k, none⟩) hg1 _,
    own_setCell h.own _ (fun e => by
      rcases own_own_ne h2 h.own (by decide) with h3 | h3
      · cases h3
      · exact h3 e),
    h.below.setCell (p := ⟨g, k, none⟩) (by show S ≤ g; omega) _⟩
/-- what stands at a place of a row of one's own -/
theorem OwnList.elem {w : World} {base : Nat} {ei : TypeId} {vs : List Value} {yss : List (List Int)} {i k ci li : Nat} {Ai : Option Addr} (h : OwnList w base ei vs yss) (hi : i < yss.length) (hv : vs[i]? = some (.slice Ai li ci)) (hk : k < (yss.getD i []).length) :
    ∃ g, Ai = some ⟨g, 0, none⟩ ∧ li = (yss.getD i []).length ∧ w.cell? ⟨g, k, none⟩ = some (.int .i64 ((yss.getD i []).getD k 0)) ∧ w.frozen? ⟨g, k, none⟩ = false := by
  obtain ⟨Ai', ci', h1, h2⟩ := h.each i hi
  rw [hv] at h1
  injection h1 with h1
  injection h1 with e1 e2 e3
  subst e1 e3
  obtain ⟨g, hA, hg1, hg2⟩ := own_addr h2 (by omega)
  subst hA
  refine ⟨g, rfl, e2, ?_, World.ownsRow.frozenAt h2 k⟩
  rw [World.ownsRow.cellAt h2 k (by omega)]
  have e : (yss.getD i []).getD k 0 = (yss.getD i [])[k] := by rw [List.getD_eq_getElem?_getD, List.getElem?_eq_getElem hk]; rfl
  rw [List.getElem?_map, List.getElem?_eq_getElem hk, e]
  rfl

theorem turn_wides {F : Nat} {x : Int} {xss : List (List Int)} (h1 : xss.length ≤ 1000) (h2 : ∀ j, (xss.getD j []).length ≤ 1000) (h3 : ∀ j i, -(F : Int) ≤ (xss.getD j []).getD i 0 ∧ (xss.getD j []).getD i 0 ≤ F) (hF : F ≤ 1000) : Wides (turnForm x xss) := by
  refine ⟨by rw [turnForm_len]; omega, fun j => ?_⟩
  rw [turnForm_getD]
  refine ⟨by rw [turnClause_len]; have := h2 j; omega, fun k => ?_⟩
  have hb := h3 j k
  unfold turnClause
  by_cases hk : k < (xss.getD j []).length
  · have e : ((xss.getD j []).map (turnLit x)).getD k 0 = turnLit x ((xss.getD j []).getD k 0) := by
      generalize xss.getD j [] = c at hk
      simp [List.getD, hk]
    rw [e]
    unfold turnLit
    split <;> omega
  · have e : ((xss.getD j []).map (turnLit x)).getD k 0 = 0 := by
      generalize xss.getD j [] = c at hk
      simp [List.getD, List.getElem?_eq_none (Nat.le_of_not_lt hk)]
    rw [e]; omega
theorem brute_same {F q : Nat} {xss : List (List Int)} {w w' : World} {ok ok' : Bool} {A A' : Option Addr} {n n' : Nat} (hq : q < F) (h1 : BruteInfo F xss w ok A n) (h2 : BruteInfo F (turnForm ((q : Int) + 1) xss) w' ok' A' n') : ok' = ok := by
  rcases h1 with ⟨e1, _, z, hz, _, hs, _⟩ | ⟨e1, _, hno⟩
  · rcases h2 with ⟨e2, _⟩ | ⟨e2, _, hno⟩
    · rw [e1, e2]
    · have := hno (flipAt z q) (by rw [flipAt_length, hz])
      rw [formSat_turn (by omega), hs] at this
      cases this
  · rcases h2 with ⟨e2, _, z, hz, _, hs, _⟩ | ⟨e2, _⟩
    · have h3 := hno (flipAt z q) (by rw [flipAt_length, hz])
      have h4 := formSat_turn (z := z) (j := q) (by omega) (turnForm ((q : Int) + 1) xss)
      rw [turnForm_twice, h3, hs] at h4
      cases h4
    · rw [e1, e2]

set_option maxRecDepth 100000 in
set_option maxHeartbeats 6400000 in
theorem turned_any (v : Nat) (nss : List (List Int)) (A : Option Addr) (c : Nat) (bits vv : Int) (w : World) (hv : v ≤ 255) (hv0 : 0 ≤ vv) (hv1 : vv ≤ 255)
    (hx : nss.length ≤ 140737488355328) (hl : ∀ j, (nss.getD j []).length ≤ 140737488355328) (hn : ∀ j k, -32768 ≤ (nss.getD j []).getD k 0 ∧ (nss.getD j []).getD k 0 ≤ 32767) (h : KRows .i16 w w.heap.size A nss) :
    Calls Try.prog 7 #[.agg #[.int .u8 v, .slice A nss.length c], .int .u16 bits, .int .u8 vv] w fun e w' => e = .returned (.bool true) ∧ Below w.heap.size w w' := by
  have H := Lib.hid h
  have HL := Lib.hid hl
  have HN := Lib.hid hn
  clear h hl hn
  go_enter Try.func7, Try.ntmps7
  go_wp2_with fail
  obtain ⟨w1, hw1⟩ : ∃ w1, w1 = w.alloc (Obj.cells #[Value.int IntKind.u8 v, Value.slice A nss.length c] 24) := ⟨_, rfl⟩
  have HR1 := Lib.hid (show KRows .i16 w1 w.heap.size A nss by rw [hw1]; exact H.out.alloc (Nat.le_refl _) _)
  have HB1 := Lib.hid (show Below w.heap.size w w1 by rw [hw1]; exact (Below.refl _ _).alloc (Nat.le_refl _) _)
  have HK1 := Lib.hid (show Blk w1 w.heap.size 24 #[Value.int IntKind.u8 v, Value.slice A nss.length c] by rw [hw1]; exact Blk.new w _ _)
  rw [← hw1]
  clear hw1
  refine (fit02_any w1).mono ?_
  rintro e w2 ⟨rfl, hb2⟩
  have HR2 := Lib.hid (HR1.out.below (hb2.mono HB1.out.size))
  have HB2 := Lib.hid (HB1.out.trans (hb2.mono HB1.out.size))
  have HK2 := Lib.hid (HK1.out.below hb2 HK1.out.lt)
  clear hb2 HR1 HB1 HK1
  have k0 := HK2.out.cell 0
  have k1 := HK2.out.cell 1
  simp at k0 k1
  go_wp2_with fail
  refine (light_any v nss _ A c 40 w2 (by omega) hx HL.out HR2.out HB2.out.size).mono ?_
  rintro e w3 ⟨rfl, hb3⟩
  have HR3 := Lib.hid (HR2.out.below (hb3.mono HB2.out.size))
  have HB3 := Lib.hid (HB2.out.trans (hb3.mono HB2.out.size))
  have HK3 := Lib.hid (HK2.out.below hb3 HK2.out.lt)
  clear hb3 HR2 HB2 HK2 k0 k1
  have k0 := HK3.out.cell 0
  have k1 := HK3.out.cell 1
  simp at k0 k1
  rcases hlt : light nss 40 with _ | _
  · go_wp2
    go_ret
    exact ⟨rfl, HB3.out⟩
  · have hls := light_small hlt (by omega)
    have HLT := Lib.hid hlt
    clear hlt
    have hF : v % (9 + 1) ≤ 9 := by omega
    have hfo := fun (X : World) (h1 : KRows .i16 X w.heap.size A nss) (h2 : w.heap.size ≤ X.heap.size) => formula_any v nss _ A c 9 9 X hv (by omega) (by omega) hls.1 hls.2 HN.out h1 h2
    obtain ⟨F, hFF⟩ : ∃ F, F = v % (9 + 1) := ⟨_, rfl⟩
    rw [← hFF] at hF
    simp only [← hFF] at hfo
    clear hFF
    have hrf := raw_facts (F := F) (width := 9) (by omega) (by omega) (by omega) HLT.out
    obtain ⟨xss, hxs⟩ : ∃ xss, xss = rawForm F 9 nss := ⟨_, rfl⟩
    rw [← hxs] at hrf
    simp only [← hxs] at hfo
    clear hxs
    obtain ⟨hx1, hx2, hx3, hx4, hx5⟩ := hrf
    have HX2 := Lib.hid hx2
    have HX3 := Lib.hid hx3
    have HX5 := Lib.hid hx5
    have HFO := Lib.hid hfo
    have hs03 := HB3.out.size
    have hlt0 : w.heap.size < w3.heap.size := HK3.out.lt
    clear hx2 hx3 hx5 hfo hls
    have HKR := Lib.hid (show ∀ X, Below w3.heap.size w3 X → KRows .i16 X w.heap.size A nss ∧ w.heap.size ≤ X.heap.size from fun X h => ⟨HR3.out.below (h.mono hs03), Nat.le_trans hs03 h.size⟩)
    have HKE := Lib.hid (show ∀ X, Below w3.heap.size w3 X → X.cell? ⟨w.heap.size, 0, none⟩ = some (.int .u8 v) ∧ X.cell? ⟨w.heap.size, 1, none⟩ = some (.slice A nss.length c) from
      fun X h => ⟨(h.cell (p := ⟨w.heap.size, 0, none⟩) hlt0).trans k0, (h.cell (p := ⟨w.heap.size, 1, none⟩) hlt0).trans k1⟩)
    go_wp2_with fail
    go_cut [7, 8] (fun p q w' => ∃ (gf gg B : Nat) (A1 A2 : Option Addr) (c1 c2 : Nat) (vs : List Value), p = .pointer (some ⟨gf, 0, none⟩) ∧ q = .pointer (some ⟨gg, 0, none⟩) ∧ w3.heap.size ≤ gf ∧ w3.heap.size ≤ gg ∧
      Blk w' gf 30 #[.int .i64 F, .slice A1 xss.length c1] ∧ Blk w' gg 30 #[.int .i64 F, .slice A2 xss.length c2] ∧ B ≤ w'.heap.size ∧ gf ≠ gg ∧ w3.heap.size ≤ B ∧
      Rows w' B A1 xss ∧ w'.ownsRow B 33 1 (.slice A2 xss.length c2) xss.length vs ∧ OwnList w' B 3 vs xss ∧ Below w3.heap.size w3 w')
    case first =>
      have firstCall : Hid True := Lib.hid trivial
      go_region_held3 (fun w' => w'.cell? ⟨w.heap.size, 0, none⟩ = some (.int .u8 v) ∧ w'.cell? ⟨w.heap.size, 1, none⟩ = some (.slice A nss.length c))
        (first
          | (refine HKE.out _ ?_; repeat (first | exact HB.out | exact HA.out | exact Below.refl _ _ | refine Below.drew ?_ | refine Below.alloc ?_ (by first | exact Nat.le_refl _ | omega | (simp <;> omega)) _ | refine Below.setCell ?_ (by first | exact Nat.le_refl _ | omega | (simp <;> omega)) _))
          | go_keep)
        (first
          | (go_at_call 10; clear firstCall; refine (HFO.out _ (HKR.out _ ?_).1 (HKR.out _ ?_).2).mono ?_; (repeat (first | exact Below.refl _ _ | refine Below.drew ?_ | refine Below.alloc ?_ (by first | exact Nat.le_refl _ | omega | (simp <;> omega)) _)); (repeat (first | exact Below.refl _ _ | refine Below.drew ?_ | refine Below.alloc ?_ (by first | exact Nat.le_refl _ | omega | (simp <;> omega)) _)); rintro e wA ⟨A1, c1, vs1, rfl, ho1, hl1, hb1⟩; have hA : Below w3.heap.size w3 wA := (by refine Below.trans ?_ (hb1.mono ?_); (repeat (first | exact Below.refl _ _ | refine Below.drew ?_ | refine Below.alloc ?_ (by first | exact Nat.le_refl _ | omega | (simp <;> omega)) _)); (first | exact Nat.le_refl _ | (simp; done) | (simp; omega))); have HA := Lib.hid hA; clear hA; have hzA : w3.heap.size ≤ wA.heap.size := HA.out.size; have hzA2 := hb1.size; (try simp at hzA2); have HRK := Lib.hid (fun w' => hl1.rows_agree (w' := w') ho1); (try simp at HRK); (try (have BZ0 := Lib.hid (show Blk wA w3.heap.size 30 #[Value.int IntKind.i64 0, Value.slice none 0 0] from Blk.below (by first | exact Blk.new w3 _ _ | exact (Blk.new w3 _ _).alloc _ | exact (Blk.new w3 _ _).drew_ | exact ((Blk.new w3 _ _).alloc _).drew_) hb1 (by first | omega | (simp <;> omega))))); (try (have BZ1 := Lib.hid (show Blk wA (w3.heap.size + 1) 30 #[Value.int IntKind.i64 0, Value.slice none 0 0] from Blk.below (by have hq := Blk.new (w3.alloc (Obj.cells #[Value.int IntKind.i64 0, Value.slice none 0 0] 30)) 30 #[Value.int IntKind.i64 0, Value.slice none 0 0]; simp only [World.size_alloc] at hq; first | exact hq | exact hq.drew_) hb1 (by first | omega | (simp <;> omega))))); clear ho1 hl1 hb1)
          | (go_at_call 10; have tok := HA.out; clear tok; refine (HFO.out _ (HKR.out _ ?_).1 (HKR.out _ ?_).2).mono ?_; (repeat (first | exact HA.out | exact Below.refl _ _ | refine Below.drew ?_ | refine Below.alloc ?_ (by first | exact Nat.le_refl _ | omega | (simp <;> omega)) _)); (repeat (first | exact HA.out | exact Below.refl _ _ | refine Below.drew ?_ | refine Below.alloc ?_ (by first | exact Nat.le_refl _ | omega | (simp <;> omega)) _)); rintro e wB ⟨A2, c2, vs2, rfl, ho2, hl2, hb2⟩; have hB : Below w3.heap.size w3 wB := (by refine Below.trans ?_ (hb2.mono ?_); (repeat (first | exact HA.out | exact Below.refl _ _ | refine Below.drew ?_ | refine Below.alloc ?_ (by first | exact Nat.le_refl _ | omega | (simp <;> omega)) _)); (first | exact HA.out.size | (simp; have hq := HA.out.size; omega))); have HB := Lib.hid hB; clear hB; have hzB : wA.heap.size ≤ wB.heap.size := (by have hq := hb2.size; first | exact hq | (simp at hq; omega)); have hzB2 := hb2.size; (try simp at hzB2); have HBA := Lib.hid (show Below wA.heap.size wA wB by refine Below.trans ?_ (hb2.mono ?_); (repeat (first | exact Below.refl _ _ | refine Below.drew ?_ | refine Below.alloc ?_ (by first | exact Nat.le_refl _ | omega | (simp <;> omega)) _)); (first | exact Nat.le_refl _ | (simp <;> omega))); have HO2 := Lib.hid ho2; have HL2 := Lib.hid hl2; have HB2 := Lib.hid hb2.block; (try simp at HO2); (try simp at HL2); (try simp at HB2); (try (have CZ0 := Lib.hid (show Blk wB w3.heap.size 30 #[Value.int IntKind.i64 0, Value.slice none 0 0] from Blk.below (by first | exact BZ0.out | exact BZ0.out.alloc _ | exact (BZ0.out.alloc _).alloc _ | exact BZ0.out.drew_ | exact (BZ0.out.alloc _).drew_ | exact ((BZ0.out.alloc _).alloc _).drew_) hb2 (by first | omega | (simp <;> omega))))); (try (have CZ1 := Lib.hid (show Blk wB (w3.heap.size + 1) 30 #[Value.int IntKind.i64 0, Value.slice none 0 0] from Blk.below (by first | exact BZ1.out | exact BZ1.out.alloc _ | exact (BZ1.out.alloc _).alloc _ | exact BZ1.out.drew_ | exact (BZ1.out.alloc _).drew_ | exact ((BZ1.out.alloc _).alloc _).drew_) hb2 (by first | omega | (simp <;> omega))))); (try (have DZ0 := Lib.hid (show Blk wB wA.heap.size 30 #[Value.int IntKind.i64 0, Value.slice none 0 0] from Blk.below (by first | exact Blk.new wA _ _ | exact (Blk.new wA _ _).alloc _ | exact (Blk.new wA _ _).drew_ | exact ((Blk.new wA _ _).alloc _).drew_) hb2 (by first | omega | (simp <;> omega))))); (try (have DZ1 := Lib.hid (show Blk wB (wA.heap.size + 1) 30 #[Value.int IntKind.i64 0, Value.slice none 0 0] from Blk.below (by have hq := Blk.new (wA.alloc (Obj.cells #[Value.int IntKind.i64 0, Value.slice none 0 0] 30)) 30 #[Value.int IntKind.i64 0, Value.slice none 0 0]; simp only [World.size_alloc] at hq; first | exact hq | exact hq.drew_) hb2 (by first | omega | (simp <;> omega))))); (try (have p0 := CZ0.out.c0; have p1 := CZ0.out.c1; have pf := CZ0.out.frozen; have p0' := fun o => (CZ0.out.alloc o).c0; have p1' := fun o => (CZ0.out.alloc o).c1; have pf' := fun o => (CZ0.out.alloc o).frozen)); (try (have q0 := CZ1.out.c0; have q1 := CZ1.out.c1; have qf := CZ1.out.frozen; have q0' := fun o => (CZ1.out.alloc o).c0; have q1' := fun o => (CZ1.out.alloc o).c1; have qf' := fun o => (CZ1.out.alloc o).frozen)); (try (have r0 := DZ0.out.c0; have r1 := DZ0.out.c1; have rf := DZ0.out.frozen; have r0' := fun o => (DZ0.out.alloc o).c0; have r1' := fun o => (DZ0.out.alloc o).c1; have rf' := fun o => (DZ0.out.alloc o).frozen)); (try (have s0 := DZ1.out.c0; have s1 := DZ1.out.c1; have sf := DZ1.out.frozen; have s0' := fun o => (DZ1.out.alloc o).c0; have s1' := fun o => (DZ1.out.alloc o).c1; have sf' := fun o => (DZ1.out.alloc o).frozen)); have t0 := ((Blk.new wB 30 #[Value.int IntKind.i64 0, Value.slice none 0 0]).alloc (Obj.cells #[Value.int IntKind.i64 0, Value.slice none 0 0] 30)).c0; have t1 := ((Blk.new wB 30 #[Value.int IntKind.i64 0, Value.slice none 0 0]).alloc (Obj.cells #[Value.int IntKind.i64 0, Value.slice none 0 0] 30)).c1; have tf := ((Blk.new wB 30 #[Value.int IntKind.i64 0, Value.slice none 0 0]).alloc (Obj.cells #[Value.int IntKind.i64 0, Value.slice none 0 0] 30)).frozen; clear ho2 hl2 hb2))
      all_goals (go_wp2_with fail; go_meet)
      all_goals exact ⟨_, _, wA.heap.size, A1, A2, c1, c2, vs2, rfl, rfl, by first | exact Nat.le_refl _ | omega, by first | exact Nat.le_refl _ | omega, by (repeat (first | with_reducible exact CZ0.out | with_reducible exact CZ1.out | with_reducible exact DZ0.out | with_reducible exact DZ1.out | with_reducible exact Blk.new _ _ _ | with_reducible exact Blk.new1 _ _ _ _ | with_reducible apply Blk.set0 | with_reducible apply Blk.set1 | with_reducible refine Blk.farN ?_ (by first | omega | (simp only [World.size_alloc]; omega) | (simp; omega)) _ | with_reducible refine Blk.alloc ?_ _)), by (repeat (first | with_reducible exact CZ0.out | with_reducible exact CZ1.out | with_reducible exact DZ0.out | with_reducible exact DZ1.out | with_reducible exact Blk.new _ _ _ | with_reducible exact Blk.new1 _ _ _ _ | with_reducible apply Blk.set0 | with_reducible apply Blk.set1 | with_reducible refine Blk.farN ?_ (by first | omega | (simp only [World.size_alloc]; omega) | (simp; omega)) _ | with_reducible refine Blk.alloc ?_ _)), by first | omega | (simp [World.setCell]; omega) | (simp [World.setCell]; done), by first | omega, by first | omega, HRK.out _ (fun g h1 h2 => by (repeat (first | with_reducible exact HBA.out.block g h2 | with_reducible refine heap_set_ ?_ (by first | omega | (simp only [World.size_alloc]; omega) | (simp; omega)) | with_reducible refine heap_alloc_ ?_ (by first | omega | (simp only [World.size_alloc]; omega) | (simp; omega))))), own_more (own_agree HO2.out (fun g h1 h2 => by (repeat (first | with_reducible rfl | with_reducible refine heap_set_ ?_ (by first | omega | (simp only [World.size_alloc]; omega) | (simp; omega)) | with_reducible refine heap_alloc_ ?_ (by first | omega | (simp only [World.size_alloc]; omega) | (simp; omega)))))) (by first | exact Nat.le_refl _ | omega), OwnList.more (OwnList.agree HL2.out (fun g h1 h2 => by (repeat (first | with_reducible rfl | with_reducible refine heap_set_ ?_ (by first | omega | (simp only [World.size_alloc]; omega) | (simp; omega)) | with_reducible refine heap_alloc_ ?_ (by first | omega | (simp only [World.size_alloc]; omega) | (simp; omega)))))) (by first | exact Nat.le_refl _ | omega), by (repeat (first | with_reducible exact HB.out | with_reducible refine below_set_ ?_ (by first | omega | (simp only [World.size_alloc]; omega) | (simp; omega)) | with_reducible refine Below.alloc ?_ (by first | omega | (simp only [World.size_alloc]; omega) | (simp; omega)) _))⟩
    case rest =>
      obtain ⟨gf, gg, B, A1, A2, c1, c2, vs, rfl, rfl, hgf, hgg, hbf, hbg, hBs, hne, hSB, hrf, hog, hlg, hb⟩ := hcut
      have HT := Lib.hid (show TurnG B gf gg A1 A2 c1 c2 vs xss F w3.heap.size w3 wc from ⟨hbf, hbg, hrf, hog, hb⟩)
      have HLG := Lib.hid hlg
      clear hbf hbg hrf hog hlg hb HKR HKE HFO HR3 HK3 k0 k1 hgf hgg hne
      have f0 := HT.out.bf.c0
      have f1 := HT.out.bf.c1
      by_cases hFz : F = 0
      · have hq : ((F : Int) == 0) = true := by simp; omega
        clear hFz
        go_wp2
        go_ret
        exact ⟨rfl, HB3.out.trans (HT.out.below.mono hs03)⟩
      · have hq : ((F : Int) == 0) = false := by simp; omega
        have hFp : 0 < F := by omega
        clear hFz
        obtain ⟨q, hqq⟩ : ∃ q : Nat, (q : Int) = vv % (F : Int) := ⟨(vv % (F : Int)).toNat, by have := Int.emod_nonneg vv (show (F : Int) ≠ 0 by omega); omega⟩
        have hqF : q < F := by have := Int.emod_lt_of_pos vv (show (0 : Int) < F by omega); omega
        have hqe : vv % (F : Int) = (q : Int) := hqq.symm
        clear hqq
        have g0 := HT.out.bg.c0
        have g1 := HT.out.bg.c1
        go_wp2
        clear hqe hq f0 f1 g0 g1
        have HXL := Lib.hid (show ∀ i k, ((mix (turnClause ((q : Int) + 1)) i xss).set i (mix (turnLit ((q : Int) + 1)) k (xss.getD i []))).length = xss.length from fun i k => by rw [List.length_set, mix_len])
        have HXG := Lib.hid (show ∀ i k, i < xss.length → ((mix (turnClause ((q : Int) + 1)) i xss).set i (mix (turnLit ((q : Int) + 1)) k (xss.getD i []))).getD i [] = mix (turnLit ((q : Int) + 1)) k (xss.getD i []) from fun i k h => by
          have := mix_len (turnClause ((q : Int) + 1)) i xss
          simp [List.getD, show i < (mix (turnClause ((q : Int) + 1)) i xss).length by omega])
        go_loopg [42] (xss.length + 1) (fun gk s wr => ∃ i : Nat, i ≤ xss.length ∧ gk = xss.length - i + 1 ∧ s = .int .i64 i ∧ B ≤ wr.heap.size ∧ TurnG B gf gg A1 A2 c1 c2 vs xss F w3.heap.size w3 wr ∧ OwnList wr B 3 vs (mix (turnClause ((q : Int) + 1)) i xss))
        case atStart => exact ⟨0, by omega, by omega, rfl, hBs, HT.out, by rw [mix_zero]; exact HLG.out⟩
        case round =>
          obtain ⟨i, hi, rfl, rfl, hsB', ht, hl⟩ := hrel
          have HTr := Lib.hid ht
          have HLr := Lib.hid hl
          clear ht hl HT HLG
          by_cases hil : i < xss.length
          · obtain ⟨g3, hA3, hg31, hg32⟩ := own_addr HTr.out.own (by omega)
            subst hA3
            obtain ⟨Ai, ci, hvi, hoi⟩ := HLr.out.each i (by rw [mix_len]; exact hil)
            rw [mix_get _ [] hil] at hvi hoi
            have hci : wr.cell? ⟨g3, i, none⟩ = some (.slice Ai (xss.getD i []).length ci) := by rw [World.ownsRow.cellAt HTr.out.own i (by omega)]; exact hvi
            have hli := HX2.out i
            have hlb := HX3.out i
            have HXLi := Lib.hid (HXL.out i)
            have HXGi := Lib.hid (fun k => HXG.out i k hil)
            have HMS := Lib.hid (mix_set (turnClause ((q : Int) + 1)) [] hil)
            have hst0 : (mix (turnClause ((q : Int) + 1)) i xss).set i (mix (turnLit ((q : Int) + 1)) 0 (xss.getD i [])) = mix (turnClause ((q : Int) + 1)) i xss := by
              rw [mix_zero]
              apply List.ext_getElem (by simp)
              intro a h1 h2
              by_cases hai : i = a
              · subst hai
                have := mix_get (turnClause ((q : Int) + 1)) [] hil
                simp only [List.getD, List.getElem?_eq_getElem h2, List.getElem?_eq_getElem hil, Option.getD_some] at this
                simp [List.getD, hil, this]
              · simp [List.getElem_set_ne hai]
            have HL0 := Lib.hid (show OwnList wr B 3 vs ((mix (turnClause ((q : Int) + 1)) i xss).set i (mix (turnLit ((q : Int) + 1)) 0 (xss.getD i []))) by rw [hst0]; exact HLr.out)
            clear hst0 hoi
            obtain ⟨cs, hcs⟩ : ∃ cs, cs = xss.getD i [] := ⟨_, rfl⟩
            rw [← hcs] at hvi hci hli HL0
            simp only [← hcs] at hlb HXLi HXGi HMS
            have HCS := Lib.hid hcs
            have HVI := Lib.hid hvi
            have HLB := Lib.hid hlb
            clear hcs hvi hlb HLr
            go_wp2
            clear hci
            go_loopg [48] (cs.length + 1) (fun gk s wr => ∃ k : Nat, k ≤ cs.length ∧ gk = cs.length - k + 1 ∧ s = .int .i64 k ∧ B ≤ wr.heap.size ∧ TurnG B gf gg A1 (some ⟨g3, 0, none⟩) c1 c2 vs xss F w3.heap.size w3 wr ∧ OwnList wr B 3 vs ((mix (turnClause ((q : Int) + 1)) i xss).set i (mix (turnLit ((q : Int) + 1)) k cs)))
            case atStart => exact ⟨0, by omega, by omega, rfl, hsB', HTr.out, HL0.out⟩
            case round =>
              obtain ⟨k, hk, rfl, rfl, hsk, ht, hl⟩ := hrel
              have HTk := Lib.hid ht
              have HLk := Lib.hid hl
              clear ht hl HTr HL0
              by_cases hkl : k < cs.length
              · have hrow : ((mix (turnClause ((q : Int) + 1)) i xss).set i (mix (turnLit ((q : Int) + 1)) k cs)).getD i [] = mix (turnLit ((q : Int) + 1)) k cs := HXGi.out k
                obtain ⟨g, hAi, -, hcx, hfx⟩ := HLk.out.elem (k := k) (by rw [HXLi.out k]; exact hil) HVI.out (by rw [hrow, mix_len]; exact hkl)
                rw [hrow, mix_get _ 0 hkl] at hcx
                obtain ⟨hb1, hb2⟩ := HLB.out k
                have hstore := HTk.out.store hSB HLk.out (i := i) (k := k) (g := g) (ci := ci) (by rw [HXLi.out k]; exact hil) (by rw [hrow, mix_len, ← hAi]; exact HVI.out) (by rw [hrow, mix_len]; exact hkl)
                have hlset := HLk.out.setAt (i := i) (k := k) (g := g) (ci := ci) (by rw [HXLi.out k]; exact hil) (by rw [hrow, mix_len, ← hAi]; exact HVI.out)
                rw [hrow] at hlset
                simp only [List.set_set] at hlset
                have hms := mix_set (turnLit ((q : Int) + 1)) 0 hkl
                have hmn := mix_same (turnLit ((q : Int) + 1)) 0 hkl
                obtain ⟨l, hl⟩ : ∃ l, l = cs.getD k 0 := ⟨_, rfl⟩
                rw [← hl] at hcx hb1 hb2 hms hmn
                clear hl hrow
                subst hAi
                have HST := Lib.hid hstore
                have HLS := Lib.hid hlset
                have HM1 := Lib.hid hms
                have HM2 := Lib.hid hmn
                clear hstore hlset hms hmn
                by_cases e1 : l = 1 + (q : Int)
                · have q1 : (l == 1 + (q : Int)) = true := by simpa using e1
                  have E1 := Lib.hid e1
                  clear e1
                  go_wp2
                  go_roundg (cs.length - k)
                  case measure => omega
                  case rel =>
                    refine ⟨k + 1, by omega, by omega, by go_num, by simpa [World.setCell] using hsk, HST.out _, ?_⟩
                    rw [← HM1.out, show turnLit ((q : Int) + 1) l = -l by unfold turnLit; rw [if_pos (by have := E1.out; omega)]]
                    exact HLS.out _
                · have q1 : (l == 1 + (q : Int)) = false := by simpa using e1
                  by_cases e2 : l = -(1 + (q : Int))
                  · have q2 : (l == -(1 + (q : Int))) = true := by simpa using e2
                    have E2 := Lib.hid e2
                    clear e1 e2
                    go_wp2
                    go_roundg (cs.length - k)
                    case measure => omega
                    case rel =>
                      refine ⟨k + 1, by omega, by omega, by go_num, by simpa [World.setCell] using hsk, HST.out _, ?_⟩
                      rw [← HM1.out, show turnLit ((q : Int) + 1) l = -l by unfold turnLit; rw [if_pos (by have := E2.out; omega)]]
                      exact HLS.out _
                  · have q2 : (l == -(1 + (q : Int))) = false := by simpa using e2
                    have E := Lib.hid (And.intro e1 e2)
                    clear e1 e2
                    go_wp2
                    go_roundg (cs.length - k)
                    case measure => omega
                    case rel =>
                      refine ⟨k + 1, by omega, by omega, by go_num, hsk, HTk.out, ?_⟩
                      rw [HM2.out (by unfold turnLit; rw [if_neg (by have := E.out; omega)])]
                      exact HLk.out
              · have hfull := HLk.out
                rw [mix_full _ (show cs.length ≤ k by omega)] at hfull
                have HFU := Lib.hid hfull
                clear hfull
                go_wp2
                go_roundg (xss.length - i)
                case measure => omega
                case rel => exact ⟨i + 1, by omega, by omega, by go_num, hsk, HTk.out, by rw [← HMS.out]; exact HFU.out⟩
          · have hfull := HLr.out
            rw [mix_full _ (show xss.length ≤ i by omega)] at hfull
            have HG := Lib.hid (show OwnList wr B 3 vs (turnForm ((q : Int) + 1) xss) from hfull)
            have HTL := Lib.hid HTr.out
            have HRf := Lib.hid (HTr.out.rf.more hsB')
            have HRg := Lib.hid (show Rows wr wr.heap.size A2 (turnForm ((q : Int) + 1) xss) from HG.out.rows (by have h := HTr.out.own; rwa [← turnForm_len ((q : Int) + 1) xss] at h))
            have HBL := Lib.hid (HB3.out.trans (HTr.out.below.mono hs03))
            clear hfull HLr HTr HG
            obtain ⟨wL, rfl⟩ : ∃ wL : World, wL = wr := ⟨_, rfl⟩
            have f0 := HTL.out.bf.c0
            have f1 := HTL.out.bf.c1
            have hmk := run_make_row' (P := Try.prog) 32 4 (.bool false) 1 Try.underlying32 Try.infoBool rfl .i64 .i64 F (by omega) (by omega)
            go_wp2
            clear f0 f1 hmk
            obtain ⟨w9, hw9⟩ : ∃ w9, w9 = wL.alloc (Obj.cells (madeCells #[Value.bool false] F) 4) := ⟨_, rfl⟩
            have HBK9 := Lib.hid (show BlkB w9 wL.heap.size 4 (List.replicate F false) by rw [hw9, madeBools]; exact Blk.new wL _ _)
            have HB9 := Lib.hid (show Below wL.heap.size wL w9 by rw [hw9]; exact (Below.refl _ _).alloc (Nat.le_refl _) _)
            have hs9 : w9.heap.size = wL.heap.size + 1 := by rw [hw9]; simp
            rw [← hw9]
            clear hw9
            go_loopg [74] (F + 1) (fun gk i wr => ∃ (j : Nat) (z : List Bool), j ≤ F ∧ gk = F - j + 1 ∧ i = .int .i64 j ∧ Hid (z.length = F) ∧ BlkB wr wL.heap.size 4 z ∧ w9.grownBy wr (some wL.heap.size))
            case atStart => exact ⟨0, _, by omega, by omega, rfl, Lib.hid (by simp), HBK9.out, World.grownBy.refl _ _⟩
            case round =>
              obtain ⟨j, z, hj, rfl, rfl, hz, hbk, hgr⟩ := hrel
              have HBKr := Lib.hid hbk
              have HGr := Lib.hid hgr
              clear hbk hgr HBK9
              by_cases hjl : j < F
              · have hc : wr.cell? ⟨wL.heap.size, j, none⟩ = some (.bool (z.getD j false)) := HBKr.out.cell (by rw [hz.out]; omega)
                have hf : wr.frozen? ⟨wL.heap.size, j, none⟩ = false := HBKr.out.frozen j
                obtain ⟨zj, hzj⟩ : ∃ zj, zj = z.getD j false := ⟨_, rfl⟩
                rw [← hzj] at hc
                clear hzj
                go_wp2
                go_roundg (F - j)
                case measure => omega
                case rel => exact ⟨j + 1, _, by omega, by omega, by go_num, Lib.hid (by simp [hz.out]), HBKr.out.set_ j _, grown_trans HGr.out (grown_setCell _ ⟨wL.heap.size, j, none⟩ _)⟩
              · have HBr := Lib.hid (HB9.out.trans (below_of_grown (B := wL.heap.size) HGr.out (by omega) (Nat.le_refl _)))
                have hjF : j = F := by omega
                have hgl := HBKr.out.lt
                have hsr := HBr.out.size
                clear HGr HB9
                have f0 := (HTL.out.bf.below HBr.out HTL.out.bf.lt).c0
                have f1 := (HTL.out.bf.below HBr.out HTL.out.bf.lt).c1
                obtain ⟨wa, rfl⟩ : ∃ wa : World, wa = wr := ⟨_, rfl⟩
                have hsy := sat_yes F xss wL.heap.size wa.heap.size A1 (some ⟨wL.heap.size, 0, none⟩) z c1 F wa HX5.out (by omega) hz.out (HRf.out.below HBr.out) HBKr.out.bools (by omega) (Nat.le_refl _)
                have HSY := Lib.hid hsy
                clear hsy
                go_wp2_with fail
                refine HSY.out.mono ?_
                clear f0 f1 HSY
                rintro e wb ⟨rfl, hbb⟩
                have HBb := Lib.hid (HBr.out.trans (hbb.mono hsr))
                have HKb := Lib.hid (show BlkB wb wL.heap.size 4 z from HBKr.out.below hbb HBKr.out.lt)
                have hsb := hbb.size
                clear hbb HBr HBKr
                have hqz : q < z.length := by rw [hz.out]; exact hqF
                have hc : wb.cell? ⟨wL.heap.size, q, none⟩ = some (.bool (z.getD q false)) := HKb.out.cell hqz
                have hfz : wb.frozen? ⟨wL.heap.size, q, none⟩ = false := HKb.out.frozen q
                have HZF := Lib.hid (show BlkB (wb.setCell ⟨wL.heap.size, q, none⟩ (.bool (!z.getD q false))) wL.heap.size 4 (flipAt z q) from HKb.out.set_ q _)
                obtain ⟨zq, hzq⟩ : ∃ zq, zq = z.getD q false := ⟨_, rfl⟩
                rw [← hzq] at hc HZF
                clear hzq
                have f0 := (HTL.out.bf.below HBb.out HTL.out.bf.lt).c0
                have f1 := (HTL.out.bf.below HBb.out HTL.out.bf.lt).c1
                have hgfl := HTL.out.bf.lt
                have hggl := HTL.out.bg.lt
                go_wp2_with fail
                obtain ⟨wx, hwx⟩ : ∃ wx, wx = wb.setCell ⟨wL.heap.size, q, none⟩ (.bool (!zq)) := ⟨_, rfl⟩
                have HBx := Lib.hid (show Below wL.heap.size wL wx by rw [hwx]; exact HBb.out.setCell (p := ⟨wL.heap.size, q, none⟩) (Nat.le_refl _) _)
                have hsx : wx.heap.size = wb.heap.size := by rw [hwx]; simp [World.setCell]
                rw [← hwx] at HZF ⊢
                clear hwx hc hfz f0 f1
                have hwt := turn_wides (F := F) (x := (q : Int) + 1) (xss := xss) (by omega) (fun j => by have := HX2.out j; omega) HX3.out (by omega)
                refine (brute_any F xss wL.heap.size A1 c1 wx (by omega) HX5.out (HRf.out.below HBx.out) (by omega)).mono ?_
                rintro e wy hbr
                obtain ⟨ok1, Ag1, ng1, cg1, rfl, hinf1, hby⟩ := Bruted.info hbr
                clear hbr
                have HI1 := Lib.hid hinf1
                have HBy := Lib.hid (HBx.out.trans (hby.mono (by omega)))
                have HZy := Lib.hid (show BlkB wy wL.heap.size 4 (flipAt z q) from HZF.out.below hby HZF.out.lt)
                have hsy := hby.size
                clear hinf1 hby HBx
                have g0 := (HTL.out.bg.below HBy.out HTL.out.bg.lt).c0
                have g1 := (HTL.out.bg.below HBy.out HTL.out.bg.lt).c1
                go_wp2_with fail
                clear g0 g1
                have hbg2 := brute_any F (turnForm ((q : Int) + 1) xss) wL.heap.size A2 c2 wy (by omega) hwt (HRg.out.below HBy.out) (by omega)
                rw [turnForm_len] at hbg2
                refine hbg2.mono ?_
                clear hbg2
                rintro e wz hbr
                obtain ⟨ok2, Ag2, ng2, cg2, rfl, hinf2, hbz⟩ := Bruted.info hbr
                clear hbr
                have hoo := brute_same hqF HI1.out hinf2
                subst hoo
                have HBz := Lib.hid (HBy.out.trans (hbz.mono (by omega)))
                have HZz := Lib.hid (show BlkB wz wL.heap.size 4 (flipAt z q) from HZy.out.below hbz HZy.out.lt)
                have hsz := hbz.size
                clear hinf2 hbz HI1
                have g0 := (HTL.out.bg.below HBz.out HTL.out.bg.lt).c0
                have g1 := (HTL.out.bg.below HBz.out HTL.out.bg.lt).c1
                have hsg := sat_yes F (turnForm ((q : Int) + 1) xss) wL.heap.size wz.heap.size A2 (some ⟨wL.heap.size, 0, none⟩) (flipAt z q) c2 F wz hwt (by omega) (by rw [flipAt_length, hz.out]) (HRg.out.below HBz.out) HZz.out.bools (by omega) (Nat.le_refl _)
                rw [turnForm_len, formSat_turn hqz] at hsg
                have HSG := Lib.hid hsg
                clear hsg hwt
                go_wp2_with fail
                refine HSG.out.mono ?_
                clear g0 g1 HSG
                rintro e wq ⟨rfl, hbq⟩
                have HBq := Lib.hid (HBL.out.trans ((HBz.out.trans (hbq.mono (by omega))).mono HBL.out.size))
                clear hbq
                rcases hfv : formSat z xss with _ | _
                all_goals rcases ok2 with _ | _
                all_goals
                  have HFV := Lib.hid hfv
                  clear hfv
                  go_wp2
                  go_ret
                  exact ⟨rfl, HBq.out⟩

theorem turned_raw (u : Int) (nss : List (List Int)) (A : Option Addr) (c : Nat) (bits vv : Int) (w : World) (hu : (Lit.int .u8 u).wf = true) (hvv : (Lit.int .u8 vv).wf = true)
    (hx : nss.length ≤ 5864062014805) (m : ∀ j, (nss.getD j []).length * 2 ≤ 140737488351232) (hn : ∀ j i, (Lit.int .i16 ((nss.getD j []).getD i 0)).wf = true) (h : KRows .i16 w w.heap.size A nss) :
    Calls Try.prog 7 #[.agg #[.int .u8 u, .slice A nss.length c], .int .u16 bits, .int .u8 vv] w fun e w' => e = .returned (.bool true) ∧ Below w.heap.size w w' := by
  obtain ⟨v, rfl, hv⟩ := raw_nat hu
  have := bounds_u8 hvv
  exact turned_any v nss A c bits vv w hv (by omega) (by omega) (by omega) (raw_rows m hn).1 (raw_rows m hn).2 h
end Go.Proofs.Ytdacdodigbpdoaa
