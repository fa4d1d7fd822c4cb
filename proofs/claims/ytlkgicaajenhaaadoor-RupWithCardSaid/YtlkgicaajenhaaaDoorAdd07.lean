/- Add: a clause more. -/
import Derived.Test.YtlkgicaajenhaaaDoorKeys07
import Derived.Deep.RegionHeld3
import Derived.Laws.Cover3
namespace Go.Proofs.YtlkgicaajenhaaaDoor
open Go.RowKit
set_option linter.unusedVariables false
set_option linter.unusedSimpArgs false

/-- Add's answer -/
def AddP (base : Nat) (X : SX) (L : List Int) (W : World) (e : Ending) (W' : World) : Prop :=
  ∃ (X' : SX) (fo' : List Bool) (b : Bool), e = .returned (.bool b) ∧ Rest7 W' base X' fo' ∧ Tn base X W W' ∧ Later7 W X X' ∧ (X'.s = X.s ∧ X'.V = X.V) ∧ (b = true ↔ foreign7 X.V L = false) ∧ (b = true → X'.cs = X.cs ++ [normOf L] ∧ X'.ps.length ≤ X.ps.length + 1 ∧ X'.added ≤ X.added + 1 ∧ X'.tk ≤ X.tk + 1) ∧ (b = false → X' = X)
theorem Half7.later {W : World} {X X' : SX} {q : Nat} {x : CX} {L : List Int} (h : Half7 X X' q x L) : Later7 W X X' := ⟨h.fb, .inl (by rw [h.fv])⟩
set_option maxRecDepth 100000 in
theorem index_two7 (a b : Int) (w : World) : (Instr.index 71 (.agg #[.int .i64 a, .int .i64 b]) (.int .i64 0)).run Tryd.prog w = .ok (.int .i64 a) w ∧ (Instr.index 71 (.agg #[.int .i64 a, .int .i64 b]) (.int .i64 1)).run Tryd.prog w = .ok (.int .i64 b) w := by
  constructor <;> kernel_rfl
/-- while a clause is put where it waits: k of its two literals are done -/
def Put7 (base : Nat) (X X3 : SX) (fo : List Bool) (q : Nat) (a b : Int) (W : World) (k : Nat) (wr : World) : Prop :=
  Tn base X W wr ∧ ((k = 0 ∧ Sto wr base X3 fo) ∨ (k = 1 ∧ ∃ va P1, P1 = X3.pss.getD (ix a) [] ++ [q] ∧ Sto wr base (X3.pile (ix a) va P1) fo) ∨
    (k = 2 ∧ ∃ va vb P1 P2, P1 = X3.pss.getD (ix a) [] ++ [q] ∧ P2 = X3.pss.getD (ix b) [] ++ [q] ∧ Sto wr base ((X3.pile (ix a) va P1).pile (ix b) vb P2) fo))
set_option maxRecDepth 100000 in
set_option maxHeartbeats 1000000 in
theorem add_any7 {W : World} {base b0 c : Nat} {X : SX} {fo : List Bool} {L : List Int} {A : Option Addr} (h : Rest7 W base X fo) (hA : Apart W X b0 A c L) (hx : ∀ x, x ∈ L → -9223372036854775808 ≤ x ∧ x ≤ 9223372036854775807) (hn : L.length ≤ 1000000) (hT : TabB base W) (hps : X.ps.length ≤ 1000000) (hadd : X.added ≤ 1000000) (htk : X.tk ≤ 1000000) :
    Calls Tryd.prog 25 #[.pointer (some ⟨X.s, 0, none⟩), .slice A L.length c] W (AddP base X L W) := by
  have hvb := h.sto.vb
  have hB : base ≤ W.heap.size := by have := h.sto.lo.1; have := h.sto.st.lt; omega
  have HF := Lib.hid (foreign_any h.sto L hx (by omega) W.heap.size A c hA.ints (Nat.le_refl _))
  have H := Lib.hid h
  have HA := Lib.hid hA
  cases hfo : foreign7 X.V L with
  | true =>
    rw [hfo] at HF
    clear h hA hx
    go_enter Tryd.func25, Tryd.ntmps25
    go_wp2_with (go_at_call 29; refine HF.out.mono ?_; rintro e3 w3 ⟨rfl, hb3⟩; have HB3 := Lib.hid hb3; clear hb3)
    go_ret
    exact ⟨X, fo, false, rfl, H.out.below HB3.out, Tn.of_below HB3.out hB, Later7.refl _ _, ⟨rfl, rfl⟩, ⟨fun e => (by cases e), fun e => (by cases e.symm.trans hfo)⟩, fun e => (by cases e), fun _ => rfl⟩
  | false =>
    rw [hfo] at HF
    have HL := Lib.hid (foreign7_no hvb hfo)
    have HFO := Lib.hid hfo
    have hall : (X.pss.getD (2 * X.V) []).length = X.ps.length := by rw [h.shelf.all]
    clear h hA hx hfo
    obtain ⟨M, hMM⟩ : ∃ M, M = normOf L := ⟨_, rfl⟩
    have HMM := Lib.hid hMM
    have hMl : M.length ≤ L.length := by rw [hMM]; exact norm_len L
    have HML : Hid (∀ y, y ∈ M → Lt7 X.V y) := Lib.hid fun y hy => HL.out y (mem_normOf.1 (by rw [← hMM]; exact hy))
    have HMR : Hid (Rising M) := Lib.hid (by rw [hMM]; exact rising_normOf L)
    clear hMM
    go_enter Tryd.func25, Tryd.ntmps25
    go_wp2_with (go_at_call 29; refine HF.out.mono ?_; rintro e3 w3 ⟨rfl, hb3⟩; have HB3 := Lib.hid hb3; have s1 : w3.cell? ⟨X.s, 1, none⟩ = some (.int .i64 X.added) := ((H.out.below hb3).sto.st.cell 1); clear hb3)
    have HNC := Lib.hid (fun w' (h' : Below w3.heap.size w3 w') => norm_clause_of (fun p cap fv w => Tryd.slices_SortFunc_none (α := Int) p cap fv w) L w'.heap.size A c w' ⟨by omega, fun x hx => (by obtain ⟨a1, a2, a3⟩ := HL.out x hx; omega)⟩ ((HA.out.under HB3.out).under h').ints (Nat.le_refl _))
    rw [← HMM.out] at HNC
    have KE := Lib.hid (fun w' (h' : Below w3.heap.size w3 w') => (h'.cell (p := ⟨X.s, 1, none⟩) (by have := (H.out.below HB3.out).sto.st.lt; exact this)).trans s1)
    go_region_held3 (fun w' => w'.cell? ⟨X.s, 1, none⟩ = some (.int .i64 X.added)) (first | exact KK.out | exact s1 | go_keep)
      (first | (go_at_call 37; refine (HNC.out w3.drew (Below.refl _ _).drew).mono ?_; rintro e4 w4 ⟨A4, c4, rfl, hown4, hb4'⟩; have HB4 := Lib.hid (below_undrew hb4'); have KK := Lib.hid (KE.out w4 HB4.out); have HO4 := Lib.hid hown4; clear hown4 hb4'))
    obtain ⟨w5, hw5⟩ : ∃ w5, w5 = w4.alloc (Obj.cells #[Value.int IntKind.i64 (X.added : Int), Value.slice A4 M.length c4, Value.int IntKind.i64 0, Value.int IntKind.i64 0, Value.int IntKind.i64 0, Value.bool false] 73) := ⟨_, rfl⟩
    rw [← hw5]
    obtain ⟨x, hx⟩ : ∃ x : CX, x = ⟨X.added, A4, c4, M, 0, 0, 0, false⟩ := ⟨_, rfl⟩
    have hR3 := H.out.below HB3.out
    have hs34 := HB4.out.size
    have hR4 := hR3.below HB4.out
    have hs5 : w5.heap.size = w4.heap.size + 1 := by rw [hw5]; simp
    have hb45 : Below w4.heap.size w4 w5 := by rw [hw5]; exact (Below.refl _ _).alloc (Nat.le_refl _) _
    have hR5 := hR4.below hb45
    have hq : Blk w5 w4.heap.size 73 x.cells := by rw [hw5, hx]; exact Blk.new w4 _ _
    have hbase4 : base ≤ w4.heap.size := by have := HB3.out.size; omega
    have hrow : w5.ownsRow base 3 1 x.row x.lits.length (x.lits.map (Value.int .i64)) := by
      rw [hw5, hx]
      exact own_more ((HO4.out).alloc _) (by simp; have := HB3.out.size; omega)
    have hne : ∀ g, x.row.ownBlock = some g → X.fv.ownBlock ≠ some g := fun g hg e => by
      have h2 := (hR3.sto.fnd.lt g e).2
      rw [hx] at hg
      have h1 := (HO4.out.lt g hg).1
      simp at h1
      omega
    have hnew : w4.heap.size ∉ X.ps := fun hm => by
      have h1 := (hR4.sto.cl _ hm).1.lt
      omega
    have HNEW := Lib.hid hnew
    have HBO := Lib.hid (hR5.sto.born hq hbase4 (by rw [hx]; show X.added ≤ _; omega) hrow hne hnew)
    rw [show ((X.added + 1 : Nat) : Int) = (X.added : Int) + 1 from by omega] at HBO
    have HR5 := Lib.hid hR5
    have hBW5 : Below W.heap.size W w5 := (HB3.out.trans (HB4.out.mono HB3.out.size)).trans (hb45.mono (by have := HB3.out.size; omega))
    have HBW5 := Lib.hid hBW5
    have s1 : w5.cell? ⟨X.s, 1, none⟩ = some (.int .i64 X.added) := hR5.sto.st.cell 1
    have sf : ∀ j, w5.frozen? ⟨X.s, j, none⟩ = false := fun j => hR5.sto.st.frozen j
    obtain ⟨Aa, ca, hva, hoa⟩ := hR5.sto.pil.each (2 * X.V) (by have := hR5.sto.num.1; omega)
    have s3 : w5.cell? ⟨X.s, 3, none⟩ = some (.slice Aa (X.pss.getD (2 * X.V) []).length ca) := by rw [← hva]; exact hR5.sto.st.cell 3
    have HVA := Lib.hid hva
    obtain ⟨i0, hi, hz0, hz1, hz2⟩ := info_parts infoPtr7
    have HOA := Lib.hid (show (w5.setCell ⟨X.s, 1, none⟩ (.int .i64 ((X.added : Int) + 1))).ownsRow base 74 1 (.slice Aa (X.pss.getD (2 * X.V) []).length ca) (X.pss.getD (2 * X.V) []).length (ptrs7 (X.pss.getD (2 * X.V) [])) from own_setCell hoa _ (own_blk_ne hoa hR5.sto.st (by decide)))
    have hnum5 := hR5.sto.num.1
    have HNUM := Lib.hid hnum5
    obtain ⟨nA, hnA⟩ : ∃ nA, nA = (X.pss.getD (2 * X.V) []).length := ⟨_, rfl⟩
    rw [← hnA] at s3 HOA hall
    have HNN := Lib.hid hnA
    have hnA2 : nA ≤ 1000000 := by omega
    have hwp : IntKind.i64.wrap ((X.added : Int) + 1) = (X.added : Int) + 1 := IntWalk.i64_in _ (by omega)
    have hbase5 : base ≤ w5.heap.size := by omega
    have HS5 := Lib.hid hs5
    have HX := Lib.hid hx
    have HT5 := Lib.hid hT
    clear hs5
    obtain ⟨q, hqq⟩ : ∃ q, q = w4.heap.size := ⟨_, rfl⟩
    have HQQ := Lib.hid hqq
    rw [← hqq] at HBO HNEW ⊢
    have hqs : ¬ q = X.s := by have := hR4.sto.st.lt; omega
    have hsq : ¬ X.s = q := fun e => hqs e.symm
    clear hw5 hx hR3 hR4 hR5 hb45 hq hrow hne hnew hBW5 hva hoa hall hs34 hnA hqq hT hnum5
    go_wp2_with (first
      | (at_builtin; refine wpList_append1 _ rfl _ _ 62 rfl base 74 i0 (.pointer none) 8 Tryd.underlying62 hi hz0 hz1 hz2 rfl _ _ _ rfl (HOA.out.alloc _) (.pointer (some ⟨q, 0, none⟩)) w5.heap.size rfl (by go_cell) rfl (by unfold maxLen; omega) (by omega) (by simp; omega) ?_; intro v6 w6 hown6 hg6 hob6; obtain ⟨A6, c6, hv6, _⟩ := own_slice hown6; subst hv6
         have h1 : Blk (w5.setCell ⟨X.s, 1, none⟩ (.int .i64 ((X.added : Int) + 1))) X.s 66 (X.born q x).head := HBO.out.1.st
         have h2 := own_blk_ne (HOA.out.alloc (Obj.cells #[.pointer (some ⟨q, 0, none⟩)] 74)) (Blk.alloc h1 _) (by decide)
         have h3 : Blk w6 X.s 66 (X.born q x).head := Blk.grown (Blk.alloc h1 _) hg6 h2
         have s3' := (h3.cell 3).trans (congrArg some HVA.out)
         have sf' := h3.frozen 3
         have hqb : Blk (w5.setCell ⟨X.s, 1, none⟩ (.int .i64 ((X.added : Int) + 1))) q 73 ((X.born q x).C q).cells := (HBO.out.1.cl q (by show q ∈ X.ps ++ [q]; simp)).1
         rw [SX.born_C, if_pos rfl] at hqb
         have h4 := own_blk_ne (HOA.out.alloc (Obj.cells #[.pointer (some ⟨q, 0, none⟩)] 74)) (Blk.alloc hqb _) (by decide)
         have h5 : Blk w6 q 73 x.cells := Blk.grown (Blk.alloc hqb _) hg6 h4
         have q1 : w6.cell? ⟨q, 1, none⟩ = some (.slice A4 M.length c4) := by have := h5.cell 1; rw [HX.out] at this; exact this
         have HP := Lib.hid (HBO.out.1.piled_s (wa := (w5.setCell ⟨X.s, 1, none⟩ (.int .i64 ((X.added : Int) + 1))).alloc (Obj.cells #[.pointer (some ⟨q, 0, none⟩)] 74)) (w3 := w6) (i := 2 * X.V) (d := 0) (c := c6) (A := A6) (ps := X.pss.getD (2 * X.V) [] ++ [q]) (by omega) rfl ((Below.refl _ _).alloc (Nat.le_refl _) _) (by show World.grownBy _ _ (X.vs.getD (2 * X.V) undef).ownBlock; rw [HVA.out, ← HNN.out]; exact hg6)
           (by rw [show (X.pss.getD (2 * X.V) [] ++ [q]).length = nA + 1 by rw [HNN.out]; simp, show ptrs7 (X.pss.getD (2 * X.V) [] ++ [q]) = ptrs7 (X.pss.getD (2 * X.V) []) ++ [.pointer (some ⟨q, 0, none⟩)] by simp [ptrs7]]; exact hown6)
           (by show _ = (X.vs.getD (2 * X.V) undef).ownBlock ∨ _; rw [HVA.out, show (X.pss.getD (2 * X.V) [] ++ [q]).length = nA + 1 by rw [HNN.out]; simp, ← HNN.out]; exact hob6))
         rw [show (X.pss.getD (2 * X.V) [] ++ [q]).length = nA + 1 by rw [HNN.out]; simp] at HP
         clear h1 h2 h3 h4 h5 hqb hown6 hg6 hob6))
    obtain ⟨w7, hw7⟩ : ∃ w7, w7 = w6.setCell ⟨X.s, 3, none⟩ (.slice A6 (nA + 1) c6) := ⟨_, rfl⟩
    have hw7b : w7 = w6.setCell ⟨(X.born q x).s, 3 + 0, none⟩ (.slice A6 (nA + 1) c6) := hw7
    rw [← hw7b] at HP
    rw [← hw7]
    clear hw7b
    have HS7 : Hid (Sto w7 base (X.listed q x (.slice A6 (nA + 1) c6)) fo) := Lib.hid HP.out.1
    have HT7 : Hid (Tn base X W w7) := Lib.hid (((Tn.of_below HBW5.out hB).trans HBO.out.2.1 (Later7.refl _ _)).trans HP.out.2.1 ⟨rfl, .inl rfl⟩)
    have HKY := Lib.hid (key_any07 M w7.heap.size A4 c4 w7 (by omega) (fun y hy => by obtain ⟨a1, a2, a3⟩ := HML.out y hy; omega)
      (by
        have h1 := (HS7.out.cl q (by show q ∈ X.ps ++ [q]; simp)).2.2.1
        have h2 : (X.listed q x (.slice A6 (nA + 1) c6)).C q = x := by show (X.born q x).C q = x; rw [SX.born_C, if_pos rfl]
        rw [h2, HX.out] at h1
        exact ints_of_own h1) (Nat.le_refl _) (HT5.out.on HT7.out.below).here)
    clear s1 s3 sf hw7
    refine HKY.out.mono ?_
    rintro e8 w8 ⟨rfl, hb8⟩
    have hS8 := HS7.out.below hb8
    have HS8 := Lib.hid hS8
    have HT8 : Hid (Tn base X W w8) := Lib.hid (HT7.out.trans (Tn.of_below hb8 (by have := HS7.out.lo.1; have := HS7.out.st.lt; omega)) ⟨rfl, .inl rfl⟩)
    obtain ⟨kk, hkk⟩ : ∃ kk, kk = keyOf M := ⟨_, rfl⟩
    have hkl : kk.length ≤ 1000000000 := by rw [hkk]; have := keyOf_len M (fun y hy => by obtain ⟨a1, a2, a3⟩ := HML.out y hy; omega); omega
    rw [← hkk]
    have HKK := Lib.hid hkk
    clear hb8 hkk
    go_upto_region 7 with fail
    go_cut [6] (fun k9 w9 => k9 = .string ⟨kk.toArray⟩ ∧ ∃ X2, Sto w9 base X2 fo ∧ Half7 X X2 q x M ∧ Tn base (X.listed q x (.slice A6 (nA + 1) c6)) w8 w9)
    case first =>
      have hidx : ∀ i, (X.listed q x (.slice A6 (nA + 1) c6)).pss.getD (2 * X.V + 2 + i) [] = X.pss.getD (2 * X.V + 2 + i) [] := fun i => getD_set_other (by omega) _
      obtain ⟨A0, c0, ps0, d0, hrow, hmv, hown0, hd0, hps0⟩ := hS8.row7 (fun i k hk => by rw [show (X.listed q x (.slice A6 (nA + 1) c6)).V = X.V from rfl, hidx]; exact (H.out.shelf.keys i k hk).2) (fun i hi => by rw [show (X.listed q x (.slice A6 (nA + 1) c6)).V = X.V from rfl, hidx]; exact H.out.shelf.klen i hi) kk
      have hps0' : ps0.length ≤ X.tk := hps0
      obtain ⟨wa, hwa⟩ : ∃ wa, wa = (w8.alloc (.cells #[.pointer (some ⟨q, 0, none⟩)] 74)).drew := ⟨_, rfl⟩
      have hba : Below w8.heap.size w8 wa := by rw [hwa]; exact ((Below.refl _ _).alloc (Nat.le_refl _) _).drew
      have hbd : Below w8.heap.size w8 w8.drew := (Below.refl _ _).drew
      have hac : wa.cell? ⟨w8.heap.size, 0, none⟩ = some (.pointer (some ⟨q, 0, none⟩)) := by rw [hwa]; exact ((Blk.new w8 74 #[.pointer (some ⟨q, 0, none⟩)]).drew_).cell 0
      have hb8 : base ≤ w8.heap.size := by have := hS8.lo.1; have := hS8.st.lt; omega
      have hown0a := own_below hown0 hba fun g hg => (hown0.lt g hg).2
      have HRUN := Lib.hid (run_append_cut7 (gx := w8.heap.size) (q := q) hown0a hd0 hac (by omega) (Nat.le_trans hb8 hba.size) 62 62 Tryd.underlying62)
      have HKP := Lib.hid (fun (v' : Value) (w3 : World) hc => hS8.keyput (wa := wa) (w3 := w3) (v' := v') hrow hown0 HKK.out hkl htk hps0' hba hc H.out.sto.num.1)
      have HC6 := Lib.hid (fun (v' : Value) (w3 : World) (hc : Cut7 wa w3 base (.slice A0 ps0.length c0) ps0 d0 q v') => (show w3.cell? ⟨X.s, 6, none⟩ = some (.map (some X.m)) by
        obtain ⟨_, _, _, _, _, _, _, _, _, _, hg3, _⟩ := hc
        have hblk : Blk wa X.s 66 _ := hS8.st.below hba hS8.st.lt
        exact (hblk.grown hg3 (own_blk_ne hown0a hblk (by decide))).cell 6))
      have s6 : w8.cell? ⟨X.s, 6, none⟩ = some (.map (some X.m)) := hS8.st.cell 6
      have HK0 : Hid (w8.drew.cell? ⟨X.s, 6, none⟩ = some (.map (some X.m))) := Lib.hid s6
      have HKA : Hid (wa.cell? ⟨X.s, 6, none⟩ = some (.map (some X.m))) := Lib.hid ((hS8.below hba).st.cell 6)
      obtain ⟨vm, hvm⟩ : ∃ vm, vm = cutv (.slice A0 ps0.length c0) d0 := ⟨_, rfl⟩
      have l0 : (Instr.lookup 64 (.map (some X.m)) (.string ⟨kk.toArray⟩) false).run Tryd.prog w8.drew = .ok vm w8.drew := by rw [hvm, ← hmv]; exact (hS8.below hbd).look (by unfold maxLen; omega)
      have l1 : (Instr.lookup 64 (.map (some X.m)) (.string ⟨kk.toArray⟩) false).run Tryd.prog (w8.alloc (.cells #[.pointer (some ⟨q, 0, none⟩)] 74)).drew = .ok vm (w8.alloc (.cells #[.pointer (some ⟨q, 0, none⟩)] 74)).drew := by rw [← hwa, hvm, ← hmv]; exact (hS8.below hba).look (by unfold maxLen; omega)
      rw [← hvm] at HRUN
      rw [hwa] at HRUN HKP HC6 HKA
      have HS8' := HS8
      clear hS8 hrow hmv hown0 hd0 hps0 hps0' hwa hba hbd hac hown0a hvm hidx
      go_region_held3 (fun w' => w'.cell? ⟨X.s, 6, none⟩ = some (.map (some X.m))) (first | exact KK2.out | exact KK1.out | exact HKA.out | exact HK0.out | go_keep)
        (first | (refine step_cut7 rfl (.tmp 52) (.tmp 54) 62 rfl vm (.slice (some ⟨w8.heap.size, 0, none⟩) 1 1) rfl rfl _ HRUN.out ?_; intro v9 w9 hc9; have KK1 := Lib.hid (HC6.out v9 w9 hc9); obtain ⟨w10, hup, hfin⟩ := HKP.out v9 w9 hc9; have HFIN := Lib.hid hfin; have KK2 : Hid (w10.cell? ⟨X.s, 6, none⟩ = some (.map (some X.m))) := Lib.hid (by obtain ⟨X2, f1, f2, _⟩ := hfin; rw [← f2.s, ← f2.m]; exact f1.st.cell 6); clear hc9 hfin))
      all_goals
        go_wp2_with fail
        go_meet
        exact ⟨rfl, HFIN.out⟩
    case rest =>
      obtain ⟨rfl, X2, hS9, hHf, hT9⟩ := hcut
      have hCq : X2.C q = x := by rw [hHf.C, if_pos rfl]
      have hV2 := hHf.V
      have hs2 := hHf.s
      have hqm : q ∈ X2.ps := by rw [hHf.ps]; simp
      have hqb : Blk wc q 73 x.cells := by have := (hS9.cl q hqm).1; rw [hCq] at this; exact this
      have q1 : wc.cell? ⟨q, 1, none⟩ = some (.slice A4 M.length c4) := by have := hqb.cell 1; rw [HX.out] at this; exact this
      have HTW : Hid (Tn base X W wc) := Lib.hid (HT8.out.trans hT9 ⟨rfl, .inl rfl⟩)
      have HH := Lib.hid hHf
      have HS9 := Lib.hid hS9
      by_cases h2 : M.length < 2
      · obtain ⟨As, cs, hvs, hos⟩ := hS9.pil.each (2 * X.V + 1) (by have := hHf.len; omega)
        have s4 : wc.cell? ⟨X.s, 4, none⟩ = some (.slice As (X2.pss.getD (2 * X.V + 1) []).length cs) := by rw [← hvs, ← hs2, ← hV2]; exact hS9.st.cell 4
        have hsh : (X2.pss.getD (2 * X.V + 1) []).length ≤ 1000000 := by
          rw [hHf.low _ (by omega) (by omega)]
          exact Nat.le_trans (nodup_len7 H.out.shelf.shnd fun p hp => (H.out.short.1 p hp).1) hps
        have HSST := Lib.hid (show Blk wc X.s 66 X2.head by rw [← hs2]; exact hS9.st)
        have HOS := Lib.hid hos
        have HVS := Lib.hid hvs
        obtain ⟨nS, hnS⟩ : ∃ nS, nS = (X2.pss.getD (2 * X.V + 1) []).length := ⟨_, rfl⟩
        rw [← hnS] at s4 HOS hsh
        have HNS := Lib.hid hnS
        have hbc : base ≤ wc.heap.size := by have := hS9.lo.1; have := hS9.st.lt; omega
        have HH2 := Lib.hid h2
        have hlt2 : ((M.length : Nat) : Int) < 2 := by omega
        clear hCq hqm hqb hHf hS9 hT9 hos hvs hnS h2
        go_wp2_with (first
        | (at_builtin; refine wpList_append1 _ rfl _ _ 62 rfl base 74 i0 (.pointer none) 8 Tryd.underlying62 hi hz0 hz1 hz2 rfl _ _ _ rfl (HOS.out.alloc _) (.pointer (some ⟨q, 0, none⟩)) wc.heap.size rfl (by go_cell) rfl (by unfold maxLen; omega) (by omega) (by simp; omega) ?_; intro v11 w11 hown11 hg11 hob11; obtain ⟨A11, c11, hv11, _⟩ := own_slice hown11; subst hv11
           have h4 := own_blk_ne (HOS.out.alloc (Obj.cells #[.pointer (some ⟨q, 0, none⟩)] 74)) (Blk.alloc HSST.out _) (by decide)
           have h3 : Blk w11 X.s 66 X2.head := Blk.grown (Blk.alloc HSST.out _) hg11 h4
           have s4' := (h3.cell 4).trans (show _ = some (Value.slice As nS cs) by simp only [SX.head]; rw [hV2, HVS.out, HNS.out]; rfl)
           have sf' := h3.frozen 4
           have HP := Lib.hid (HS9.out.piled_s (wa := wc.alloc (Obj.cells #[.pointer (some ⟨q, 0, none⟩)] 74)) (w3 := w11) (i := 2 * X.V + 1) (d := 1) (c := c11) (A := A11) (ps := X2.pss.getD (2 * X.V + 1) [] ++ [q]) (by omega) (by rw [hV2]) ((Below.refl _ _).alloc (Nat.le_refl _) _) (by rw [HVS.out, ← HNS.out]; exact hg11)
           (by rw [show (X2.pss.getD (2 * X.V + 1) [] ++ [q]).length = nS + 1 by rw [HNS.out]; simp, show ptrs7 (X2.pss.getD (2 * X.V + 1) [] ++ [q]) = ptrs7 (X2.pss.getD (2 * X.V + 1) []) ++ [.pointer (some ⟨q, 0, none⟩)] by simp [ptrs7]]; exact hown11)
           (by rw [HVS.out, show (X2.pss.getD (2 * X.V + 1) [] ++ [q]).length = nS + 1 by rw [HNS.out]; simp, ← HNS.out]; exact hob11))
           rw [show (X2.pss.getD (2 * X.V + 1) [] ++ [q]).length = nS + 1 by rw [HNS.out]; simp, hs2] at HP
           clear h3 h4 hown11 hg11 hob11))
        go_ret
        have hmore := HH.out.short (v := .slice A11 (nS + 1) c11) ⟨by rw [HX.out], by rw [HX.out], by rw [HX.out]⟩ HH2.out HNEW.out
        refine ⟨_, fo, true, rfl, hmore.rest H.out HP.out.1 HML.out HMR.out (by omega) (by omega), HTW.out.trans HP.out.2.1 HH.out.later, ⟨HH.out.fb, .inl (by show X2.fv.ownBlock = _; rw [HH.out.fv])⟩, ⟨hs2, hV2⟩, ⟨fun _ => HFO.out, fun _ => rfl⟩, fun _ => ⟨by rw [hmore.cs, HMM.out], by rw [hmore.ps]; simp, by rw [hmore.added]; omega, by rw [hmore.tk]; omega⟩, fun e => (by cases e)⟩
      · have h2' : 2 ≤ M.length := by omega
        obtain ⟨p1, p2, p3, p4⟩ := hS9.cl q hqm
        rw [hCq, HX.out] at p3
        have p3' : wc.ownsRow base 3 1 (.slice A4 M.length c4) M.length (M.map (Value.int .i64)) := p3
        obtain ⟨g4, rfl, hg4, -⟩ := own_addr p3' (by omega)
        obtain ⟨Yl, hYl⟩ := own_blk7 p3'
        have hgq : ¬ g4 = q := hYl.ne_ hqb (by decide)
        have hqg : ¬ q = g4 := fun e => hgq e.symm
        have hcap : M.length ≤ c4 := by
          obtain ⟨A', c', e, hc, _⟩ := own_slice p3'
          injection e with _ _ e3
          omega
        have l0 : wc.cell? ⟨g4, 0, none⟩ = some (.int .i64 (M.getD 0 0)) := by rw [World.ownsRow.cellAt p3' 0 (by omega)]; simp [List.getD, show 0 < M.length by omega]
        have l1 : wc.cell? ⟨g4, 1, none⟩ = some (.int .i64 (M.getD 1 0)) := by rw [World.ownsRow.cellAt p3' 1 (by omega)]; simp [List.getD, show 1 < M.length by omega]
        have hne01 : M.getD 0 0 ≠ M.getD 1 0 := fun e => by
          have := List.pairwise_iff_getElem.1 HMR.out 0 1 (by omega) (by omega) (by omega)
          simp only [List.getD, List.getElem?_eq_getElem (show 0 < M.length by omega), List.getElem?_eq_getElem (show 1 < M.length by omega), Option.getD_some] at e
          rw [e] at this
          omega
        have ha := HML.out _ (take_snoc7 (xs := M) (k := 0) (by omega)).2
        have hb := HML.out _ (take_snoc7 (xs := M) (k := 1) (by omega)).2
        obtain ⟨a, haa⟩ : ∃ a, a = M.getD 0 0 := ⟨_, rfl⟩
        obtain ⟨b, hbb⟩ : ∃ b, b = M.getD 1 0 := ⟨_, rfl⟩
        rw [← haa] at l0 ha hne01
        rw [← hbb] at l1 hb hne01
        have f2 := hqb.frozen 2
        have f3 := hqb.frozen 3
        have q2 : wc.cell? ⟨q, 2, none⟩ = some (.int .i64 0) := by have := hqb.cell 2; rw [HX.out] at this; exact this
        have q3 : wc.cell? ⟨q, 3, none⟩ = some (.int .i64 0) := by have := hqb.cell 3; rw [HX.out] at this; exact this
        have hst : Sto ((wc.setCell ⟨q, 2, none⟩ (.int .i64 a)).setCell ⟨q, 3, none⟩ (.int .i64 b)) base (X2.cl q { x with w0 := a, w1 := b }) fo ∧ Tn base X2 wc ((wc.setCell ⟨q, 2, none⟩ (.int .i64 a)).setCell ⟨q, 3, none⟩ (.int .i64 b)) := by
          obtain ⟨a1, a2⟩ := hS9.clauseSet hqm { x with w0 := a } 2 (.int .i64 a) (by rw [hCq, HX.out]; rfl) (by rw [hCq]; rfl) (by rw [hCq])
          obtain ⟨b1, b2⟩ := a1.clauseSet (p := q) hqm { x with w0 := a, w1 := b } 3 (.int .i64 b) (by rw [SX.cl_same, HX.out]; rfl) (by rw [SX.cl_same]; rfl) (by rw [SX.cl_same])
          rw [SX.cl_cl] at b1
          exact ⟨b1, a2.trans b2.cl (Later7.refl _ _)⟩
        have HST := Lib.hid hst
        have HPUT : Hid (Put7 base X (X2.cl q { x with w0 := a, w1 := b }) fo q a b W 0 ((wc.setCell ⟨q, 2, none⟩ (.int .i64 a)).setCell ⟨q, 3, none⟩ (.int .i64 b))) := Lib.hid ⟨HTW.out.trans hst.2 HH.out.later, .inl ⟨rfl, hst.1⟩⟩
        have hpile : ∀ j, j < 2 * X.V → (X2.pss.getD j []).length ≤ 1000000 := fun j hj => by
          rw [HH.out.low j (by omega) (by omega)]
          exact Nat.le_trans (nodup_len7 (H.out.wf.pile j hj).1 fun p hp => ((H.out.wf.pile j hj).2.1 p hp).1) hps
        have HPL := Lib.hid hpile
        have HAB := Lib.hid (⟨ha, hb, hne01, haa, hbb⟩ : Lt7 X.V a ∧ Lt7 X.V b ∧ a ≠ b ∧ a = M.getD 0 0 ∧ b = M.getD 1 0)
        have HIX := Lib.hid (⟨(ix_eq ha).2, (ix_eq hb).2, fun e => hne01 (ix_inj ha hb e)⟩ : ix a < 2 * X.V ∧ ix b < 2 * X.V ∧ ix a ≠ ix b)
        have HH2 := Lib.hid h2'
        have hlt2 : ¬ ((M.length : Nat) : Int) < 2 := by omega
        have hat : ∀ w, (Instr.arrayAt 71 (.slice (some ⟨g4, 0, none⟩) M.length c4)).run Tryd.prog w = .ok (.pointer (some ⟨g4, 0, none⟩)) w := fun w => run_arrayAt w 71 _ 2 _ _ _ Tryd.underlying71 h2'
        have hge2 : (2 : Int) ≤ ((M.length : Nat) : Int) := by omega
        clear hCq hqm hqb hHf hS9 hT9 p1 p2 p3 p3' p4 hYl hst ha hb hne01 haa hbb hpile h2
        go_wp2
        go_loopg [85] 3 (fun gk i wr => ∃ k : Nat, k ≤ 2 ∧ gk = 3 - k ∧ i = .int .i64 k ∧ Hid (Put7 base X (X2.cl q { x with w0 := a, w1 := b }) fo q a b W k wr))
        case atStart => exact ⟨0, by omega, by omega, rfl, HPUT⟩
        case round =>
          obtain ⟨k, hk, rfl, rfl, HP⟩ := hrel
          clear l0 l1 f2 f3 q1 q2 q3 hat
          obtain ⟨ix0, ix1⟩ := index_two7 a b wr
          obtain ⟨hA1, hA2, hA3, hA4, hA5⟩ := HAB.out
          obtain ⟨hI1, hI2, hI3⟩ := HIX.out
          rcases (by omega : k = 0 ∨ k = 1 ∨ k = 2) with rfl | rfl | rfl
          · obtain ⟨hT, ⟨_, hS⟩ | ⟨e, _⟩ | ⟨e, _⟩⟩ := HP.out
            rotate_left
            · omega
            · omega
            have HEN := Lib.hid (enlist_any hS q a (by show Lt7 X2.V a; rw [hV2]; exact hA1) (Nat.le_trans (HPL.out _ hI1) (by omega)))
            rw [show (X2.cl q { x with w0 := a, w1 := b }).s = X.s from hs2] at HEN
            have HTT := Lib.hid hT
            clear hA1 hA2 hA3 hA4 hA5 hI1 hI2 hI3 hS hT
            go_wp2_with (go_at_call 39; refine HEN.out.mono ?_; rintro e3 w3 ⟨rfl, A3, c3, k1, k2⟩; have HE1 := Lib.hid k1; have HE2 := Lib.hid k2; clear k1 k2)
            go_roundg 2
            case measure => omega
            case rel => exact ⟨1, by omega, by omega, by go_num, Lib.hid ⟨HTT.out.trans HE2.out ⟨HH.out.fb, .inl (by show X2.fv.ownBlock = _; rw [HH.out.fv])⟩, .inr (.inl ⟨rfl, _, _, rfl, HE1.out⟩)⟩⟩
          · obtain ⟨hT, ⟨e, _⟩ | ⟨_, va, P1, hP1, hS⟩ | ⟨e, _⟩⟩ := HP.out
            · omega
            rotate_left
            · omega
            have hoth : ((X2.cl q { x with w0 := a, w1 := b }).pile (ix a) va P1).pss.getD (ix b) [] = X2.pss.getD (ix b) [] := getD_set_other hI3 _
            have HEN := Lib.hid (enlist_any hS q b (by show Lt7 X2.V b; rw [hV2]; exact hA2) (by rw [hoth]; exact Nat.le_trans (HPL.out _ hI2) (by omega)))
            rw [show ((X2.cl q { x with w0 := a, w1 := b }).pile (ix a) va P1).s = X.s from hs2] at HEN
            have HTT := Lib.hid hT
            have HP1 := Lib.hid hP1
            have HOTH := Lib.hid hoth
            clear hA1 hA2 hA3 hA4 hA5 hI1 hI2 hI3 hS hT hP1 hoth
            go_wp2_with (go_at_call 39; refine HEN.out.mono ?_; rintro e3 w3 ⟨rfl, A3, c3, k1, k2⟩; have HE1 := Lib.hid k1; have HE2 := Lib.hid k2; clear k1 k2)
            go_roundg 1
            case measure => omega
            case rel => exact ⟨2, by omega, by omega, by go_num, Lib.hid ⟨HTT.out.trans HE2.out ⟨HH.out.fb, .inl (by show X2.fv.ownBlock = _; rw [HH.out.fv])⟩, .inr (.inr ⟨rfl, _, _, _, _, HP1.out, HOTH.out ▸ rfl, HE1.out⟩)⟩⟩
          · obtain ⟨hT, ⟨e, _⟩ | ⟨e, _⟩ | ⟨_, va, vb, P1, P2, hP1, hP2, hS⟩⟩ := HP.out
            · omega
            · omega
            have hmore := HH.out.long (va := va) (vb := vb) (P1 := P1) (P2 := P2) ⟨by rw [HX.out], by rw [HX.out], by rw [HX.out], by rw [HX.out]⟩ HH2.out HNEW.out hA4 hA5 hI3 hI1 hI2 (hP1.trans (by show X2.pss.getD _ _ ++ _ = _; rw [HH.out.low _ (by omega) (by omega)])) (hP2.trans (by show X2.pss.getD _ _ ++ _ = _; rw [HH.out.low _ (by omega) (by omega)]))
            have HFIN := Lib.hid (⟨hT, hS, hmore⟩ : _ ∧ _ ∧ _)
            clear hA1 hA2 hA3 hA4 hA5 hI1 hI2 hI3 hS hT hP1 hP2 hmore
            go_wp2
            go_ret
            obtain ⟨hT, hS, hmore⟩ := HFIN.out
            exact ⟨_, fo, true, rfl, hmore.rest H.out hS HML.out HMR.out (by omega) (by omega), hT, ⟨HH.out.fb, .inl (by show X2.fv.ownBlock = _; rw [HH.out.fv])⟩, ⟨hs2, hV2⟩, ⟨fun _ => HFO.out, fun _ => rfl⟩, fun _ => ⟨by rw [hmore.cs, HMM.out], by rw [hmore.ps]; simp, by rw [hmore.added]; omega, by rw [hmore.tk]; omega⟩, fun e => (by cases e)⟩
end Go.Proofs.YtlkgicaajenhaaaDoor
