/- What Clone and Copy answer. -/
import Derived.Test.YtdacdodigbpdoaaCnf
import Derived.Test.YtdacdodigbpdoaaOwnRows
import Derived.Deep.DeepCutAuto
import Derived.Deep.RegionHeld3
import Derived.WalkSpells
namespace Go.Proofs.Ytdacdodigbpdoaa
open Go.RowKit

theorem Try.infoInt3 : (Try.prog.info? 3).map (fun i => (i.zero, i.size, i.bytes)) = some (some (.int .i64 0), 1, 8) := by kernel_rfl
theorem Try.infoInts : (Try.prog.info? 33).map (fun i => (i.zero, i.size, i.bytes)) = some (some (.slice none 0 0), 1, 24) := by kernel_rfl

/-- a copy of a row -/
def Cloned (e : TypeId) (n : Nat) (f : Nat → Value) (w : World) (r : Ending) (w' : World) : Prop :=
  ∃ A c, r = .returned (.slice A n c) ∧ w'.ownsRow w.heap.size e 1 (.slice A n c) n ((List.range n).map f) ∧ Below w.heap.size w w'

theorem clone_ints_any (n : Nat) (f : Nat → Value) (B : Nat) (A : Option Addr) (c : Nat) (w : World) (hn : n ≤ 1099511627776) (h1 : ∀ j, j < n → (f j).oneCell' = true) (h : Cells w B A n f) (hB : B ≤ w.heap.size) :
    Calls Try.prog 25 #[.slice A n c] w (Cloned 3 n f w) := by
  have hnil := fun (w : World) (a : Option Addr) (n c : Nat) => Lib.run_eql_slice_nil (P := Try.prog) w 33 3 a n c 0 0 Try.underlying33
  obtain ⟨i0, hi, hz0, hz1, hz2⟩ := info_parts Try.infoInt3
  have H := Lib.hid h
  have H1 := Lib.hid h1
  clear h h1
  rcases A with _ | ad
  · go_enter Try.func25, Try.ntmps25
    go_wp2
    go_ret
    have h0 : n = 0 := by
      rcases Nat.eq_zero_or_pos n with h0 | h0
      · exact h0
      · obtain ⟨b, off, e, _⟩ := H.out h0
        cases e
    subst h0
    exact ⟨_, _, rfl, World.ownsRow_nil _ _ _ _, Below.refl _ _⟩
  · go_enter Try.func25, Try.ntmps25
    go_wp2_with (at_builtin; refine wpList_append_cells _ rfl _ _ 33 rfl w.heap.size 3 i0 (.int .i64 0) 8 Try.underlying33 hi hz0 hz1 hz2 rfl _ 0 [] rfl (World.ownsRow_lit w #[] 0 (Nat.le_refl _) (Nat.zero_le _) rfl) B _ n _ f rfl (H.out.alloc hB _) H1.out (by unfold maxLen; omega) (by omega) (by simp) ?_)
    intro v' w1 hown hg _
    have HO := Lib.hid hown
    have HG := Lib.hid hg
    clear hown hg
    go_wp2
    go_ret
    have ho : w1.ownsRow w.heap.size 3 1 v' n ((List.range n).map f) := by simpa using HO.out
    obtain ⟨A', c', hv', _⟩ := own_slice ho
    rw [hv'] at ho ⊢
    refine ⟨_, _, rfl, ho, ((Below.refl _ _).alloc (Nat.le_refl _) _).grown HG.out (by simp) (fun k hk => ?_)⟩
    simp [Value.ownBlock] at hk
    omega

theorem clone_rows_any (n : Nat) (f : Nat → Value) (B : Nat) (A : Option Addr) (c : Nat) (w : World) (hn : n ≤ 1099511627776) (h1 : ∀ j, j < n → (f j).oneCell' = true) (h : Cells w B A n f) (hB : B ≤ w.heap.size) :
    Calls Try.prog 24 #[.slice A n c] w (Cloned 33 n f w) := by
  have hnil := fun (w : World) (a : Option Addr) (n c : Nat) => Lib.run_eql_slice_nil (P := Try.prog) w 28 33 a n c 0 0 Try.underlying28
  obtain ⟨i0, hi, hz0, hz1, hz2⟩ := info_parts Try.infoInts
  have H := Lib.hid h
  have H1 := Lib.hid h1
  clear h h1
  rcases A with _ | ad
  · go_enter Try.func24, Try.ntmps24
    go_wp2
    go_ret
    have h0 : n = 0 := by
      rcases Nat.eq_zero_or_pos n with h0 | h0
      · exact h0
      · obtain ⟨b, off, e, _⟩ := H.out h0
        cases e
    subst h0
    exact ⟨_, _, rfl, World.ownsRow_nil _ _ _ _, Below.refl _ _⟩
  · go_enter Try.func24, Try.ntmps24
    go_wp2_with (at_builtin; refine wpList_append_cells _ rfl _ _ 28 rfl w.heap.size 33 i0 (.slice none 0 0) 24 Try.underlying28 hi hz0 hz1 hz2 rfl _ 0 [] rfl (World.ownsRow_lit w #[] 0 (Nat.le_refl _) (Nat.zero_le _) rfl) B _ n _ f rfl (H.out.alloc hB _) H1.out (by unfold maxLen; omega) (by omega) (by simp) ?_)
    intro v' w1 hown hg _
    have HO := Lib.hid hown
    have HG := Lib.hid hg
    clear hown hg
    go_wp2
    go_ret
    have ho : w1.ownsRow w.heap.size 33 1 v' n ((List.range n).map f) := by simpa using HO.out
    obtain ⟨A', c', hv', _⟩ := own_slice ho
    rw [hv'] at ho ⊢
    refine ⟨_, _, rfl, ho, ((Below.refl _ _).alloc (Nat.le_refl _) _).grown HG.out (by simp) (fun k hk => ?_)⟩
    simp [Value.ownBlock] at hk
    omega

theorem range_map_ints (xs : List Int) : (List.range xs.length).map (fun j => Value.int .i64 (xs.getD j 0)) = xs.map (Value.int .i64) := by
  apply List.ext_getElem
  · simp
  · intro i h1 h2
    simp at h1
    simp [List.getD, h1]
theorem rows_fn {w : World} {B : Nat} {A : Option Addr} {xss : List (List Int)} (h : Rows w B A xss) :
    ∃ f : Nat → Value, (∀ j, j < xss.length → (f j).oneCell' = true) ∧ Cells w B A xss.length f ∧ (∀ j, j < xss.length → ∃ Aj cj, f j = .slice Aj (xss.getD j []).length cj ∧ Ints w B Aj (xss.getD j [])) := by
  rcases Nat.eq_zero_or_pos xss.length with h0 | h0
  · exact ⟨fun _ => undef, fun j hj => by omega, fun hj => by omega, fun j hj => by omega⟩
  · obtain ⟨b, off, e, hb, hc⟩ := h h0
    have : ∀ j, ∃ v : Value, j < xss.length → w.cell? ⟨b, off + j, none⟩ = some v ∧ v.oneCell' = true ∧ ∃ Aj cj, v = .slice Aj (xss.getD j []).length cj ∧ Ints w B Aj (xss.getD j []) := by
      intro j
      by_cases hj : j < xss.length
      · obtain ⟨Aj, cj, h1, h2⟩ := hc j hj
        exact ⟨_, fun _ => ⟨h1, rfl, Aj, cj, rfl, h2⟩⟩
      · exact ⟨undef, fun h => absurd h hj⟩
    refine ⟨fun j => Classical.choose (this j), fun j hj => (Classical.choose_spec (this j) hj).2.1, fun _ => ⟨b, off, e, hb, fun j hj => (Classical.choose_spec (this j) hj).1⟩, fun j hj => (Classical.choose_spec (this j) hj).2.2⟩

/-- a copy of a formula -/
def Copied (V : Int) (xss : List (List Int)) (w : World) (e : Ending) (w' : World) : Prop :=
  ∃ A c vs, e = .returned (.agg #[.int .i64 V, .slice A xss.length c]) ∧ w'.ownsRow w.heap.size 33 1 (.slice A xss.length c) xss.length vs ∧ OwnList w' w.heap.size 3 vs xss ∧ Below w.heap.size w w'

set_option maxRecDepth 100000 in
theorem copy_any (V : Int) (xss : List (List Int)) (B : Nat) (A : Option Addr) (c : Nat) (w : World) (hx : xss.length ≤ 1099511627776) (hl : ∀ j, (xss.getD j []).length ≤ 1099511627776) (h : Rows w B A xss) (hB : B ≤ w.heap.size) :
    Calls Try.prog 16 #[.agg #[.int .i64 V, .slice A xss.length c]] w (Copied V xss w) := by
  have H := Lib.hid h
  have HL := Lib.hid hl
  clear h hl
  go_enter Try.func16, Try.ntmps16
  go_wp2
  obtain ⟨w1, hw1⟩ : ∃ w1, w1 = (w.alloc (Obj.cells #[Value.int IntKind.i64 V, Value.slice A xss.length c] 30)).alloc (Obj.cells #[Value.int IntKind.i64 0, Value.slice none 0 0] 30) := ⟨_, rfl⟩
  have hR : Rows w1 B A xss := by rw [hw1]; exact (H.out.alloc hB _).alloc (by simp; omega) _
  have hBel : Below w.heap.size w w1 := by rw [hw1]; exact ((Below.refl _ _).alloc (Nat.le_refl _) _).alloc (by simp) _
  have hc0 : w1.cell? ⟨w.heap.size, 0, none⟩ = some (.int .i64 V) := by rw [hw1]; go_cell
  have hc1 : w1.cell? ⟨w.heap.size, 1, none⟩ = some (.slice A xss.length c) := by rw [hw1]; go_cell
  have hsz : w1.heap.size = w.heap.size + 2 := by rw [hw1]; simp
  have hres : Blk w1 (w.heap.size + 1) 30 #[Value.int IntKind.i64 0, Value.slice none 0 0] := by rw [hw1]; have := Blk.new (w.alloc (Obj.cells #[Value.int IntKind.i64 V, Value.slice A xss.length c] 30)) 30 #[Value.int IntKind.i64 0, Value.slice none 0 0]; simpa using this
  rw [← hw1]
  clear hw1
  have HS := Lib.hid hsz
  have HRES := Lib.hid hres
  clear hsz hres
  obtain ⟨f, hf1, hf2, hf3⟩ := rows_fn hR
  have CL := Lib.hid (And.intro hf1 hf2)
  have HF3 := Lib.hid hf3
  have KE := Lib.hid (show ∀ w2, Below w1.heap.size w1 w2 → w2.cell? ⟨w.heap.size, 0, none⟩ = some (.int .i64 V) ∧ w2.cell? ⟨w.heap.size, 1, none⟩ = some (.slice A xss.length c) from fun w2 hb2 => ⟨(hb2.cell (p := ⟨w.heap.size, 0, none⟩) (by simp; have := HS.out; omega)).trans hc0, (hb2.cell (p := ⟨w.heap.size, 1, none⟩) (by simp; have := HS.out; omega)).trans hc1⟩)
  have hB1 : B ≤ w1.heap.size := by have := HS.out; omega
  have hn0 : w.heap.size < w1.heap.size := by have := HS.out; omega
  have HBel := Lib.hid hBel
  clear hf1 hf2 hf3 hR hBel
  go_cut [3] (fun p w' => ∃ g A2 c2, p = .pointer (some ⟨g, 0, none⟩) ∧ w1.heap.size ≤ g ∧ Blk w' g 30 #[.int .i64 V, .slice A2 xss.length c2] ∧
    w'.ownsRow w1.heap.size 33 1 (.slice A2 xss.length c2) xss.length ((List.range xss.length).map f) ∧ Below w1.heap.size w1 w')
  case first =>
    go_region_held3 (fun w' => w'.cell? ⟨w.heap.size, 0, none⟩ = some (.int .i64 V) ∧ w'.cell? ⟨w.heap.size, 1, none⟩ = some (.slice A xss.length c))
      (first | exact ⟨K0.out, K1.out⟩ | exact ⟨(World.cell?_alloc_lt w2 _ ⟨w.heap.size, 0, none⟩ hz2).trans K0.out, (World.cell?_alloc_lt w2 _ ⟨w.heap.size, 1, none⟩ hz2).trans K1.out⟩ | exact ⟨(World.cell?_alloc_lt w1 _ ⟨w.heap.size, 0, none⟩ hn0).trans hc0, (World.cell?_alloc_lt w1 _ ⟨w.heap.size, 1, none⟩ hn0).trans hc1⟩ | (refine ⟨?_, ?_⟩ <;> (rw [World.cell?_setCell_other _ _ _ _ (by intro e; injection e; omega), World.cell?_setCell_other _ _ _ _ (by intro e; injection e; omega)]; first | exact K0.out | exact K1.out)) | go_keep)
      (first
        | (go_at_call 24; refine (clone_rows_any xss.length _ B A c _ hx ?_ (show Cells w1.drew B A xss.length f from CL.out.2) ?_).mono ?_; exact CL.out.1; exact hB1; rintro e w2 ⟨A2, c2, rfl, hown, hb2'⟩; have hb2 := below_undrew hb2'; clear hb2'; have K0 := Lib.hid (KE.out _ hb2).1; have K1 := Lib.hid (KE.out _ hb2).2; have hz2 : w.heap.size < w2.heap.size := (by have := hb2.size; have := HS.out; omega); have HO := Lib.hid hown; have HB2 := Lib.hid hb2; clear hown hb2)
        | (go_at_call 24; refine (clone_rows_any xss.length _ B A c _ hx ?_ (show Cells ((w1.alloc (Obj.cells #[Value.int IntKind.i64 0, Value.slice none 0 0] 30)).drew) B A xss.length f from CL.out.2.alloc hB1 _) ?_).mono ?_; exact CL.out.1; (simp; omega); rintro e w2 ⟨A2, c2, rfl, hown, hb2'⟩; have hb2 := below_undrew hb2'; clear hb2'; have K0 := Lib.hid ((hb2.cell (p := ⟨w.heap.size, 0, none⟩) (by simp; omega)).trans ((World.cell?_alloc_lt w1 _ ⟨w.heap.size, 0, none⟩ hn0).trans hc0)); have K1 := Lib.hid ((hb2.cell (p := ⟨w.heap.size, 1, none⟩) (by simp; omega)).trans ((World.cell?_alloc_lt w1 _ ⟨w.heap.size, 1, none⟩ hn0).trans hc1)); have Z0 := ((Blk.new w1 30 #[Value.int IntKind.i64 0, Value.slice none 0 0]).below hb2 (by simp)).cell 0; have Z1 := ((Blk.new w1 30 #[Value.int IntKind.i64 0, Value.slice none 0 0]).below hb2 (by simp)).cell 1; have ZF := ((Blk.new w1 30 #[Value.int IntKind.i64 0, Value.slice none 0 0]).below hb2 (by simp)).frozen; simp at Z0 Z1; have HO := Lib.hid hown; have HB2 := Lib.hid hb2; clear hown hb2))
    all_goals (go_wp2_with fail; go_meet)
    all_goals first
      | exact ⟨w2.heap.size, A2, c2, rfl, HB2.out.size, Blk.new w2 _ _, HO.out.alloc _, HB2.out.alloc HB2.out.size _⟩
      | (have hb := (Blk.new w1 30 #[Value.int IntKind.i64 0, Value.slice none 0 0]).below HB2.out (by simp)
         have ho := own_more (base' := w1.heap.size) HO.out (by simp)
         have hne := own_blk_ne ho hb (by decide)
         exact ⟨w1.heap.size, A2, c2, rfl, Nat.le_refl _, (hb.set_ 0 _).set_ 1 _, own_setCell (own_setCell ho _ hne) _ hne, ((((Below.refl _ _).alloc (Nat.le_refl _) _).trans (HB2.out.mono (by simp))).setCell (Nat.le_refl _) _).setCell (Nat.le_refl _) _⟩)
  case rest =>
    obtain ⟨g, A2, c2, rfl, hg, hblk, hown, hb2⟩ := hcut
    have C1 := hblk.cell 1
    simp at C1
    have HBK := Lib.hid hblk
    have HOW := Lib.hid hown
    have HB2 := Lib.hid hb2
    clear hblk hown hb2
    go_wp2
    clear C1
    go_loopg [15] (xss.length + 1) (fun gk i wr => ∃ (k : Nat) (vs : List Value), k ≤ xss.length ∧ gk = xss.length - k + 1 ∧ i = .int .i64 k ∧ Blk wr g 30 #[.int .i64 V, .slice A2 xss.length c2] ∧
      wr.ownsRow w1.heap.size 33 1 (.slice A2 xss.length c2) xss.length vs ∧ (∀ j, k ≤ j → j < xss.length → vs[j]? = some (f j)) ∧ OwnList wr w1.heap.size 3 vs (xss.take k) ∧ Below w1.heap.size w1 wr)
    case atStart => exact ⟨0, _, by omega, by omega, rfl, HBK.out, HOW.out, fun j _ hj => by simp [hj], OwnList.nil_, HB2.out⟩
    case round =>
      obtain ⟨k, vs, hk, rfl, rfl, hblk, hown, hvs, hlist, hb2⟩ := hrel
      have C0 := hblk.cell 0
      have C1 := hblk.cell 1
      simp at C0 C1
      have HBKr := Lib.hid hblk
      have HOWr := Lib.hid hown
      have HB2r := Lib.hid hb2
      have HVS := Lib.hid hvs
      have HLI := Lib.hid hlist
      clear hblk hown hb2 hvs hlist HBK HOW HB2
      by_cases hlt : k < xss.length
      · obtain ⟨b2, hA2, hb21, hb22⟩ := own_addr HOWr.out (by omega)
        subst hA2
        have hck : wr.cell? ⟨b2, k, none⟩ = some (f k) := by rw [World.ownsRow.cellAt HOWr.out k (by omega)]; exact HVS.out k (Nat.le_refl _) hlt
        have hfk : wr.frozen? ⟨b2, k, none⟩ = false := World.ownsRow.frozenAt HOWr.out k
        obtain ⟨Ak, ck, hfe, hik⟩ := HF3.out k hlt
        rw [hfe] at hck
        have hlk := HL.out k
        have htk := List.take_succ_eq_append_getElem hlt
        obtain ⟨xs, hxs⟩ : ∃ xs, xs = xss.getD k [] := ⟨_, rfl⟩
        have hxs' : xss[k] = xs := by rw [hxs]; simp [List.getD, hlt]
        rw [hxs'] at htk
        rw [← hxs] at hck hik hlk
        clear hxs hxs' hfe
        have HTK := Lib.hid htk
        have HIK := Lib.hid (Cells.below hik (HB2r.out.mono hB1))
        have hwr := HB2r.out.size
        have hk1 : (k : Int) < (xss.length : Int) := by omega
        clear htk hik
        have KE := Lib.hid (show ∀ w2, Below wr.heap.size wr w2 → w2.cell? ⟨g, 1, none⟩ = some (.slice (some ⟨b2, 0, none⟩) xss.length c2) ∧ w2.cell? ⟨b2, k, none⟩ = some (.slice Ak xs.length ck) ∧ w2.frozen? ⟨b2, k, none⟩ = false from
          fun w2 hb => ⟨(hb.cell (p := ⟨g, 1, none⟩) HBKr.out.lt).trans C1, (hb.cell (p := ⟨b2, k, none⟩) hb22).trans hck, (hb.frozen (p := ⟨b2, k, none⟩) hb22).trans hfk⟩)
        have hgb : g ≠ b2 := fun e => own_blk_ne HOWr.out HBKr.out (by decide) (by rw [e]; rfl)
        go_wp2_with fail
        go_region_held3 (fun w' => w'.cell? ⟨g, 1, none⟩ = some (.slice (some ⟨b2, 0, none⟩) xss.length c2))
          (first | exact K0.out | (rw [World.cell?_setCell_other _ _ _ _ (by intro e; injection e; omega)]; exact K0.out) | go_keep)
          (first
            | (go_at_call 25; refine (clone_ints_any xs.length _ B Ak ck _ hlk ?_ (show Cells wr.drew B Ak xs.length (fun j => .int .i64 (xs.getD j 0)) from HIK.out) ?_).mono ?_; exact fun _ _ => rfl; exact Nat.le_trans hB1 hwr; rintro e w2 ⟨A3, c3, rfl, hown3, hb3'⟩; have hb3 := below_undrew hb3'; clear hb3'; have K0 := Lib.hid (KE.out _ hb3).1; have Z0 := (KE.out _ hb3).2.1; have ZF := (KE.out _ hb3).2.2; have HO3 := Lib.hid hown3; have HB3 := Lib.hid hb3; clear hown3 hb3))
        go_wp2
        have ho2 := own_below HOWr.out HB3.out (fun g hg => (HOWr.out.lt g hg).2)
        obtain ⟨hst, hgr⟩ := World.ownsRow.stored ho2 k (Value.slice A3 xs.length c3)
        have hl2 := HLI.out.below HB3.out (Nat.le_refl _)
        have hl3 := hl2.kept hgr (hl2.ne_outer ho2 (by decide))
        have ho3 := HO3.out
        rw [range_map_ints] at ho3
        have ho4 : (w2.setCell ⟨b2, k, none⟩ (Value.slice A3 xs.length c3)).ownsRow wr.drew.heap.size 3 1 (.slice A3 xs.length c3) xs.length (xs.map (Value.int .i64)) :=
          ho3.kept hgr (own_own_ne ho3 ho2 (by decide))
        have htl : (xss.take k).length = k := by simp; omega
        have hvl : vs.length = xss.length := by have := HOWr.out.1; omega
        have hbk := (HBKr.out.below HB3.out HBKr.out.lt).far (p := ⟨b2, k, none⟩) hgb (Value.slice A3 xs.length c3)
        go_roundg (xss.length - k)
        case measure => omega
        case rel =>
          refine ⟨k + 1, vs.set k (.slice A3 xs.length c3), by omega, by omega, by go_num, hbk, hst, fun j hj1 hj2 => ?_, ?_, (HB2r.out.trans (HB3.out.mono hwr)).setCell hb21 _⟩
          · rw [List.getElem?_set_ne (by omega)]; exact HVS.out j (by omega) hj2
          · rw [HTK.out]
            refine hl3.step _ (fun j hj => ?_) ?_ ho4 hwr (fun j g hj hg => ?_)
            · rw [List.getElem?_set_ne (by omega)]
            · rw [htl, List.getElem?_set_self (by omega)]
            · exact (HLI.out.lt hj hg).2
      · have hres := HRES.out.below HB2r.out (by have := HS.out; omega)
        have R0 := hres.cell 0
        have R1 := hres.cell 1
        have RF := hres.frozen
        simp at R0 R1
        have hd0 := (hres.set_ 0 (.int .i64 V)).cell 0
        have hd1 := ((hres.set_ 0 (.int .i64 V)).set_ 1 (.slice A2 xss.length c2)).cell 1
        simp at hd0 hd1
        have HR := Lib.hid hres
        clear hres
        obtain rfl : k = xss.length := by omega
        go_wp2
        have hg1 : w.heap.size + 1 < wr.heap.size := HR.out.lt
        refine bodyPost_ret (v := .agg #[.int .i64 V, .slice A2 xss.length c2]) (by simp [results, Try.results16, go_sem, hd0, hd1]) rfl ?_
        have ho := HOWr.out
        have hne := own_blk_ne ho HR.out (by decide)
        have hlist := HLI.out
        rw [List.take_length] at hlist
        have hs := HS.out
        have hl2 := (hlist.kept (grown_setCell _ ⟨w.heap.size + 1, 0, none⟩ (.int .i64 V)) (hlist.ne_blk HR.out (by decide)))
        have hl3 := (hl2.kept (grown_setCell _ ⟨w.heap.size + 1, 1, none⟩ (.slice A2 xss.length c2)) (hl2.ne_blk (HR.out.set_ 0 (.int .i64 V)) (by decide)))
        refine ⟨A2, c2, vs, rfl, own_more (own_setCell (own_setCell ho _ hne) _ hne) (by omega), ⟨fun j hj => ?_, hl3.ne⟩, (((HBel.out.trans (HB2r.out.mono (by omega)))).setCell (by simp) _).setCell (by simp) _⟩
        obtain ⟨Aj, cj, h1, h2⟩ := hl3.each j hj
        exact ⟨Aj, cj, h1, own_more h2 (by omega)⟩
end Go.Proofs.Ytdacdodigbpdoaa
