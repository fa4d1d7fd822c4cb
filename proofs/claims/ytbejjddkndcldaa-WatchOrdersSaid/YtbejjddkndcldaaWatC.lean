/- What the propagator's own calls do: New. What the propagator's own calls do: Attach, while nothing is on the trail. What the propagator's own calls do: Attach, while nothing is on the trail; Visits. A propagator as mathematics: clauses attached while nothing is on the trail. -/
import Derived.Test.YtbejjddkndcldaaWat9
import Derived.Deep.OwnRows
namespace Go.Proofs.Ytbejjddkndcldaa
open Go.RowKit
set_option linter.unusedVariables false
set_option linter.unusedSimpArgs false

theorem infoLs : (Try.prog.info? 111).map (fun i => (i.zero, i.size, i.bytes)) = some (some (.slice none 0 0), 1, 24) := by kernel_rfl
theorem TrX.base {w : World} {base base' g P : Nat} {F : Nat → Prop} {t : TS} (h : TrX w base g P F t) (hb : base' ≤ base) : TrX w base' g P F t := by
  obtain ⟨V, S, A, D, c, d, b1, b2, b3, b4, b5, b6, b7, b8, b9⟩ := h.ex
  exact ⟨⟨V, S, A, D, c, d, b1, own_more b2 hb, own_more b3 hb, b4, b5, b6, by omega, by omega, b9⟩, h.phs, by have := h.hg; omega, by have := h.hP; omega⟩
theorem Ar.base {w : World} {base base' g b : Nat} {gw : Option Nat} {lim : Int} {cs : List Cl} (h : Ar w base g b gw lim cs) (hb : base' ≤ base) : Ar w base' g b gw lim cs := by
  obtain ⟨A, c, h1, h2, h3⟩ := h.ex
  exact ⟨⟨A, c, h1, own_more h2 hb, h3⟩, h.map, by have := h.hg; omega, by have := h.hb; omega⟩
def WS.zero : WS := ⟨fun _ => [], [], 0, [], 0⟩
def hd0 : Nat → Value := fun _ => .slice none 0 0

set_option maxRecDepth 100000 in
set_option maxHeartbeats 1000000 in
theorem wnew_any {w : World} {base gA bA gT P N : Nat} {FT : Nat → Prop} (hB : base ≤ w.heap.size) (h1 : Ar w base gA bA none 0 []) (h2 : TrX w base gT P FT (TS.fresh N)) (d1 : ∀ q, afoot gA bA none q → FT q → False) (hFT : ∀ q, FT q → base ≤ q ∧ q < w.heap.size) (hN : N ≤ 100000) :
    Calls Try.prog 42 #[.pointer (some ⟨gA, 0, none⟩), .pointer (some ⟨gT, 0, none⟩), .int .i64 (N : Nat)] w fun e w' => ∃ gW L G, e = .returned (.pointer (some ⟨gW, 0, none⟩)) ∧ Ob w' base ⟨gA, bA, none, gT, P, gW, L⟩ N G [] (TS.fresh N) WS.zero hd0 ∧ Below w.heap.size w w' ∧ ∀ q, G q → afoot gA bA none q ∨ FT q ∨ w.heap.size ≤ q := by
  obtain ⟨M, hM⟩ : ∃ M, 2 * N = M := ⟨_, rfl⟩
  have hm1 := run_make_row' (P := Try.prog) 77 111 (.slice none 0 0) 24 Try.underlying77 infoLs rfl .i64 .i64 M (by omega) (by omega)
  have hcl : max 0 (min (N : Int) 100000) = N := by omega
  have h2N : 2 * (N : Int) = (M : Int) := by omega
  have fin : ∀ w', w' = (w.alloc (.cells (madeCells #[.slice none 0 0] M) 111)).alloc (.cells #[.pointer (some ⟨gA, 0, none⟩), .pointer (some ⟨gT, 0, none⟩), .int .i64 (N : Nat), .slice (some ⟨w.heap.size, 0, none⟩) M M, .slice none 0 0, .int .i64 0, .slice none 0 0, .int .i64 0] 79) →
      ∃ G, Ob w' base ⟨gA, bA, none, gT, P, w.heap.size + 1, w.heap.size⟩ N G [] (TS.fresh N) WS.zero hd0 ∧ Below w.heap.size w w' ∧ ∀ q, G q → afoot gA bA none q ∨ FT q ∨ w.heap.size ≤ q := fun w' hw' => by
    have hb : Below w.heap.size w w' := by rw [hw']; exact ((Below.refl _ _).alloc (Nat.le_refl _) _).alloc (by simp) _
    have hsz : w'.heap.size = w.heap.size + 2 := by rw [hw']; simp
    have bL : Blk w' w.heap.size 111 (madeCells #[.slice none 0 0] M) := by rw [hw']; exact (Blk.new w _ _).alloc _
    have bW : Blk w' (w.heap.size + 1) 79 #[.pointer (some ⟨gA, 0, none⟩), .pointer (some ⟨gT, 0, none⟩), .int .i64 (N : Nat), .slice (some ⟨w.heap.size, 0, none⟩) M M, .slice none 0 0, .int .i64 0, .slice none 0 0, .int .i64 0] := by
      rw [hw']
      have := Blk.new (w.alloc (.cells (madeCells #[.slice none 0 0] M) 111)) 79 #[.pointer (some ⟨gA, 0, none⟩), .pointer (some ⟨gT, 0, none⟩), .int .i64 (N : Nat), .slice (some ⟨w.heap.size, 0, none⟩) M M, .slice none 0 0, .int .i64 0, .slice none 0 0, .int .i64 0]
      simpa using this
    have hmc : madeCells #[.slice none 0 0] M = hdV N hd0 := by
      apply Array.ext'
      rw [toList_madeCells_one]
      have e : List.map hd0 (List.range (2 * N)) = List.replicate (2 * N) (.slice none 0 0) := by simp [List.eq_replicate_iff, hd0]
      show _ = List.map hd0 (List.range (2 * N))
      rw [e, hM]
    have hf := h1.flt
    refine ⟨fun q => afoot gA bA none q ∨ FT q ∨ q = w.heap.size ∨ q = w.heap.size + 1, ⟨⟨FT, fun q => q = w.heap.size ∨ q = w.heap.size + 1, h1.below hb, h2.below hb, ⟨⟨none, none, 0, 0, ?_, World.ownsRow_nil _ _ _ _, World.ownsRow_nil _ _ _ _, fun q h => by simp at h, fun q hq => ?_, rfl⟩, ?_, fun i hi => ⟨none, 0, rfl, World.ownsRow_nil _ _ _ _⟩, fun i j q hi hj hij h => by simp [hd0, Value.ownBlock] at h⟩, d1, fun q a b => ?_, fun q a b => ?_, fun q hq => hq⟩, fun q hq => ?_⟩, hb, fun q hq => ?_⟩
    · unfold wcells
      rw [hM]
      exact bW
    · rcases hq with e | e | ⟨i, hi, e⟩ | e | e
      · exact .inr e
      · exact .inl e
      · simp [hd0, Value.ownBlock] at e
      · simp at e
      · simp at e
    · rw [← hmc]; exact bL
    · have := hf q a; omega
    · have := hFT q a; omega
    · rcases hq with hq | hq | hq | hq
      · have := hf q hq; omega
      · have := hFT q hq; omega
      · omega
      · omega
    · rcases hq with hq | hq | hq | hq
      · exact .inl hq
      · exact .inr (.inl hq)
      · exact .inr (.inr (by omega))
      · exact .inr (.inr (by omega))
  have FIN := Lib.hid fin
  clear h1 h2 d1 hFT fin hM
  rcases Nat.eq_zero_or_pos N with h0 | hpos
  · subst h0
    obtain rfl : M = 0 := by omega
    rw [show ((0 : Nat) : Int) = 0 from rfl] at hm1 ⊢
    clear hcl h2N
    go_enter Try.func42, Try.ntmps42
    go_wp2
    all_goals go_ret
    all_goals exact ⟨w.heap.size + 1, w.heap.size, by
      obtain ⟨G, k1, k2, k3⟩ := FIN.out _ rfl
      exact ⟨G, rfl, k1, k2, k3⟩⟩
  · have hpi : (0 : Int) < (N : Int) := by omega
    go_enter Try.func42, Try.ntmps42
    go_wp2
    all_goals go_ret
    all_goals exact ⟨w.heap.size + 1, w.heap.size, by
      obtain ⟨G, k1, k2, k3⟩ := FIN.out _ rfl
      exact ⟨G, rfl, k1, k2, k3⟩⟩

end Go.Proofs.Ytbejjddkndcldaa

namespace Go.Proofs.Ytbejjddkndcldaa
open Go.RowKit
set_option linter.unusedVariables false
set_option linter.unusedSimpArgs false

theorem WM.pushFresh {w : World} {px : Px} {F : Nat → Prop} {N : Nat} {hd : Nat → Value} {s : WS} (h : WM w px F N hd s) : ∃ Af cf, w.cell? ⟨px.gW, 4, none⟩ = some (.slice Af s.fresh.length cf) ∧ w.frozen? ⟨px.gW, 4, none⟩ = false ∧ w.ownsRow 0 3 1 (.slice Af s.fresh.length cf) s.fresh.length (s.fresh.map (Value.int .i64)) ∧
    ∀ (wa w9 : World) (v : Value) (r : Int), Below w.heap.size w wa → wa.grownBy w9 (Value.slice Af s.fresh.length cf).ownBlock → w9.ownsRow 0 3 1 v (s.fresh.length + 1) (s.fresh.map (Value.int .i64) ++ [.int .i64 r]) → (v.ownBlock = (Value.slice Af s.fresh.length cf).ownBlock ∨ v.ownBlock = some wa.heap.size) →
      (w9.cell? ⟨px.gW, 4, none⟩ = some (.slice Af s.fresh.length cf) ∧ w9.frozen? ⟨px.gW, 4, none⟩ = false) ∧ ∃ F', WM (w9.setCell ⟨px.gW, 4, none⟩ v) px F' N (fun j => if j = 2 * N then v else hd j) { s with fresh := s.fresh ++ [r] } ∧ Ft F w (w9.setCell ⟨px.gW, 4, none⟩ v) ∧ NewF F F' w := by
  have hin := h.inF
  obtain ⟨Af, Ah, cf, ch, b1, b2, b3, b4, b5, b6⟩ := h.ex
  refine ⟨Af, cf, by rw [b1.cell]; rfl, b1.frozen 4, b2, fun wa w9 v r hb hg ho hv => ?_⟩
  have hs := hb.size
  have hAF : ∀ q, (Value.slice Af s.fresh.length cf).ownBlock = some q → F q := fun q hq => b5 q (.inr (.inr (.inr (.inl (by rw [← own_map]; exact hq)))))
  have far9 : ∀ x o, (Value.slice Af s.fresh.length cf).ownBlock ≠ some x → w.heap[x]? = some o → w9.heap[x]? = some o := fun x o h1 hxo => by
    have hlt := (Array.getElem?_eq_some_iff.1 hxo).1
    exact (hg.block x (by omega) (fun e => h1 e.symm)).trans ((hb.block x hlt).trans hxo)
  have bW9 : Blk w9 px.gW 79 (wcells px N s Af cf Ah ch) := far9 _ _ (owns_blk_ne b2 b1 (by decide)) b1
  obtain ⟨A', c', rfl, _⟩ := own_slice ho
  have ft9 : Ft F w w9 := (Ft.of_below hb).grown hg fun q hq _ => hAF q hq
  refine ⟨⟨by rw [bW9.cell]; rfl, bW9.frozen 4⟩, fun q => F q ∨ A'.map Addr.block = some q, ⟨⟨A', Ah, c', ch, ?_, ?_, ?_, fun q h1 h2 => ?_, fun q hq => ?_, by simp⟩, ?_, fun k hk => ?_, fun i j q hi hj hij h1 h2 => ?_⟩, ft9.set (fun _ => hin.1) _ _, fun q hq => ?_⟩
  · have e : wcells px N { s with fresh := s.fresh ++ [r] } A' c' Ah ch = (wcells px N s Af cf Ah ch).setIfInBounds 4 (.slice A' (s.fresh.length + 1) c') := by
      simp [wcells]
    rw [e]
    exact bW9.set_ 4 _
  · have : (s.fresh ++ [r]).length = s.fresh.length + 1 := by simp
    show World.ownsRow _ _ _ _ (.slice A' (s.fresh ++ [r]).length c') (s.fresh ++ [r]).length ((s.fresh ++ [r]).map (Value.int .i64))
    rw [this, List.map_append]
    exact owns_stay ho fun q o hq hqo => (Below.heap_setCell w9 _ _ q (fun e => owns_blk_ne ho bW9 (by decide) (by rw [hq]; exact congrArg some e))).trans hqo
  · have b39 := owns_stay b3 (w' := w9) fun q o hq hqo => far9 q o (fun e => b4 q (by rw [← own_map]; exact e) (by rw [← own_map]; exact hq)) hqo
    exact owns_stay b39 fun q o hq hqo => (Below.heap_setCell w9 _ _ q (fun e => owns_blk_ne b39 bW9 (by decide) (by rw [hq]; exact congrArg some e))).trans hqo
  · rcases hv with e | e
    · rw [own_map, own_map, h1] at e
      exact b4 q e.symm h2
    · rw [own_map, h1] at e
      injection e with e
      have := (b3.lt q (by rw [own_map]; exact h2)).2
      omega
  · rcases hq with e | e | ⟨i, hi, e⟩ | e | e
    · exact .inl (b5 q (.inl e))
    · exact .inl (b5 q (.inr (.inl e)))
    · simp only [if_neg (show ¬ i = 2 * N by omega)] at e
      exact .inl (b5 q (.inr (.inr (.inl ⟨i, hi, e⟩))))
    · exact .inr e
    · exact .inl (b5 q (.inr (.inr (.inr (.inr e)))))
  · have e : hdV N (fun j => if j = 2 * N then (Value.slice A' (s.fresh.length + 1) c') else hd j) = hdV N hd := by
      unfold hdV
      congr 1
      refine List.map_congr_left fun j hj => ?_
      rw [List.mem_range] at hj
      rw [if_neg (by omega)]
    rw [e]
    exact (Below.heap_setCell w9 _ _ px.L (h.lists.ne_ b1 (by decide))).trans (far9 _ _ (owns_blk_ne b2 h.lists (by decide)) h.lists)
  · obtain ⟨A, c, e, hr⟩ := h.rows k hk
    have hr9 := owns_stay hr (w' := w9) fun q o hq hqo => far9 q o (fun e => owns_owns_ne hr b2 (by decide) hq e) hqo
    simp only [if_neg (show ¬ k = 2 * N by omega)]
    exact ⟨A, c, e, owns_stay hr9 fun q o hq hqo => (Below.heap_setCell w9 _ _ q (fun e => owns_blk_ne hr9 bW9 (by decide) (by rw [hq]; exact congrArg some e))).trans hqo⟩
  · simp only [if_neg (show ¬ i = 2 * N by omega)] at h1
    simp only [if_neg (show ¬ j = 2 * N by omega)] at h2
    exact h.ne i j q hi hj hij h1 h2
  · rcases hq with hq | hq
    · exact .inl hq
    · rcases hv with e | e
      · exact .inl (hAF q (by rw [← e, own_map]; exact hq))
      · rw [own_map, hq] at e
        injection e with e
        exact .inr (by omega)
section
variable {w : World} {base : Nat} {px : Px} {N : Nat} {G : Nat → Prop} {cs0 cs : List Cl} {t : TS} {s : WS} {hd : Nat → Value} {L0 : List Int}
theorem Ob.pushFresh (h : Ob w base px N G cs t s hd) (hB : base ≤ w.heap.size) : ∃ Af cf, w.cell? ⟨px.gW, 4, none⟩ = some (.slice Af s.fresh.length cf) ∧ w.ownsRow 0 3 1 (.slice Af s.fresh.length cf) s.fresh.length (s.fresh.map (Value.int .i64)) ∧
    ∀ (wa w9 : World) (v : Value) (r : Int), Below w.heap.size w wa → wa.grownBy w9 (Value.slice Af s.fresh.length cf).ownBlock → w9.ownsRow 0 3 1 v (s.fresh.length + 1) (s.fresh.map (Value.int .i64) ++ [.int .i64 r]) → (v.ownBlock = (Value.slice Af s.fresh.length cf).ownBlock ∨ v.ownBlock = some wa.heap.size) →
      (w9.cell? ⟨px.gW, 4, none⟩ = some (.slice Af s.fresh.length cf) ∧ w9.frozen? ⟨px.gW, 4, none⟩ = false) ∧ ∃ G', Ob (w9.setCell ⟨px.gW, 4, none⟩ v) base px N G' cs t { s with fresh := s.fresh ++ [r] } (fun j => if j = 2 * N then v else hd j) ∧ St G G' w (w9.setCell ⟨px.gW, 4, none⟩ v) := by
  obtain ⟨FT, FW, h1, h2, h3, d1, d2, d3, d4⟩ := h.ex
  obtain ⟨Ah, ch, k1, k2, k3, k4⟩ := h3.pushFresh
  refine ⟨Ah, ch, k1, k3, fun wa w9 v r hb hg ho hv => ?_⟩
  obtain ⟨m1, F', m2, m3, m4⟩ := k4 wa w9 v r hb hg ho hv
  exact ⟨m1, h.of_watch h1 h2 d1 d2 d3 d4 hB m2 m3 m4⟩

theorem val_empty {l : Int} (ht : t.recs = []) : valT t.recs l = 0 := by rw [ht]; rfl
set_option maxRecDepth 100000 in
set_option maxHeartbeats 2000000 in
theorem choose_any (h : Ob w base px N G cs t s hd) (hB : base ≤ w.heap.size) (hN : N ≤ 100000) (ht : total cs ≤ 1000000) (hg : t.Good) (he : t.recs = []) {r : Int} {cl : Cl} (hc : at? cs r = some cl) (hl : ∀ x ∈ cl.lits, x ≠ 0 ∧ x.natAbs ≤ N) :
    Calls Try.prog 70 #[.pointer (some ⟨px.gW, 0, none⟩), .int .i64 r] w fun e w' => e = .returned (.int .i64 ((min 2 cl.lits.length : Nat) : Int)) ∧ Ob w' base px N G cs t s hd ∧ St G G w w' := by
  obtain ⟨FW, hw⟩ := h.wm
  have x0 := hw.cells.1.1
  have hr := at?_range hc
  have hsz : cl.size = cl.lits.length + 3 := rfl
  have hlen : cl.lits.length ≤ 1000000 := by omega
  have CL := Lib.hid (lits_at h hc ht)
  have H := Lib.hid h
  have HC := Lib.hid hc
  have HLS := Lib.hid hl
  have HG := Lib.hid hg
  have HE := Lib.hid he
  clear h hw hc hl hg he hr hsz
  go_enter Try.func70, Try.ntmps70
  go_wp2_with fail
  refine CL.out.mono ?_
  rintro e w3 ⟨A', c', rfl, hrow, hb3⟩
  have H3 := Lib.hid (H.out.below hb3)
  have HS3 := Lib.hid (show St G G w w3 from ⟨Ft.of_below hb3, NewF.refl⟩)
  have HRW := Lib.hid hrow
  obtain ⟨n, hn⟩ : ∃ n, cl.lits.length = n := ⟨_, rfl⟩
  rw [hn] at hlen HRW ⊢
  have HNN := Lib.hid hn
  clear hrow hb3 x0 CL hn
  go_wp2_with fail
  go_loopg [5, 15] (n + 1) (fun gk cv iv wr => ∃ (i : Nat), i ≤ n ∧ gk = n - i + 1 ∧ cv = .int .i64 ((min 2 i : Nat) : Int) ∧ iv = .int .i64 i ∧ Hid (Ob wr base px N G cs t s hd) ∧ Hid (St G G w wr) ∧ Hid (wr.ownsRow w.heap.size 3 1 (.slice A' n c') n (cl.lits.map (Value.int .i64))))
  case atStart => exact ⟨0, by omega, by omega, rfl, rfl, H3, HS3, HRW⟩
  case round =>
    obtain ⟨i, hin, rfl, rfl, rfl, H4, HS4, HR4⟩ := hrel
    by_cases hlt : i < n
    · obtain ⟨q, rfl, hq1, hq2⟩ := own_addr HR4.out (by omega)
      have q1 := World.ownsRow.cellAt HR4.out i (by omega)
      have hil : i < cl.lits.length := by have := HNN.out; omega
      have e1 : (cl.lits.map (Value.int .i64))[i]? = some (.int .i64 (cl.lits.getD i 0)) := by simp [List.getD, hil]
      rw [e1] at q1
      obtain ⟨FW4, hw4⟩ := H4.out.wm
      have z4 := hw4.cells.1.2.1
      have z0 := hw4.cells.1.1
      have hx := HLS.out _ (get_mem hil)
      have HIL := Lib.hid hil
      obtain ⟨x, hxx⟩ : ∃ x, cl.lits.getD i 0 = x := ⟨_, rfl⟩
      rw [hxx] at q1 hx
      have HQ := Lib.hid hq1
      have hii : (i : Int) < (n : Int) := by omega
      have hgl := H4.out.size
      by_cases h2 : i < 2
      · have hm : min 2 i = i := by omega
        have hm2 : min 2 (i + 1) = i + 1 := by omega
        have hi2 : (i : Int) < 2 := by omega
        have HM2 := Lib.hid hm2
        have CV := Lib.hid (val_empty (l := x) HE.out ▸ value_any (H4.out.tr HG.out) x (by omega))
        rw [hm]
        clear hw4 hil e1 hxx hx hq1 hm hm2
        go_wp2_with fail
        refine CV.out.mono ?_
        rintro e w5 ⟨rfl, hd5⟩
        have H5 := Lib.hid (H4.out.drewE hd5)
        have HS5 := Lib.hid (HS4.out.drewE hd5)
        have HR5 := Lib.hid (show w5.ownsRow w.heap.size 3 1 (.slice (some ⟨q, 0, none⟩) n c') n (cl.lits.map (Value.int .i64)) by obtain ⟨m, rfl⟩ := hd5; exact HR4.out)
        obtain ⟨FW5, hw5⟩ := H5.out.wm
        have y0 := hw5.cells.1.1
        have CS := Lib.hid (ob_swap H5.out HC.out (by omega) i i HIL.out HIL.out)
        rw [swapOf_self HIL.out, putL_self HC.out] at CS
        clear hd5 CV q1 z4 z0 hw5 H4 HS4 HR4 hgl
        go_wp2_with fail
        refine CS.out.mono ?_
        rintro e w6 ⟨rfl, ho6, hs6⟩
        have H6 := Lib.hid ho6
        have HS6 := Lib.hid (HS5.out.trans hs6)
        have HR6 := Lib.hid (hs6.ft.own HR5.out fun q' hq' e => by
          have h9 := (H.out.bd q' e).2
          injection hq' with hq'
          have h8 : q = q' := hq'
          have h7 := HQ.out
          omega)
        clear ho6 hs6 y0 CS
        go_wp2_with fail
        go_roundg (n - i)
        case measure => omega
        case rel => exact ⟨i + 1, by omega, by omega, by rw [HM2.out]; go_num, by go_num, H6, HS6, HR6⟩
      · have hm : min 2 i = 2 := by omega
        have HM2 := Lib.hid (show min 2 (i + 1) = 2 by omega)
        rw [hm]
        clear hw4 hil e1 hxx hx hq1 hm z4 z0
        go_wp2_with fail
        go_roundg (n - i)
        case measure => omega
        case rel => exact ⟨i + 1, by omega, by omega, by rw [HM2.out], by go_num, H4, HS4, HR4⟩
    · obtain rfl : i = n := by omega
      go_wp2
      go_ret
      exact ⟨by rw [HNN.out]; rfl, H4.out, HS4.out⟩
end

end Go.Proofs.Ytbejjddkndcldaa

namespace Go.Proofs.Ytbejjddkndcldaa
open Go.RowKit
set_option linter.unusedVariables false
set_option linter.unusedSimpArgs false

def WS.attach1 (s : WS) (r : Int) (ls : List Int) : WS := if ls.length < 2 then { s with fresh := s.fresh ++ [r] } else s
def WS.attach2 (s : WS) (r : Int) (ls : List Int) : WS := if ls.length < 1 then s else s.watch (ls.getD 0 0) ⟨r, ls.getD 1 0, 2⟩
def WS.attach3 (s : WS) (r : Int) (ls : List Int) : WS := if ls.length < 2 then s else s.watch (ls.getD 1 0) ⟨r, ls.getD 0 0, 2⟩
def WS.attach (s : WS) (r : Int) (ls : List Int) : WS := ((s.attach1 r ls).attach2 r ls).attach3 r ls
theorem WS.watch_len (s : WS) (x : Int) (m : Mk) (i : Nat) : ((s.watch x m).ms i).length ≤ (s.ms i).length + 1 := by
  unfold WS.watch
  simp only
  split
  · simp
  · omega
section
variable {w : World} {base : Nat} {px : Px} {N : Nat} {G : Nat → Prop} {cs0 cs : List Cl} {t : TS} {s : WS} {hd : Nat → Value} {L0 : List Int}
/-- watch of a literal, or of none -/
theorem watch_opt (h : Ob w base px N G cs t s hd) (hB : base ≤ w.heap.size) (hN : N ≤ 100000) {ls : List Int} {j : Nat} (hl : ∀ x ∈ ls, x ≠ 0 ∧ x.natAbs ≤ N) (hlen : ∀ i, i < 2 * N → (s.ms i).length ≤ 1000000) (m : Mk) :
    Calls Try.prog 72 #[.pointer (some ⟨px.gW, 0, none⟩), .int .i64 (ls.getD j 0), .agg #[.int .i64 m.ref, .int .i64 m.oth, .int .i64 (m.nxt : Nat)]] w fun e w' => e = .returned (.tuple #[]) ∧ ∃ G' hd', Ob w' base px N G' cs t (if ls.length < j + 1 then s else s.watch (ls.getD j 0) m) hd' ∧ St G G' w w' := by
  rcases Nat.lt_or_ge j ls.length with hj | hj
  · have hx := hl _ (get_mem hj)
    rw [if_neg (by omega)]
    exact (watch_any h hB hN hx (hlen _ (idx_lt hx)) m).mono fun e w' ⟨he, G', hd', k1, k2, _⟩ => ⟨he, G', hd', k1, k2⟩
  · rw [if_pos (by omega), show ls.getD j 0 = 0 by rw [List.getD, List.getElem?_eq_none hj]; rfl]
    exact (watch_no h hN _ rfl _ _ _ rfl).mono fun e w' ⟨he, hg⟩ => ⟨he, G, hd, h.gr hg, (St.refl w).gr hg⟩
theorem attach_no (h : Ob w base px N G cs t s hd) {r : Int} (hc : at? cs r = none) (hr : -9223372036854775808 ≤ r ∧ r ≤ 9223372036854775807) :
    Calls Try.prog 39 #[.pointer (some ⟨px.gW, 0, none⟩), .int .i64 r] w fun e w' => e = .returned (.bool false) ∧ Gr w w' := by
  obtain ⟨FW, hw⟩ := h.wm
  have x0 := hw.cells.1.1
  have CH := Lib.hid (has_gr h.ar r hr.1 hr.2)
  rw [hc] at CH
  clear h hw hc hr
  go_enter Try.func39, Try.ntmps39
  go_wp2_with fail
  refine CH.out.mono ?_
  rintro e w1 ⟨rfl, hg⟩
  have HG := Lib.hid hg
  clear hg
  go_wp2
  go_ret
  exact ⟨rfl, HG.out⟩

set_option maxRecDepth 100000 in
set_option maxHeartbeats 4000000 in
theorem attach_any (h : Ob w base px N G cs t s hd) (hB : base ≤ w.heap.size) (hN : N ≤ 100000) (ht : total cs ≤ 1000000) (hg : t.Good) (he : t.recs = []) {r : Int} {cl : Cl} (hc : at? cs r = some cl) (hl : ∀ x ∈ cl.lits, x ≠ 0 ∧ x.natAbs ≤ N) (hms : ∀ i, i < 2 * N → (s.ms i).length ≤ 999990) (hf : s.fresh.length ≤ 1000000) :
    Calls Try.prog 39 #[.pointer (some ⟨px.gW, 0, none⟩), .int .i64 r] w fun e w' => e = .returned (.bool true) ∧ ∃ G' hd', Ob w' base px N G' cs t (s.attach r cl.lits) hd' ∧ St G G' w w' := by
  obtain ⟨FW, hw⟩ := h.wm
  have x0 := hw.cells.1.1
  have hr := at?_range hc
  have hsz : cl.size = cl.lits.length + 3 := rfl
  have CH := Lib.hid (has_gr h.ar r (by omega) (by omega))
  rw [show (at? cs r).isSome = true by rw [hc]; rfl] at CH
  have CC := Lib.hid (fun w' (hg' : Gr w w') => choose_any (h.gr hg') (Nat.le_trans hB hg'.below.size) hN ht hg he hc hl)
  obtain ⟨i0, hi, hz0, hz1, hz2⟩ := info_parts infoI12
  have HZ := Lib.hid (And.intro hi (And.intro hz0 (And.intro hz1 hz2)))
  have HC := Lib.hid hc
  have HL := Lib.hid hl
  have HMS := Lib.hid hms
  obtain ⟨c, hcc⟩ : ∃ c, min 2 cl.lits.length = c := ⟨_, rfl⟩
  rw [hcc] at CC
  have HCC := Lib.hid hcc
  clear h hw hr hsz hi hz0 hz1 hz2 hc hl hms hg he hcc
  go_enter Try.func39, Try.ntmps39
  go_wp2_with fail
  refine CH.out.mono ?_
  rintro e w1 ⟨rfl, hg1⟩
  have HG1 := Lib.hid hg1
  have CC1 := Lib.hid (CC.out w1 hg1)
  clear hg1 CC CH x0
  go_wp2_with fail
  refine CC1.out.mono ?_
  rintro e w2 ⟨rfl, ho2, hs2⟩
  have H2 := Lib.hid ho2
  have HS2 := Lib.hid (((St.refl w).gr HG1.out).trans hs2)
  clear ho2 hs2 CC1 HG1
  go_upto_if 17 with fail
  go_cut [] (fun wx => ∃ G' hd', Hid (Ob wx base px N G' cs t (s.attach1 r cl.lits) hd') ∧ Hid (St G G' w wx))
  case first =>
    by_cases h2 : c < 2
    · have hlt : cl.lits.length < 2 := by have := HCC.out; omega
      obtain ⟨Af, cf, x4, orow, hup⟩ := H2.out.pushFresh (Nat.le_trans hB HS2.out.size)
      have hgl := H2.out.size
      obtain ⟨n, hn⟩ : ∃ n, s.fresh.length = n := ⟨_, rfl⟩
      rw [hn] at x4 orow hup hf
      have HORW := Lib.hid orow
      have HUP := Lib.hid hup
      have HE := Lib.hid (show s.attach1 r cl.lits = { s with fresh := s.fresh ++ [r] } by unfold WS.attach1; rw [if_pos hlt])
      have x4f : w2.frozen? ⟨px.gW, 4, none⟩ = false := by obtain ⟨FW, hw⟩ := H2.out.wm; exact hw.frz 4
      have hci : (c : Int) < 2 := by omega
      have HHF := Lib.hid hf
      clear orow hup hn hlt hf h2
      go_wp2_with (at_builtin; refine wpList_append1 _ rfl _ _ 32 rfl 0 3 i0 (.int .i64 0) 8 Try.underlying32 HZ.out.1 HZ.out.2.1 HZ.out.2.2.1 HZ.out.2.2.2 rfl _ n (s.fresh.map (Value.int .i64)) rfl (own_below HORW.out ((Below.refl _ _).alloc (Nat.le_refl _) _) fun q hq => (HORW.out.lt q hq).2) (.int .i64 r) _ rfl ?_ rfl (by have := HHF.out; unfold maxLen; omega) (by have := HHF.out; omega) (Nat.zero_le _) ?_)
      · simp
      intro v' w9 hown hgr hv
      obtain ⟨A', c', rfl, -⟩ := own_slice hown
      obtain ⟨⟨dC, dF⟩, G3, k1, k2⟩ := HUP.out _ w9 _ r ((Below.refl _ _).alloc (Nat.le_refl _) _) hgr hown (by simpa using hv)
      have HK := Lib.hid (And.intro k1 k2)
      clear hown hgr hv k1 k2 x4 x4f
      go_wp2_with fail
      go_meet
      exact ⟨G3, _, Lib.hid (by rw [HE.out]; exact HK.out.1), Lib.hid (HS2.out.trans HK.out.2)⟩
    · have hlt : ¬ cl.lits.length < 2 := by have := HCC.out; omega
      have HE := Lib.hid (show s.attach1 r cl.lits = s by unfold WS.attach1; rw [if_neg hlt])
      clear hlt
      go_wp2_with fail
      go_meet
      exact ⟨G, hd, Lib.hid (by rw [HE.out]; exact H2.out), HS2⟩
  case rest =>
    obtain ⟨G3, hd3, H3, HS3⟩ := hcut
    obtain ⟨w3, rfl⟩ : ∃ w3, w3 = wc := ⟨_, rfl⟩
    clear H2 HS2
    have h3 := H3.out
    have f0 := fun n os => (h3.cell n os).1
    have C0 := Lib.hid (fun n os => lit_at (h3.gr (grow_gr w3 n os)).ar HC.out (by omega) 0)
    have C1 := Lib.hid (fun n os => lit_at (h3.gr (grow_gr w3 n os)).ar HC.out (by omega) 1)
    have hv0 : (if (0 : Int) < 0 then (0 : Int) else cl.lits.getD (0 : Int).toNat 0) = cl.lits.getD 0 0 := rfl
    have hv1 : (if (1 : Int) < 0 then (0 : Int) else cl.lits.getD (1 : Int).toNat 0) = cl.lits.getD 1 0 := rfl
    rw [hv0] at C0
    rw [hv1] at C1
    have hms3 : ∀ i, i < 2 * N → ((s.attach1 r cl.lits).ms i).length ≤ 999990 := fun i hi => by
      have := HMS.out i hi
      unfold WS.attach1
      split <;> exact this
    have HM3 := Lib.hid hms3
    have CW := Lib.hid (fun w' (hg : Gr w3 w') => watch_opt (h3.gr hg) (Nat.le_trans hB (Nat.le_trans HS3.out.size hg.below.size)) hN (j := 0) HL.out (fun i hi => by have := hms3 i hi; omega) ⟨r, cl.lits.getD 1 0, 2⟩)
    obtain ⟨y0, hy0⟩ : ∃ y, cl.lits.getD 0 0 = y := ⟨_, rfl⟩
    obtain ⟨y1, hy1⟩ : ∃ y, cl.lits.getD 1 0 = y := ⟨_, rfl⟩
    rw [hy0] at C0
    rw [hy1] at C1
    rw [hy0, hy1] at CW
    have HY := Lib.hid (And.intro hy0 hy1)
    clear h3 hv0 hv1 hy0 hy1 hms3
    go_wp2_with fail
    refine wp_region_quiet_grown (by kernel_rfl) (by kernel_rfl) ?_
    repeat (go_big_quiet_step (first
      | (go_at_call 71; with_reducible exact Calls.grown_of (C0.out _ _))
      | (go_at_call 71; with_reducible exact Calls.grown_of (C1.out _ _))))
    refine wpQuiet_nil ?_
    rintro _ ⟨⟨nq, osq⟩, rfl⟩
    have HG4 := Lib.hid (grow_gr w3 nq osq)
    have CW4 := Lib.hid (CW.out _ HG4.out)
    obtain ⟨w4, hw4⟩ : ∃ w4, Go.Sort.grow (w3.drewN nq) osq = w4 := ⟨_, rfl⟩
    rw [hw4] at HG4 CW4 ⊢
    clear hw4 f0 C0 C1 CW
    go_wp2_with fail
    refine CW4.out.mono ?_
    rintro e w5 ⟨rfl, G5, hd5, ho5, hs5⟩
    have CX := Lib.hid (watch_opt ho5 (Nat.le_trans hB (Nat.le_trans HS3.out.size (Nat.le_trans HG4.out.below.size hs5.size))) hN (j := 1) (ls := cl.lits) HL.out (fun i hi => by
      have := HM3.out i hi
      split
      · omega
      · have := WS.watch_len (s.attach1 r cl.lits) y0 ⟨r, y1, 2⟩ i; omega) ⟨r, y0, 2⟩)
    rw [HY.out.2] at CX
    have HS5 := Lib.hid ((HS3.out.gr HG4.out).trans hs5)
    clear ho5 hs5 CW4
    go_wp2_with fail
    refine CX.out.mono ?_
    rintro e w6 ⟨rfl, G6, hd6, ho6, hs6⟩
    have H6 := Lib.hid ho6
    have HS6 := Lib.hid (HS5.out.trans hs6)
    clear ho6 hs6 CX
    go_wp2
    go_ret
    refine ⟨rfl, G6, hd6, ?_, HS6.out⟩
    have := H6.out
    unfold WS.attach WS.attach2 WS.attach3
    rw [HY.out.1, HY.out.2]
    exact this
end

end Go.Proofs.Ytbejjddkndcldaa

namespace Go.Proofs.Ytbejjddkndcldaa
set_option linter.unusedVariables false
set_option linter.unusedSimpArgs false

def clOf (y : List Int) : Cl := ⟨y, false, 0, 0, true⟩
def csOf (yss : List (List Int)) : List Cl := yss.map clOf
theorem csOf_snoc (yss : List (List Int)) (y : List Int) : csOf (yss ++ [y]) = csOf yss ++ [clOf y] := by simp [csOf]
theorem csOf_lits (yss : List (List Int)) : (csOf yss).map Cl.lits = yss := by
  induction yss with
  | nil => rfl
  | cons y r ih => simp only [csOf, List.map_cons] at ih ⊢; rw [ih]; rfl
theorem csOf_alive {yss : List (List Int)} {c : Cl} (h : c ∈ csOf yss) : c.alive = true := by
  obtain ⟨y, _, rfl⟩ := List.mem_map.1 h; rfl
theorem attach_ms (s : WS) (r : Int) (y : List Int) (i : Nat) : (s.attach r y).ms i = s.ms i ++ ((if 1 ≤ y.length ∧ i = (litIndex (y.getD 0 0)).toNat then [⟨r, y.getD 1 0, 2⟩] else []) ++ (if 2 ≤ y.length ∧ i = (litIndex (y.getD 1 0)).toNat then [⟨r, y.getD 0 0, 2⟩] else [])) := by
  unfold WS.attach WS.attach3 WS.attach2 WS.attach1
  generalize y.getD 0 0 = a
  generalize y.getD 1 0 = b
  rcases (by omega : y.length = 0 ∨ y.length = 1 ∨ 2 ≤ y.length) with h | h | h
  · rw [if_pos (by omega), if_pos (by omega), if_pos (by omega), if_neg (by omega), if_neg (by omega)]; simp
  · rw [if_pos (by omega), if_neg (by omega), if_pos (by omega), if_neg (by omega : ¬ (2 ≤ y.length ∧ _))]
    by_cases e : i = (litIndex a).toNat
    · rw [if_pos ⟨by omega, e⟩]; simp [WS.watch, ← e]
    · rw [if_neg (fun x => e x.2)]; simp [WS.watch, e]
  · rw [if_neg (by omega), if_neg (by omega), if_neg (by omega)]
    by_cases e : i = (litIndex a).toNat <;> by_cases e2 : i = (litIndex b).toNat
    · rw [if_pos ⟨by omega, e⟩, if_pos ⟨h, e2⟩]; simp [WS.watch, ← e, ← e2]
    · rw [if_pos ⟨by omega, e⟩, if_neg (fun x => e2 x.2)]; simp [WS.watch, ← e, e2]
    · rw [if_neg (fun x => e x.2), if_pos ⟨h, e2⟩]; simp [WS.watch, e, ← e2]
    · rw [if_neg (fun x => e x.2), if_neg (fun x => e2 x.2)]; simp [WS.watch, e, e2]
theorem attach_rest (s : WS) (r : Int) (y : List Int) : (s.attach r y).fresh = (if y.length < 2 then s.fresh ++ [r] else s.fresh) ∧ (s.attach r y).head = s.head ∧ (s.attach r y).heads = s.heads ∧ (s.attach r y).vis = s.vis := by
  unfold WS.attach WS.attach3 WS.attach2 WS.attach1
  generalize y.getD 0 0 = a
  generalize y.getD 1 0 = b
  rcases (by omega : y.length = 0 ∨ y.length = 1 ∨ 2 ≤ y.length) with h | h | h
  · simp [show y.length < 2 by omega, show y.length < 1 by omega]
  · simp [show y.length < 2 by omega, show ¬ y.length < 1 by omega, WS.watch]
  · simp [show ¬ y.length < 2 by omega, show ¬ y.length < 1 by omega, WS.watch]
section
variable {N : Nat} {cs : List Cl} {t : TS} {s : WS}
theorem PI.empty {N : Nat} (hN : N ≤ 100000) : PI N [] [] (TS.fresh N) WS.zero :=
  ⟨⟨rfl, fun r => .inl ⟨rfl, rfl⟩, fun r c h => (by cases h)⟩, TS.Good.fresh hN, (by simp [TS.fresh]), ⟨fun i _ m hm => (by simp [WS.zero] at hm), fun i _ => (by simp [WS.zero]), fun r cl l h => (by cases h)⟩, fun r cl l h => (by cases h), fun r cl h => (by cases h), fun r hr => (by simp [WS.zero] at hr), (by simp [WS.zero]), (by simp [WS.zero])⟩
theorem PI.attach (h : PI N cs cs t s) (he : t.lits = []) {y : List Int} (hn : y.Nodup) (hl : ∀ x ∈ y, x ≠ 0 ∧ x.natAbs ≤ N) : PI N (cs ++ [clOf y]) (cs ++ [clOf y]) t (s.attach (total cs : Nat) y) := by
  obtain ⟨r1, r2, r3, r4⟩ := attach_rest s (total cs : Nat) y
  have hat : ∀ x, at? (cs ++ [clOf y]) x = if x = total cs then some (clOf y) else at? cs x := fun x => at?_snoc cs (clOf y) rfl x
  have hfar : at? cs (total cs : Nat) = none := at?_far cs _ (Int.le_refl _)
  have old : ∀ {x : Int} {c : Cl}, at? cs x = some c → at? (cs ++ [clOf y]) x = some c := fun {x c} hx => by
    rw [hat, if_neg (fun e => by rw [e, hfar] at hx; cases hx)]; exact hx
  have hib : ∀ x, x ∈ y → litAt (litIndex x).toNat = x ∧ (litIndex x).toNat < 2 * N := fun x hx => by
    have hb := litIndex_bd (l := x) (b := N) (by have := hl x hx; omega) (by have := hl x hx; omega) (hl x hx).1
    exact ⟨by rw [Int.toNat_of_nonneg hb.1, litAt_index], idx_lt (hl x hx)⟩
  refine ⟨⟨rfl, fun x => ?_, fun x c hx => ?_⟩, h.good, h.ph, ⟨fun i hi m hm => ?_, fun i hi => ?_, fun x cl l hx hw => ?_⟩, fun x cl l hx hw hk => ?_, fun x cl hx hlen => ?_, fun x hx => ?_, by rw [r2]; exact h.hd, by rw [r3]; exact h.lev⟩
  · rcases hx : at? (cs ++ [clOf y]) x with _ | c
    · exact .inl ⟨rfl, rfl⟩
    · exact .inr ⟨c, c, rfl, rfl, List.Perm.refl _⟩
  · rw [hat] at hx
    by_cases e : x = total cs
    · rw [if_pos e] at hx
      injection hx with hx
      subst hx
      exact ⟨hn, hl⟩
    · rw [if_neg e] at hx
      exact h.cls.lit x c hx
  · rw [attach_ms] at hm
    rcases List.mem_append.1 hm with hm | hm
    · obtain ⟨cl, q1, q2⟩ := h.lst.mark i hi m hm
      exact ⟨cl, old q1, q2⟩
    · rcases List.mem_append.1 hm with hm | hm
      · split at hm
        · rename_i hc
          rw [List.mem_singleton] at hm
          subst hm
          refine ⟨clOf y, by rw [hat, if_pos rfl], .inl ?_, ?_, Nat.le_refl _, .inl rfl⟩
          · show y[0]? = _
            rw [of_getD (by omega), hc.2, (hib _ (get_mem (by omega))).1]
          · show y.getD 1 0 = 0 ∨ y.getD 1 0 ∈ y
            rcases Nat.lt_or_ge 1 y.length with h1 | h1
            · exact .inr (get_mem h1)
            · exact .inl (by rw [List.getD, List.getElem?_eq_none h1]; rfl)
        · simp at hm
      · split at hm
        · rename_i hc
          rw [List.mem_singleton] at hm
          subst hm
          refine ⟨clOf y, by rw [hat, if_pos rfl], .inr ?_, .inr ?_, Nat.le_refl _, .inl rfl⟩
          · show y[1]? = _
            rw [of_getD (by omega), hc.2, (hib _ (get_mem (by omega))).1]
          · exact get_mem (ls := y) (j := 0) (by omega)
        · simp at hm
  · rw [attach_ms, List.map_append]
    have hfresh : ∀ m ∈ s.ms i, m.ref ≠ (total cs : Nat) := fun m hm e => by
      obtain ⟨cl, q1, _⟩ := h.lst.mark i hi m hm
      rw [e, hfar] at q1
      cases q1
    refine List.nodup_append.2 ⟨h.lst.nd i hi, ?_, fun a ha b hb e => ?_⟩
    · by_cases e1 : 1 ≤ y.length ∧ i = (litIndex (y.getD 0 0)).toNat
      · rw [if_pos e1]
        by_cases e2 : 2 ≤ y.length ∧ i = (litIndex (y.getD 1 0)).toNat
        · exfalso
          have := (hib _ (get_mem (show 0 < y.length by omega))).1
          have h1 := (hib _ (get_mem (show 1 < y.length by omega))).1
          rw [← e1.2] at this
          rw [← e2.2, this] at h1
          have := nodup_get hn (show 0 < y.length by omega) (show 1 < y.length by omega) h1
          omega
        · rw [if_neg e2]; simp
      · rw [if_neg e1]
        split <;> simp
    · obtain ⟨m, hm, rfl⟩ := List.mem_map.1 ha
      obtain ⟨m', hm', e'⟩ := List.mem_map.1 hb
      have : m'.ref = (total cs : Nat) := by
        rcases List.mem_append.1 hm' with hx | hx
        · split at hx
          · rw [List.mem_singleton] at hx; rw [hx]
          · simp at hx
        · split at hx
          · rw [List.mem_singleton] at hx; rw [hx]
          · simp at hx
      exact hfresh m hm (e.trans (e'.symm.trans this))
  · rw [attach_ms]
    rw [hat] at hx
    by_cases e : x = total cs
    · rw [if_pos e] at hx
      injection hx with hx
      subst hx
      rcases hw with hw | hw
      · have hw : y[0]? = some l := hw
        have h0 := (List.getElem?_eq_some_iff.1 hw).1
        refine ⟨⟨(total cs : Nat), y.getD 1 0, 2⟩, ?_, e.symm⟩
        rw [if_pos ⟨by omega, by rw [getD_of hw]⟩]
        simp
      · have hw : y[1]? = some l := hw
        have h0 := (List.getElem?_eq_some_iff.1 hw).1
        refine ⟨⟨(total cs : Nat), y.getD 0 0, 2⟩, ?_, e.symm⟩
        rw [if_pos (show 2 ≤ y.length ∧ _ from ⟨by omega, by rw [getD_of hw]⟩)]
        simp
    · rw [if_neg e] at hx
      obtain ⟨m, q1, q2⟩ := h.lst.all x cl l hx hw
      exact ⟨m, List.mem_append_left _ q1, q2⟩
  · rw [he] at hk
    simp at hk
  · rw [r1]
    rw [hat] at hx
    by_cases e : x = total cs
    · rw [if_pos e] at hx
      injection hx with hx
      subst hx
      have hlen : y.length < 2 := hlen
      rw [if_pos hlen, e]
      exact .inl (by simp)
    · rw [if_neg e] at hx
      rcases h.sh x cl hx hlen with q | q
      · refine .inl ?_
        split
        · exact List.mem_append_left _ q
        · exact q
      · exact .inr q
  · rw [r1] at hx
    have hold : x ∈ s.fresh → ∃ cl, at? (cs ++ [clOf y]) x = some cl := fun q => by
      obtain ⟨cl, q⟩ := h.fre x q
      exact ⟨cl, old q⟩
    split at hx
    · rcases List.mem_append.1 hx with q | q
      · exact hold q
      · rw [List.mem_singleton] at q
        exact ⟨clOf y, by rw [hat, if_pos q]⟩
    · exact hold hx
end

end Go.Proofs.Ytbejjddkndcldaa
