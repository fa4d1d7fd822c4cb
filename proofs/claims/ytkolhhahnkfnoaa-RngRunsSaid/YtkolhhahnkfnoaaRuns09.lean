/- The statement on all that is drawn from a stream. -/
import Derived.Test.YtkolhhahnkfnoaaBelow09
namespace Go.Proofs.Ytkolhhahnkfnoaa
open Go.RowKit
set_option linter.unusedVariables false
set_option linter.unusedSimpArgs false

theorem drop_next (ws : List Nat) (k : Nat) (h : k < ws.length) (last : Nat) : nextOf (ws.drop k) last = ws.getD k 0 ∧ lastOf (ws.drop k) last = last := by
  have h0 : ws.drop k ≠ [] := by simp; omega
  refine ⟨?_, by unfold lastOf; rw [if_neg h0]⟩
  unfold nextOf
  rw [if_neg h0, List.headD_eq_head?_getD, List.head?_drop]
  simp [List.getD]
theorem drop_none (ws : List Nat) (k : Nat) (h : ¬ k < ws.length) (last : Nat) : nextOf (ws.drop k) last = stepN last ∧ lastOf (ws.drop k) last = stepN last := by
  have h0 : ws.drop k = [] := List.drop_eq_nil_of_le (by omega)
  rw [h0]; exact ⟨rfl, rfl⟩

set_option maxHeartbeats 2000000 in
/-- the law's own stream -/
theorem gen_any {w : World} {bk bw bx B c k x : Nat} {A : Option Addr} {ws : List Nat} (hk : Blk w bk 3 #[.int .i64 k]) (hw : Blk w bw 22 #[.slice A ws.length c]) (hx : Blk w bx 23 #[.int .u64 x]) (h : Words w B A c ws)
    (h1 : B ≤ bw) (h2 : bw < bx) (h3 : bx < bk) (hxl : x < 2 ^ 64) (hkl : k ≤ 1000000) :
    Calls Try.prog 9 #[.pointer (some ⟨bk, 0, none⟩), .pointer (some ⟨bw, 0, none⟩), .pointer (some ⟨bx, 0, none⟩)] w fun e w' => e = .returned (.int .u64 (nextOf (ws.drop k) x)) ∧
      Blk w' bk 3 #[.int .i64 ((k + 1 : Nat) : Int)] ∧ Blk w' bx 23 #[.int .u64 (lastOf (ws.drop k) x)] ∧ Below bx w w' := by
  have k0 := hk.cell 0
  have w0 := hw.cell 0
  have x0 := hx.cell 0
  have kf := hk.frozen 0
  have xf := hx.frozen 0
  simp at k0 w0 x0 kf xf
  have ks : Blk (w.setCell ⟨bk, 0, none⟩ (.int .i64 ((k : Int) + 1))) bk 3 #[.int .i64 ((k + 1 : Nat) : Int)] := by simpa using hk.set_ 0 (.int .i64 ((k : Int) + 1))
  have xs : Blk (w.setCell ⟨bk, 0, none⟩ (.int .i64 ((k : Int) + 1))) bx 23 #[.int .u64 x] := hx.far (by simp; omega) _
  have KS := Lib.hid ks
  have XS := Lib.hid xs
  have HKB := Lib.hid hk
  have hsm := h.2.2.2
  have hbb := Lib.hid (show Below bx w (w.setCell ⟨bk, 0, none⟩ (.int .i64 ((k : Int) + 1))) from (Below.refl _ _).setCell (by simp; omega) _)
  by_cases hlt : k < ws.length
  · obtain ⟨e1, e2⟩ := drop_next ws k hlt x
    rw [e1, e2]
    obtain ⟨b, off, rfl, hb, hc⟩ := Cells.at_ h.1 (k := k) (by simpa using hlt)
    rw [getD_map9] at hc
    obtain ⟨v, hv⟩ : ∃ v, ws.getD k 0 = v := ⟨_, rfl⟩
    rw [hv] at hc ⊢
    clear e1 e2 hv ks xs hk hw hx h
    go_enter Try.func9, Try.ntmps9
    go_wp2
    go_ret
    exact ⟨rfl, KS.out, XS.out, hbb.out⟩
  · obtain ⟨e1, e2⟩ := drop_none ws k hlt x
    rw [e1, e2]
    have HS := Lib.hid (fun w => lawstep_any x hxl w)
    clear e1 e2 ks xs hk hw hx h hxl
    go_enter Try.func9, Try.ntmps9
    go_wp2_with fail
    refine (HS.out _).mono ?_
    rintro e w' ⟨rfl, n, rfl⟩
    go_wp2
    go_ret
    refine ⟨rfl, ?_, ?_, ?_⟩
    · exact Blk.far (KS.out.drewN n) (by simp; omega) _
    · simpa using (XS.out.drewN n).set_ 0 (.int .u64 (stepN x))
    · exact (below_drewN hbb.out n).setCell (by simp) _
end Go.Proofs.Ytkolhhahnkfnoaa
