/- The statement on numbers that differ by the whole weight. -/
import Derived.Test.YtjjpgiahifkinaaPicks11
import Derived.Deep.QuietTactic
import Derived.BigQuiet
namespace Go.Proofs.Ytjjpgiahifkinaa
open Go.RowKit
set_option linter.unusedVariables false
set_option linter.unusedSimpArgs false

theorem infoI10 : (Try.prog.info? 3).map (fun i => (i.zero, i.size, i.bytes)) = some (some (.int .i64 0), 1, 8) := by kernel_rfl
theorem run_front11 {P : Program} {t e : TypeId} (ht : P.underlying t = some (.slice e)) (w : World) (hz : (sizeOf e).run P w = .ok 1 w) (b off n c k : Nat) (hk : k ≤ c) : (Instr.slice t (.slice (some ⟨b, off, none⟩) n c) none (some (.int .i64 k)) none).run P w = .ok (.slice (some ⟨b, off, none⟩) k c) w := by
  have h1 : (0 : Int) ≤ (k : Int) := Int.natCast_nonneg _
  have h2 : (k : Int) ≤ (c : Int) := by omega
  simp [Instr.slice, run_underlying ht, Instr.sliceBounds, go_sem, h1, h2, hz, Result.andThen]
theorem whole_none (e : Bool) (a : Option Addr) (cap : Nat) (x0 x1 : Int) (w : World) :
    Calls Try.prog 6 #[.bool e, .slice a 0 cap, .agg #[.int .u64 x0, .int .u64 x1]] w fun v w' => v = .returned (.bool true) ∧ Below w.heap.size w w' := by
  go_enter Try.func6, Try.ntmps6
  go_wp2_with fail
  refine (fit_any _).mono ?_
  rintro v w1 ⟨rfl, hb⟩
  go_wp2
  go_ret
  exact ⟨rfl, ((Below.refl _ _).alloc (Nat.le_refl _) _).trans (hb.mono (by simp))⟩
theorem whole_out (e : Bool) (a : Option Addr) (len cap : Nat) (x0 x1 : Int) (w : World) (h : 100 < len) :
    Calls Try.prog 6 #[.bool e, .slice a len cap, .agg #[.int .u64 x0, .int .u64 x1]] w fun v w' => v = .returned (.bool true) ∧ Below w.heap.size w w' := by
  have hd : ((len : Int) == 0) = false := by simp; omega
  go_enter Try.func6, Try.ntmps6
  go_wp2_with fail
  refine (fit_any _).mono ?_
  rintro v w1 ⟨rfl, hb⟩
  go_wp2
  go_ret
  exact ⟨rfl, ((Below.refl _ _).alloc (Nat.le_refl _) _).trans (hb.mono (by simp))⟩

set_option maxHeartbeats 2000000 in
theorem whole_in (e : Bool) {A : Option Addr} (n c : Nat) {xs : List Int} (x0 x1 : Nat) (h0 : x0 < 2 ^ 64) (w : World) (hn : xs.length = n) (hl : n ≤ 100) (hn0 : 0 < n) (hcn : n ≤ c) (hx : Ints w w.heap.size A xs) :
    Calls Try.prog 6 #[.bool e, .slice A n c, .agg #[.int .u64 x0, .int .u64 x1]] w fun v w' => v = .returned (.bool true) ∧ Below w.heap.size w w' := by
  have HO := Lib.hid (baseN_ok e (x1 % 256))
  have HM := Lib.hid (fun w => made_mod e x1 w)
  obtain ⟨b, hb⟩ : ∃ b, baseN e (x1 % 256) = b := ⟨_, rfl⟩
  rw [hb] at HO HM
  clear hb
  have HNEW := Lib.hid (fun w => new_any HO.out w)
  have hsz31 : ∀ w, (sizeOf 3).run Try.prog w = .ok 1 w := fun w => by
    have h := infoI10
    rcases hi : Try.prog.info? 3 with _ | i
    · rw [hi] at h; simp at h
    · rw [hi] at h
      simp at h
      simp [sizeOf, typeInfo, hi, h.2.1]
  obtain ⟨a0, o0, rfl, ha0, hcc0⟩ := hx (by omega)
  have hsl : ∀ w, (Instr.slice 31 (.slice (some ⟨a0, o0, none⟩) n c) none (some (.int .i64 1)) none).run Try.prog w = .ok (.slice (some ⟨a0, o0, none⟩) 1 c) w := fun w => run_front11 Try.underlying31 w (hsz31 w) a0 o0 n c 1 (by omega)
  have hsl2 : ∀ w, (Instr.sliceAt 31 (.slice (some ⟨a0, o0, none⟩) n c) none (some (.int .i64 1)) none).run Try.prog w = .ok (.slice (some ⟨a0, o0, none⟩) 1 c) w := fun w => by
    exact (run_sliceAt_slice (P := Try.prog) w _ _ _ _ _ (by kernel_rfl)).trans (hsl w)
  have HSL := Lib.hid hsl
  have HSL2 := Lib.hid hsl2
  clear hsz31 hcc0 ha0 hsl hsl2
  have HX := Lib.hid hx
  have HN := Lib.hid hn
  obtain ⟨kd, hkd⟩ : ∃ kd, kindI e = kd := ⟨_, rfl⟩
  rw [hkd] at HM HNEW
  have hd0 : ((n : Int) == 0) = false := by simp; omega
  clear hkd hx hn
  go_enter Try.func6, Try.ntmps6
  go_wp2_with fail
  refine (fit_any _).mono ?_
  rintro v w1 ⟨rfl, hb⟩
  have HB := Lib.hid (((Below.refl w.heap.size w).alloc (Nat.le_refl _) _).trans (hb.mono (by simp)))
  have HP := Lib.hid (Blk.below (Blk.new w 33 #[.int .u64 x0, .int .u64 x1]) hb (by simp))
  have hsz := hb.size
  simp at hsz
  clear hb
  have c1 := HP.out.c1
  have c0 := HP.out.c0
  go_wp2_with fail
  with_reducible refine (HM.out _).mono ?_
  rintro v w2 ⟨rfl, rfl⟩
  go_wp2_with fail
  with_reducible refine (HNEW.out _).mono ?_
  rintro v w2 ⟨g, rfl, hg, ht, hb⟩
  have HT := Lib.hid ht
  have HB2 := Lib.hid (HB.out.trans (hb.mono HB.out.size))
  have HX2 := Lib.hid (Cells.below HX.out HB2.out)
  have hx2 : Ints w2 w2.heap.size (some ⟨a0, o0, none⟩) xs := Cells.more HX2.out HB2.out.size
  have HP2 := Lib.hid (HP.out.below hb (by omega))
  clear c0 c1
  have c0 := HP2.out.c0
  have HTOT := Lib.hid (HN.out ▸ total_any HT.out HO.out (c := c) hx2 (by have := HN.out; omega))
  have hs2 : sumW e b xs ≤ 4503599627370496 := by have := clip_sum HO.out (xs := xs) (by have := HN.out; omega) xs.length; rwa [List.take_of_length_le (Nat.le_refl _)] at this
  have hs1 := HN.out ▸ len_le_sumW e b xs
  have HPA := Lib.hid (fun (q x : Nat) (hx : x < 2 ^ 64) (j : Nat) (hj : Falls e b xs (x % sumW e b xs) j) => HN.out ▸ pick_any (w := w2.drewN q) (Blk.drewN HT.out q) HO.out (c := c) (Cells.drewN hx2 q) (by have := HN.out; omega) (by have := HN.out; omega) x hx hj)
  have hx1 : Ints w2 w2.heap.size (some ⟨a0, o0, none⟩) [xs.getD 0 0] := by
    intro _
    obtain ⟨ab, off, hae, hab, hcc⟩ := hx2 (by have := HN.out; omega)
    obtain ⟨rfl, rfl⟩ : a0 = ab ∧ o0 = off := by simpa using hae
    refine ⟨a0, o0, rfl, hab, fun j hj => ?_⟩
    simp at hj
    subst hj
    exact hcc 0 (by have := HN.out; omega)
  have hf1 : Falls e b [xs.getD 0 0] (x0 % sumW e b [xs.getD 0 0]) 0 := by
    refine ⟨by simp, by simp [sumW], ?_⟩
    rw [List.take_of_length_le (by simp)]
    have := len_le_sumW e b [xs.getD 0 0]
    simp only [List.length_cons, List.length_nil] at this
    exact Nat.mod_lt _ (by omega)
  have HP1 := Lib.hid (fun (q : Nat) => pick_any (w := w2.drewN q) (Blk.drewN HT.out q) HO.out (c := c) (Cells.drewN hx1 q) (by simp) (by simp) x0 h0 hf1)
  have HF0 := Lib.hid (Falls.first (e := e) (b := b) (xs := xs) (by have := HN.out; omega))
  have HFL := Lib.hid (Falls.last (e := e) (b := b) (xs := xs) (by have := HN.out; omega))
  clear ht hb hg HB hx2 hx1 hf1
  obtain ⟨T, hT⟩ : ∃ T, sumW e b xs = T := ⟨_, rfl⟩
  have HTT := Lib.hid hT
  rw [hT] at HTOT hs2 hs1 HPA HFL
  clear hT
  obtain ⟨r, hr⟩ : ∃ r, x0 % T = r := ⟨_, rfl⟩
  have hrl : r < T := by rw [← hr]; exact Nat.mod_lt _ (by omega)
  obtain ⟨j, hj⟩ := Falls.any (e := e) (b := b) (xs := xs) (r := r) (by rw [HTT.out]; exact hrl)
  have hjn : j < n := by have := hj.1; have := HN.out; omega
  have HQ0 := Lib.hid (fun q => HPA.out q r (by omega) j (by rw [Nat.mod_eq_of_lt hrl]; exact hj))
  have HQ1 := Lib.hid (fun q => HPA.out q (r + T) (by omega) j (by rw [Nat.add_mod_right, Nat.mod_eq_of_lt hrl]; exact hj))
  have HQ2 := Lib.hid (fun q => HPA.out q 0 (by omega) 0 (by rw [Nat.zero_mod]; exact HF0.out))
  have HQ3 := Lib.hid (fun q => HPA.out q (T - 1) (by omega) (n - 1) (by rw [Nat.mod_eq_of_lt (by omega)]; have := HFL.out; rwa [HN.out] at this))
  have ec : IntKind.u64.wrap (T : Int) = (T : Int) := by simp [IntKind.wrap, IntKind.signed, IntKind.bits]; omega
  have es : IntKind.u64.wrap ((r : Int) + (T : Int)) = ((r + T : Nat) : Int) := by simp [IntKind.wrap, IntKind.signed, IntKind.bits]; omega
  have em : IntKind.u64.wrap ((T : Int) - 1) = ((T - 1 : Nat) : Int) := by simp [IntKind.wrap, IntKind.signed, IntKind.bits]; omega
  have er : Int.tmod (x0 : Int) (T : Int) = (r : Int) := by rw [← hr]; rfl
  have er2 : (x0 : Int) % (T : Int) = (r : Int) := by rw [← hr]; simp
  have hT0 : ((T : Int) == 0) = false := by simp; omega
  clear hr hj
  go_wp2_with fail
  with_reducible refine HTOT.out.mono ?_
  rintro x w3 ⟨rfl, rfl⟩
  go_wp2
  have hsl := HSL.out
  have hsl2 := HSL2.out
  go_quiet ((go_at_call 15; exact quiet_left (HP1.out _)))
  clear hsl hsl2
  go_wp2_with fail
  with_reducible refine (HQ0.out _).mono ?_
  rintro x w3 ⟨rfl, rfl⟩
  go_wp2_with fail
  rw [show (r : Int) + (T : Int) = ((r + T : Nat) : Int) by omega]
  with_reducible refine (HQ1.out _).mono ?_
  rintro x w3 ⟨rfl, rfl⟩
  go_wp2_with fail
  have h2 := HQ2.out nq
  simp only [Int.cast_ofNat_Int] at h2
  with_reducible refine h2.mono ?_
  rintro x w3 ⟨rfl, rfl⟩
  clear h2
  go_wp2_with fail
  with_reducible refine (HQ3.out _).mono ?_
  rintro x w3 ⟨rfl, rfl⟩
  have e1 : ((n - 1 : Nat) : Int) = (n : Int) - 1 := by omega
  go_wp2
  go_ret
  exact ⟨by simp; try omega, below_drewN HB2.out _⟩

theorem whole_any (e : Bool) (a : Option Addr) (len cap : Nat) (z : Nat → Int) (x0 x1 : Int) (w : World) (h : IsInts .i64 w a len cap z) (h0 : (Lit.int .u64 x0).wf = true) (h1 : (Lit.int .u64 x1).wf = true) :
    Calls Try.prog 6 #[.bool e, .slice a len cap, .agg #[.int .u64 x0, .int .u64 x1]] w fun v w' => v = .returned (.bool true) ∧ Below w.heap.size w w' := by
  rcases Nat.lt_or_ge 100 len with hl | hl
  · exact whole_out e a len cap x0 x1 w hl
  · rcases Nat.eq_zero_or_pos len with rfl | h0'
    · exact whole_none e a cap x0 x1 w
    · obtain ⟨xs, hn, hc, hx, _⟩ := list_of h
      obtain ⟨n0, rfl, h0''⟩ := u64_of h0
      obtain ⟨n1, rfl, h1'⟩ := u64_of h1
      exact whole_in e len cap n0 n1 h0'' w hn hl h0' hc hx
end Go.Proofs.Ytjjpgiahifkinaa
