/- What a fault of the text says: Errno.Error, (*Fault).Error; and errors.Is at an Errno. -/
import Derived.Test.YtomjkfglbdonlaaGreatDoorErrs
import Derived.Test.YtomjkfglbdonlaaGreatDoorTold
namespace Go.Proofs.YtomjkfglbdonlaaGreatDoor
open Go.RowKit Go.Extern.Stop Go.Stop Go.Extern
set_option linter.unusedSimpArgs false
set_option linter.unusedVariables false
set_option linter.unnecessarySimpa false

/-- what an error number says of itself -/
def errnoText (n : Int) : List UInt8 := [101, 114, 114, 111, 114, 32] ++ Lib.itoa n
theorem errnoText_len (n : Int) (h0 : -9223372036854775808 ≤ n) (h1 : n ≤ 9223372036854775807) : (errnoText n).length ≤ 30 := by
  have := Lib.itoa_length_le n h0 h1
  unfold errnoText
  rw [List.length_append]
  simp
  omega

set_option maxHeartbeats 1000000 in
theorem errno_text (n : Int) (w : World) (h0 : -9223372036854775808 ≤ n) (h1 : n ≤ 9223372036854775807) (ht : Tab w) :
    Calls Tryz.prog 14 #[.int .i64 n] w fun e w' => e = .returned (.string ⟨(errnoText n).toArray⟩) ∧ Below w.heap.size w w' := by
  have IT := Lib.hid (itoa_any n w h0 h1 ht)
  have hl := Lib.itoa_length_le n h0 h1
  obtain ⟨r, hr⟩ : ∃ r, r = errnoText n := ⟨_, rfl⟩
  have s0 := str_add (P := Tryz.prog) [101, 114, 114, 111, 114, 32] (Lib.itoa n) r hr (by decide) (by omega)
  rw [← hr]
  clear hr ht
  generalize Lib.itoa n = it at IT s0
  go_enter Tryz.func14, Tryz.ntmps14
  go_wp2_with fail
  refine IT.out.mono ?_
  rintro e w' ⟨rfl, hb⟩
  go_wp2
  go_ret
  exact ⟨rfl, hb⟩

/-- what a fault says: its line and what is wrong -/
def faultText (line n : Int) : List UInt8 := [108, 105, 110, 101, 32] ++ Lib.itoa line ++ [58, 32] ++ errnoText n

set_option maxRecDepth 100000 in
set_option maxHeartbeats 4000000 in
theorem fault_text (g : Nat) (line n : Int) (w : World) (h : Blk w g 38 #[.int .i64 line, .int .i64 n]) (h0 : -9223372036854775808 ≤ n) (h1 : n ≤ 9223372036854775807) (l0 : -9223372036854775808 ≤ line) (l1 : line ≤ 9223372036854775807) (ht : Tab w) (hgt : 2 < w.heap.size) :
    Calls Tryz.prog 12 #[.pointer (some ⟨g, 0, none⟩)] w fun e w' => e = .returned (.string ⟨(faultText line n).toArray⟩) ∧ Below w.heap.size w w' := by
  have hgl := h.lt
  have KE := Lib.hid (show ∀ w2, Below w.heap.size w w2 → w2.cell? ⟨g, 0, none⟩ = some (.int .i64 line) ∧ w2.cell? ⟨g, 1, none⟩ = some (.int .i64 n) from
    fun w2 hb2 => ⟨(h.below hb2 hgl).cell 0, (h.below hb2 hgl).cell 1⟩)
  have TE := Lib.hid (show ∀ w2, Below w.heap.size w w2 → Tab w2 from fun w2 hb2 => ht.below hb2 hgt)
  have HIV := Lib.hid (fun (wx : World) (hx : Tab wx) => itoa_any line wx l0 l1 hx)
  have HTX := Lib.hid (fun (wx : World) (hx : Tab wx) => errno_text n wx h0 h1 hx)
  have hl := Lib.itoa_length_le line l0 l1
  have hl2 := errnoText_len n h0 h1
  obtain ⟨r, hr⟩ : ∃ r, r = faultText line n := ⟨_, rfl⟩
  have hr2 : r = [108, 105, 110, 101, 32] ++ Lib.itoa line ++ [58, 32] ++ errnoText n := hr
  rw [← hr]
  obtain ⟨iv, hiv⟩ : ∃ iv, iv = Lib.itoa line := ⟨_, rfl⟩
  obtain ⟨et, het⟩ : ∃ et, et = errnoText n := ⟨_, rfl⟩
  rw [← hiv] at HIV hl hr2
  rw [← het] at HTX hl2 hr2
  obtain ⟨t1, ht1⟩ : ∃ t, t = [108, 105, 110, 101, 32] ++ iv := ⟨_, rfl⟩
  rw [← ht1] at hr2
  obtain ⟨t2, ht2⟩ : ∃ t, t = t1 ++ [58, 32] := ⟨_, rfl⟩
  rw [← ht2] at hr2
  have e1 : t1.length = iv.length + 5 := by rw [ht1, List.length_append]; show 5 + _ = _; omega
  have e2 : t2.length = t1.length + 2 := by rw [ht2]; simp
  have q1 := str_add (P := Tryz.prog) [108, 105, 110, 101, 32] iv t1 ht1 (by decide) (by omega)
  have q2 := str_add (P := Tryz.prog) t1 [58, 32] t2 ht2 (by omega) (by decide)
  have q3 := str_add (P := Tryz.prog) t2 et r hr2 (by omega) (by omega)
  clear hr hr2 h ht hiv het ht1 ht2 e1 e2 hl hl2
  obtain ⟨c0, c1⟩ := KE.out w (Below.refl _ _)
  go_enter Tryz.func12, Tryz.ntmps12
  go_wp2
  go_cut [2] (fun s w' => s = .string ⟨r.toArray⟩ ∧ Below w.heap.size w w')
  case first =>
    go_region_held3 (fun w' => w'.cell? ⟨g, 0, none⟩ = some (.int .i64 line) ∧ w'.cell? ⟨g, 1, none⟩ = some (.int .i64 n))
      (first | exact KK3.out | exact KK2.out | exact ⟨c0, c1⟩ | go_keep)
      (first
        | (go_at_call 13; refine (HIV.out w.drew (TE.out w.drew (Below.refl _ _).drew)).mono ?_; rintro e w2 ⟨rfl, hb2'⟩; have HB2 := Lib.hid (below_undrew hb2'); have KK2 := Lib.hid (KE.out w2 HB2.out); clear hb2')
        | (go_at_call 14; refine (HTX.out w2 (TE.out w2 HB2.out)).mono ?_; rintro e w3 ⟨rfl, hb3'⟩; have HB3 := Lib.hid (HB2.out.trans (hb3'.mono HB2.out.size)); have KK3 := Lib.hid (KE.out w3 HB3.out); clear hb3'))
    go_wp2_with fail
    go_meet
    exact ⟨rfl, HB3.out⟩
  case rest =>
    obtain ⟨hs3, hbb⟩ := hcut
    subst hs3
    go_wp2
    go_ret
    exact ⟨rfl, hbb⟩

set_option maxHeartbeats 1000000 in
theorem is_errno (n m : Int) (w : World) :
    Calls Tryz.prog 11 #[.iface 26 (.int .i64 n), .iface 26 (.int .i64 m)] w fun e w' => e = .returned (.bool (n == m)) ∧ w = w' := by
  obtain ⟨i, hi, hcmp⟩ := Option.map_eq_some_iff.1 Tryz.eComp
  have h8 := @run_callFunc_extern Tryz.prog 30 _ Extern.ReflectliteType.typeOf Tryz.func30 (by kernel_rfl) (by kernel_rfl) (by kernel_rfl) (by kernel_rfl)
  have tT := Tryz.eTypeOf
  have cT := Tryz.eComparable
  have mR := Tryz.eMethodComparable
  have a4 := Tryz.eNoIs
  have a5 := Tryz.eNoUnwrap
  have a6 := Tryz.eNoUnwraps
  have heq := run_eql_iface_int (P := Tryz.prog) w n m Tryz.underlying30 Tryz.underlying26 hi hcmp
  rcases hb : (n == m) with _ | _
  · rw [hb] at heq
    clear hb
    go_enter Tryz.func11, Tryz.ntmps11
    go_wp2
    refine wp_loop_rounds 1 ?_
    rw [rounds_succ]
    go_wp2
    go_ret
    exact ⟨rfl, rfl⟩
  · rw [hb] at heq
    clear hb
    go_enter Tryz.func11, Tryz.ntmps11
    go_wp2
    refine wp_loop_rounds 1 ?_
    rw [rounds_succ]
    go_wp2
    go_ret
    exact ⟨rfl, rfl⟩
end Go.Proofs.YtomjkfglbdonlaaGreatDoor
