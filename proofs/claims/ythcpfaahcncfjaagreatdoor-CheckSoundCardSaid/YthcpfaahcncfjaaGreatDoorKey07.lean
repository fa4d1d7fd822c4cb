/- What key answers: the text of a clause in normal form. -/
import Derived.Test.YthcpfaahcncfjaaGreatDoorNorm
import Derived.Test.YthcpfaahcncfjaaGreatDoorDratMem
import Derived.Test.YthcpfaahcncfjaaGreatDoorRef07
import Derived.Laws.IdiomStrings
import Derived.Lib.BufferRead
import Derived.Lib.ItoaLen
namespace Go.Proofs.YthcpfaahcncfjaaGreatDoor
open Go.RowKit
set_option linter.unusedVariables false
set_option linter.unusedSimpArgs false

/-- 'string(b)' of bytes that read as a list -/
theorem run_bytes_string7 {w : World} {B : Nat} {A : Option Addr} {bs : List UInt8} (h : Bytes w B A bs) (c : Nat) : (convert 47 9 (.slice A bs.length c)).run Tryz.prog w = .ok (.string ⟨bs.toArray⟩) w := by
  by_cases h0 : 0 < bs.length
  · obtain ⟨b, off, rfl, _, _⟩ := h.at_ h0
    refine run_convert_bytes_back w 47 9 5 ⟨b, off, none⟩ c bs Tryz.underlying47 Tryz.underlying5 Tryz.underlying9 (fun j hj => ?_)
    obtain ⟨b', off', e, _, hc⟩ := h.at_ hj
    injection e with e
    injection e with e1 e2 _
    subst e1 e2
    rw [Lib.add_plain b off j, hc]
    simp [List.getD, hj]
  · have hb : bs = [] := List.eq_nil_of_length_eq_zero (by omega)
    subst hb
    cases A with
    | none => exact Lib.run_convert_nil_bytes w 47 9 5 c Tryz.underlying47 Tryz.underlying5 Tryz.underlying9
    | some a => exact run_convert_bytes_back w 47 9 5 a c [] Tryz.underlying47 Tryz.underlying5 Tryz.underlying9 (fun j hj => absurd hj (by simp))

/-- the library's table of tens is there -/
def Tab7 (w : World) : Prop := Lib.TabIs Tryz.prog w "internal/strconv.uint64pow10" .u64 Lib.pow10Tab
theorem Tab7.same {w w' : World} (h : Tab7 w) (hb : Below w.heap.size w w') : Tab7 w' := Lib.tabBelow_of_tabIs h w' hb

/-- the text of a clause -/
def keyOf (xs : List Int) : List UInt8 := xs.flatMap fun l => Lib.itoa l ++ [32]
theorem keyOf_snoc (xs : List Int) (x : Int) : keyOf (xs ++ [x]) = keyOf xs ++ Lib.itoa x ++ [32] := by simp [keyOf]
theorem keyOf_len : ∀ (xs : List Int), (∀ x, x ∈ xs → -1000000 ≤ x ∧ x ≤ 1000000) → (keyOf xs).length ≤ 22 * xs.length
  | [], _ => by simp [keyOf]
  | x :: xs, h => by
    have h1 := keyOf_len xs fun y hy => h y (by simp [hy])
    have h2 := h x (by simp)
    have h3 := Lib.itoa_length_le x (by omega) (by omega)
    have e : keyOf (x :: xs) = Lib.itoa x ++ [32] ++ keyOf xs := by simp [keyOf]
    rw [e]
    simp only [List.length_append, List.length_cons, List.length_nil]
    omega

theorem infoByte7 : (Tryz.prog.info? 5).map (fun i => (i.zero, i.size, i.bytes)) = some (some (.int .u8 0), 1, 1) := by kernel_rfl
set_option maxRecDepth 100000 in
theorem key_any07 (xs : List Int) (B : Nat) (A : Option Addr) (c : Nat) (w : World) (hn : xs.length ≤ 1000000000) (hb : ∀ x, x ∈ xs → -1000000 ≤ x ∧ x ≤ 1000000) (h : Ints w B A xs) (hB : B ≤ w.heap.size) (ht : Tab7 w) :
    Calls Tryz.prog 58 #[.slice A xs.length c] w fun e w' => e = .returned (.string ⟨(keyOf xs).toArray⟩) ∧ Below w.heap.size w w' := by
  have H := Lib.hid h
  have HB := Lib.hid hb
  have HT := Lib.hid ht
  obtain ⟨i0, hi, hz0, hz1, hz2⟩ := info_parts infoByte7
  clear h hb ht
  go_enter Tryz.func58, Tryz.ntmps58
  go_wp2
  go_loopg [3, 8] (xs.length + 1) (fun gk d i wr => ∃ (j : Nat) (Ad : Option Addr) (cd : Nat) (kb : List UInt8), j ≤ xs.length ∧ gk = xs.length - j + 1 ∧ i = .int .i64 j ∧ d = .slice Ad kb.length cd ∧ Hid (kb = keyOf (xs.take j)) ∧ kb.length ≤ 22 * j ∧
    wr.ownsRow w.heap.size 5 1 (.slice Ad kb.length cd) kb.length (Lib.byteCells kb) ∧ Below w.heap.size w wr)
  case atStart => exact ⟨0, none, 0, [], by omega, by omega, rfl, rfl, Lib.hid rfl, by simp, World.ownsRow_nil _ _ _ _, Below.refl _ _⟩
  case round =>
    obtain ⟨j, Ad, cd, kb, hj, rfl, rfl, rfl, HKB, hkl, hown, hbe⟩ := hrel
    have HOWd := Lib.hid hown
    have HBd := Lib.hid hbe
    have hszd := hbe.size
    clear hown hbe
    by_cases hjl : j < xs.length
    · obtain ⟨b', off', rfl, hb', hcj⟩ := (Cells.below H.out (HBd.out.mono hB)).at_ hjl
      obtain ⟨htj, hmem⟩ := take_snoc7 hjl
      obtain ⟨x1, x2⟩ := HB.out _ hmem
      obtain ⟨x, hx⟩ : ∃ x, x = xs.getD j 0 := ⟨_, rfl⟩
      rw [← hx] at hcj htj x1 x2
      have HTJ := Lib.hid htj
      clear htj hx hmem
      have hil := Lib.itoa_length_le x (by omega) (by omega)
      have HAI := Lib.hid (Tryz.strconv_AppendInt_10 w.heap.size kb.length x (by omega) (by omega) (.slice Ad kb.length cd) (Lib.byteCells kb) wr HOWd.out hszd (by omega) ((Lib.tabBelow_of_tabIs HT.out).on HBd.out))
      have hcv : IntKind.i64.wrap x = x := IntWalk.i64_in _ (by omega)
      go_wp2_with fail
      refine HAI.out.mono ?_
      rintro e w2 ⟨v2, rfl, hown2, hb2, _⟩
      obtain ⟨A2, c2, hv2, _⟩ := own_slice hown2
      subst hv2
      have HO2 := Lib.hid hown2
      have HB2 := Lib.hid (HBd.out.trans hb2)
      have hs2 := HB2.out.size
      obtain ⟨il, hill⟩ : ∃ il, il = Lib.itoa x := ⟨_, rfl⟩
      rw [← hill] at HO2 hil
      rw [← hill]
      have HIL := Lib.hid hill
      clear hown2 hb2 HAI hill
      go_wp2_with (at_builtin; refine wpList_append1 _ rfl _ _ 47 rfl w.heap.size 5 i0 (.int .u8 0) 1 Tryz.underlying47 hi hz0 hz1 hz2 rfl _ (kb.length + il.length) _ rfl (HO2.out.alloc _) (.int .u8 32) w2.heap.size rfl (by go_cell) rfl (by unfold maxLen; omega) (by omega) (by simp; omega) ?_)
      intro v' w3 hown3 hg3 hob3
      obtain ⟨A3, c3, hv3, _⟩ := own_slice hown3
      subst hv3
      have HO3 := Lib.hid hown3
      have HB3 := Lib.hid ((HB2.out.alloc (by omega) _).grown hg3 (by simp; omega) (fun g hg => (HO2.out.lt g hg).1))
      clear hown3 hg3 hob3
      go_wp2
      go_roundg (xs.length - j)
      case measure => omega
      case rel =>
        have e : (kb ++ il ++ [32]).length = kb.length + il.length + 1 := by simp; omega
        refine ⟨j + 1, A3, c3, kb ++ il ++ [32], by omega, by omega, by go_num, by rw [e], Lib.hid (by rw [HTJ.out, keyOf_snoc, HKB.out, HIL.out]), by rw [e]; omega, ?_, HB3.out⟩
        rw [e, byteCells_append, byteCells_append, List.append_assoc]
        exact HO3.out
    · obtain rfl : j = xs.length := by omega
      have hKE := run_bytes_string7 (bytes_of_own HOWd.out) cd
      go_wp2
      go_ret
      have hk := HKB.out
      rw [List.take_length] at hk
      exact ⟨by rw [← hk]; rfl, HBd.out⟩
end Go.Proofs.YthcpfaahcncfjaaGreatDoor
