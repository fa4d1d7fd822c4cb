/- slices.DeleteFunc of clauses, by a closure that turns the world. -/
import Derived.Test.YthcpfaahcncfjaaGreatDoorExam07
import Derived.Lib.SliceRun
namespace Go.Proofs.YthcpfaahcncfjaaGreatDoor
open Go.RowKit
set_option linter.unusedVariables false
set_option linter.unusedSimpArgs false

theorem own_prefix {w : World} {base e g n c k : Nat} {xs : List Value} (h : w.ownsRow base e 1 (.slice (some ⟨g, 0, none⟩) n c) n xs) (hk : k ≤ n) : w.ownsRow base e 1 (.slice (some ⟨g, 0, none⟩) k c) k (xs.take k) := by
  have hl := h.1
  refine ⟨by rw [List.length_take]; omega, ?_⟩
  rcases h.2 with ⟨hv, _⟩ | ⟨g', cap', cur, hv, hb', hg', hnc, hmx, hcs, htk⟩
  · cases hv
  · injection hv with hA _ hC
    injection hA with hA
    injection hA with hA
    subst hA hC
    exact .inr ⟨g, c, cur, rfl, hb', hg', by omega, hmx, hcs, by rw [← htk, List.take_take]; congr 1; omega⟩
theorem own_setCells {base e g n c : Nat} : ∀ (vs : List Value) (o : Nat) (w : World) (xs : List Value), w.ownsRow base e 1 (.slice (some ⟨g, 0, none⟩) n c) n xs →
    ∃ xs', (w.setCells g o vs).ownsRow base e 1 (.slice (some ⟨g, 0, none⟩) n c) n xs' ∧ xs'.take o = xs.take o ∧ w.grownBy (w.setCells g o vs) (some g)
  | [], o, w, xs, h => ⟨xs, h, rfl, ⟨rfl, rfl, rfl, Nat.le_refl _, fun _ _ _ => rfl⟩⟩
  | v :: vs, o, w, xs, h => by
    obtain ⟨xs', h1, h2, h3⟩ := own_setCells vs (o + 1) (w.setCell ⟨g, o, none⟩ v) (xs.set o v) (own_putv h o v)
    refine ⟨xs', h1, ?_, ?_⟩
    · have e1 : xs'.take o = (xs'.take (o + 1)).take o := by rw [List.take_take]; congr 1; omega
      rw [e1, h2, List.take_take, Nat.min_eq_left (by omega)]
      rw [List.take_set_of_le (Nat.le_refl o)]
    · have h4 := grown_setCell w ⟨g, o, none⟩ v
      exact ⟨h3.os.trans h4.os, h3.tape.trans h4.tape, h3.output.trans h4.output, Nat.le_trans h4.size h3.size, fun i hi hne => (h3.block i (Nat.lt_of_lt_of_le hi h4.size) hne).trans (h4.block i hi hne)⟩

/-- what is known while a row of clauses is gone through: so many are through, these were kept, the row reads so -/
structure DelInv (base gb n c g : Nat) (lb : Array Value) (ps0 : List Nat) (Inv : Nat → List Nat → List Nat → World → Prop) : Prop where
  own : ∀ {k kept L W}, Inv k kept L W → W.ownsRow base 121 1 (.slice (some ⟨gb, 0, none⟩) n c) n (ptrs7 L)
  call : ∀ {k kept L W}, Inv k kept L W → k < n → Calls Tryz.prog g (#[.pointer (some ⟨ps0.getD k 0, 0, none⟩)] ++ lb) W fun e W' => ∃ r : Bool, e = .returned (.bool r) ∧ Inv (k + 1) (if r then kept else kept ++ [ps0.getD k 0]) L W'
  put : ∀ {k kept L W} (j v : Nat), Inv k kept L W → j < n → Inv k kept (L.set j v) (W.setCell ⟨gb, j, none⟩ (.pointer (some ⟨v, 0, none⟩)))
section
variable {base gb n c g : Nat} {lb : Array Value} {ps0 : List Nat} {Inv : Nat → List Nat → List Nat → World → Prop}
theorem DelInv.len (h : DelInv base gb n c g lb ps0 Inv) {k : Nat} {kept L : List Nat} {W : World} (hi : Inv k kept L W) : L.length = n := by have := (h.own hi).1; rw [ptrs7_len] at this; omega
theorem DelInv.cell (h : DelInv base gb n c g lb ps0 Inv) {k : Nat} {kept L : List Nat} {W : World} (hi : Inv k kept L W) {j : Nat} (hj : j < n) : W.cell? ⟨gb, j, none⟩ = some (.pointer (some ⟨L.getD j 0, 0, none⟩)) ∧ W.frozen? ⟨gb, j, none⟩ = false := by
  have hl := h.len hi
  obtain ⟨Y, hY⟩ := own_blk7 (h.own hi)
  refine ⟨?_, hY.frozen j⟩
  rw [World.ownsRow.cellAt (h.own hi) j (by omega)]
  simp [ptrs7, List.getD, show j < L.length by omega]
set_option maxRecDepth 100000 in
theorem indexfunc_any7 (h : DelInv base gb n c g lb ps0 Inv) (hn : n ≤ 1000000000) (hl : ps0.length = n) (W : World) (h0 : Inv 0 [] ps0 W) (eg : ∀ args w, (callFunc g args).run Tryz.prog w = .ok (.enter g args) w) :
    Calls Tryz.prog 96 #[.slice (some ⟨gb, 0, none⟩) n c, .func (.func g) #[] lb] W fun e W' =>
      (e = .returned (.int .i64 (-1)) ∧ Inv n ps0 ps0 W') ∨ ∃ i : Nat, e = .returned (.int .i64 i) ∧ i < n ∧ Inv (i + 1) (ps0.take i) ps0 W' := by
  have H := Lib.hid h
  have H0 := Lib.hid h0
  clear h h0
  go_enter Tryz.func96, Tryz.ntmps96
  go_wp2
  go_loopg [8] (n + 1) (fun gk i wr => ∃ k : Nat, k ≤ n ∧ gk = n - k + 1 ∧ i = .int .i64 k ∧ Hid (Inv k (ps0.take k) ps0 wr))
  case atStart => exact ⟨0, by omega, by omega, rfl, Lib.hid (by simpa using H0.out)⟩
  case round =>
    obtain ⟨k, hk, rfl, rfl, HI⟩ := hrel
    by_cases hlt : k < n
    · obtain ⟨hc, _⟩ := H.out.cell HI.out hlt
      have HC := Lib.hid (H.out.call HI.out hlt)
      obtain ⟨q, hq⟩ : ∃ q, q = ps0.getD k 0 := ⟨_, rfl⟩
      have htk : ps0.take (k + 1) = ps0.take k ++ [ps0.getD k 0] := by rw [List.take_succ_eq_append_getElem (by omega)]; simp [List.getD, show k < ps0.length by omega]
      rw [← hq] at hc HC htk
      have HTK := Lib.hid htk
      clear hq htk
      go_wp2_with fail
      refine HC.out.mono ?_
      rintro e w2 ⟨r, rfl, hI⟩
      have HI2 := Lib.hid hI
      clear hI HC
      cases r with
      | true =>
        go_wp2
        go_ret
        exact .inr ⟨k, rfl, hlt, HI2.out⟩
      | false =>
        go_wp2
        go_roundg (n - k)
        case measure => omega
        case rel => exact ⟨k + 1, by omega, by omega, by go_num, Lib.hid (by rw [HTK.out]; exact HI2.out)⟩
    · obtain rfl : k = n := by omega
      have hf : ps0.take k = ps0 := List.take_of_length_le (by omega)
      rw [hf] at HI
      go_wp2
      go_ret
      exact .inl ⟨rfl, HI.out⟩
/-- what DeleteFunc leaves: the row cut to what was kept; behind the last turn of the world only this row is written -/
def Deleted (base gb n c : Nat) (Inv : Nat → List Nat → List Nat → World → Prop) (e : Ending) (W' : World) : Prop :=
  ∃ (kept L : List Nat) (W1 : World), Inv n kept L W1 ∧ kept.length ≤ n ∧ e = .returned (.slice (some ⟨gb, 0, none⟩) kept.length c) ∧ W1.grownBy W' (some gb) ∧ W'.ownsRow base 121 1 (.slice (some ⟨gb, 0, none⟩) kept.length c) kept.length (ptrs7 kept)
set_option maxRecDepth 100000 in
set_option maxHeartbeats 1000000 in
theorem deletefunc_any7 (h : DelInv base gb n c g lb ps0 Inv) (hn : n ≤ 1000000000) (hl : ps0.length = n) (W : World) (h0 : Inv 0 [] ps0 W) (eg : ∀ args w, (callFunc g args).run Tryz.prog w = .ok (.enter g args) w) :
    Calls Tryz.prog 86 #[.slice (some ⟨gb, 0, none⟩) n c, .func (.func g) #[] lb] W (Deleted base gb n c Inv) := by
  have H := Lib.hid h
  have HX := Lib.hid (indexfunc_any7 h hn hl W h0 eg)
  clear h h0
  go_enter Tryz.func86, Tryz.ntmps86
  go_wp2_with fail
  refine HX.out.mono ?_
  rintro e w1 (⟨rfl, hI⟩ | ⟨i, rfl, hi, hI⟩)
  · have HI := Lib.hid hI
    have HOW := Lib.hid (H.out.own hI)
    clear hI HX
    go_wp2
    go_ret
    refine ⟨ps0, ps0, w1, HI.out, by omega, by rw [hl]; rfl, ⟨rfl, rfl, rfl, Nat.le_refl _, fun _ _ _ => rfl⟩, by rw [hl]; exact HOW.out⟩
  · have HI := Lib.hid hI
    have hq0 : ((i : Int) == -1) = false := by simp
    clear hI HX
    go_wp2
    go_loopg [5, 6] (n - i) (fun gk vi vj wr => ∃ (a j : Nat) (kept L : List Nat), j ≤ n ∧ a < j ∧ gk = n - j + 1 ∧ vi = .int .i64 a ∧ vj = .int .i64 j ∧ Hid (Inv j kept L wr) ∧ kept.length = a ∧ Hid (L.take a = kept) ∧ Hid (∀ q, j ≤ q → L.getD q 0 = ps0.getD q 0))
    case atStart => exact ⟨i, i + 1, ps0.take i, ps0, by omega, by omega, by omega, rfl, by go_num, HI, by simp; omega, Lib.hid rfl, Lib.hid fun _ _ => rfl⟩
    case round =>
      obtain ⟨a, j, kept, L, hj, haj, rfl, rfl, rfl, HI2, hka, HT, HQ⟩ := hrel
      have hLn := H.out.len HI2.out
      by_cases hlt : j < n
      · obtain ⟨hc, _⟩ := H.out.cell HI2.out hlt
        rw [HQ.out j (Nat.le_refl _)] at hc
        have HC := Lib.hid (H.out.call HI2.out hlt)
        obtain ⟨q, hq⟩ : ∃ q, q = ps0.getD j 0 := ⟨_, rfl⟩
        rw [← hq] at hc HC
        clear hq
        go_wp2_with fail
        refine HC.out.mono ?_
        rintro e w2 ⟨r, rfl, hI3⟩
        have HI3 := Lib.hid hI3
        clear hI3 HC
        cases r with
        | true =>
          go_wp2
          go_roundg (n - j)
          case measure => omega
          case rel => exact ⟨a, j + 1, kept, L, by omega, by omega, by omega, rfl, by go_num, HI3, hka, HT, Lib.hid fun q hq => HQ.out q (by omega)⟩
        | false =>
          obtain ⟨hca, hcf⟩ := H.out.cell HI3.out (show a < n by omega)
          have HPUT := Lib.hid (H.out.put a q HI3.out (by omega))
          have han : (a : Int) < (n : Int) := by omega
          go_wp2
          go_roundg (n - j)
          case measure => omega
          case rel =>
            refine ⟨a + 1, j + 1, kept ++ [q], L.set a q, by omega, by omega, by omega, by go_num, by go_num, HPUT, by simp; omega, Lib.hid ?_, Lib.hid fun z hz => ?_⟩
            · rw [List.take_succ_eq_append_getElem (by rw [List.length_set]; omega), List.take_set_of_le (Nat.le_refl a), HT.out]
              simp
            · rw [getD_set_other (show a ≠ z by omega)]; exact HQ.out z (by omega)
      · obtain rfl : j = n := by omega
        have hown := H.out.own HI2.out
        obtain ⟨xs', x1, x2, x3⟩ := own_setCells (List.replicate (j - a) (.pointer none)) a wr _ hown
        have hpre := own_prefix x1 (show a ≤ j by omega)
        have hkp : xs'.take a = ptrs7 kept := by rw [x2, ← HT.out]; simp [ptrs7, List.map_take]
        rw [hkp] at hpre
        have hcl := fun (ty : TypeId) => Lib.run_clear_slice (P := Tryz.prog) wr 113 121 ty (.pointer none) Tryz.underlying113 (fun w => by kernel_rfl) rfl rfl gb a (j - a) (c - a) (by omega) (fun z hz => by rw [(H.out.cell HI2.out (show a + z < j by omega)).1]; rfl) (fun z hz => (H.out.cell HI2.out (show a + z < j by omega)).2)
        have HPRE := Lib.hid hpre
        have HX3 := Lib.hid x3
        have hjc : j ≤ c := by
          obtain ⟨A', c', e, hc', _⟩ := own_slice hown
          injection e with _ _ e3
          omega
        have h1 : (a : Int) ≤ (j : Int) := by omega
        have h2 : (a : Int) ≤ (c : Int) := by omega
        have h3 : ¬ c = a := by omega
        clear hown x1 x2 x3 hpre hkp
        go_wp2
        go_ret
        exact ⟨kept, L, wr, HI2.out, by omega, by rw [hka]; rfl, HX3.out, by rw [hka]; exact HPRE.out⟩
end
end Go.Proofs.YthcpfaahcncfjaaGreatDoor
