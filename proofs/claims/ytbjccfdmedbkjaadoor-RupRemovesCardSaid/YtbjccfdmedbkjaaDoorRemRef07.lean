/- The document's own Remove. Remove, as its callers know it; rows of one's own beside a store. -/
import Derived.Test.YtbjccfdmedbkjaaDoorUse07
import Derived.Test.YtbjccfdmedbkjaaDoorRemove07
namespace Go.Proofs.YtbjccfdmedbkjaaDoor
open Go.RowKit
set_option linter.unusedVariables false
set_option linter.unusedSimpArgs false

theorem infoRow8 : (Tryd.prog.info? 34).map (fun i => (i.zero, i.size, i.bytes)) = some (some (.slice none 0 0), 1, 24) := by kernel_rfl
/-- rows that read, by their headers -/
def Own8 (w : World) (B Bi : Nat) (A : Option Addr) (c : Nat) (f : Nat → Value) (os : List (List Int)) : Prop :=
  Cells w B A os.length f ∧ os.length ≤ c ∧ ∀ j, j < os.length → ∃ Aj cj, f j = .slice Aj (os.getD j []).length cj ∧ Ints w Bi Aj (os.getD j [])
theorem Own8.below {w w' : World} {B Bi c : Nat} {A : Option Addr} {f : Nat → Value} {os : List (List Int)} (h : Own8 w B Bi A c f os) (hb : Below B w w') (hi : Bi ≤ B) : Own8 w' B Bi A c f os :=
  ⟨Cells.below h.1 hb, h.2.1, fun j hj => by obtain ⟨Aj, cj, e, hi'⟩ := h.2.2 j hj; exact ⟨Aj, cj, e, Cells.below hi' (hb.mono hi)⟩⟩
theorem Own8.more {w : World} {B B' Bi c : Nat} {A : Option Addr} {f : Nat → Value} {os : List (List Int)} (h : Own8 w B Bi A c f os) (hb : B ≤ B') : Own8 w B' Bi A c f os :=
  ⟨Cells.more h.1 hb, h.2.1, h.2.2⟩
/-- is it the same clause? -/
def sameN (M d : List Int) : Bool := decide (normOf d = normOf M)
theorem sameN_iff {M d : List Int} : sameN M d = true ↔ SameL d M := by
  unfold sameN SameL
  rw [decide_eq_true_eq, norm_eq_iff]
theorem erase_at {M : List Int} {os : List (List Int)} {k : Nat} (hk : k < os.length) (h1 : ∀ d, d ∈ os.take k → sameN M d = false) (h2 : sameN M (os.getD k []) = true) : os.eraseP (sameN M) = os.take k ++ os.drop (k + 1) := by
  have e : os = os.take k ++ os.getD k [] :: os.drop (k + 1) := by
    rw [show os.getD k [] = os[k] by simp [List.getD, hk], ← List.drop_eq_getElem_cons hk, List.take_append_drop]
  have : (os.take k ++ os.getD k [] :: os.drop (k + 1)).eraseP (sameN M) = os.take k ++ os.drop (k + 1) := by
    rw [List.eraseP_append_right _ (fun d hd => by simp [h1 d hd]), List.eraseP_cons_of_pos h2]
  rw [← e] at this
  exact this
/-- what Remove answers: the rows handed in, or rows of one's own -/
def RemRef (os : List (List Int)) (M : List Int) (Bi : Nat) (A : Option Addr) (c : Nat) (f : Nat → Value) (w : World) (e : Ending) (w' : World) : Prop :=
  ∃ (A2 : Option Addr) (c2 : Nat) (f2 : Nat → Value), e = .returned (.tuple #[.slice A2 (os.eraseP (sameN M)).length c2, .bool (os.any (sameN M))]) ∧ Own8 w' w'.heap.size Bi A2 c2 f2 (os.eraseP (sameN M)) ∧ Below w.heap.size w w' ∧
    ((A2 = A ∧ c2 = c ∧ f2 = f ∧ w' = w ∧ os.eraseP (sameN M) = os) ∨ ∃ hs : List Value, w'.ownsRow w.heap.size 34 1 (.slice A2 (os.eraseP (sameN M)).length c2) (os.eraseP (sameN M)).length hs ∧ f2 = fun j => hs.getD j undef)
set_option linter.unusedSimpArgs false
theorem run_front7 {P : Program} {t e : TypeId} (ht : P.underlying t = some (.slice e)) (w : World) (hz : (sizeOf e).run P w = .ok 1 w) (b off n c k : Nat) (hk : k ≤ c) : (Instr.slice t (.slice (some ⟨b, off, none⟩) n c) none (some (.int .i64 k)) none).run P w = .ok (.slice (some ⟨b, off, none⟩) k c) w := by
  have h1 : (0 : Int) ≤ (k : Int) := Int.natCast_nonneg _
  have h2 : (k : Int) ≤ (c : Int) := by omega
  simp [Instr.slice, run_underlying ht, Instr.sliceBounds, go_sem, h1, h2, hz, Result.andThen]
theorem run_back7 {P : Program} {t e : TypeId} (ht : P.underlying t = some (.slice e)) (w : World) (hz : (sizeOf e).run P w = .ok 1 w) (b off n c k : Nat) (hk : k ≤ n) (hn : n ≤ c) : (Instr.slice t (.slice (some ⟨b, off, none⟩) n c) (some (.int .i64 k)) none none).run P w = .ok (.slice (if c = k then some ⟨b, off, none⟩ else some ⟨b, off + k, none⟩) (n - k) (c - k)) w := by
  have h1 : (0 : Int) ≤ (k : Int) := Int.natCast_nonneg _
  have h2 : (k : Int) ≤ (n : Int) := by omega
  have h3 : (n : Int) ≤ (c : Int) := by omega
  simp [Instr.slice, run_underlying ht, Instr.sliceBounds, go_sem, h1, h2, h3, hk, hn, hz, Result.andThen]
theorem wpList_slice7 {P : Program} {ops : Array Oper} {rest : List Oper} {o : Oper} {a : Act} {Q : Exit → Act → World → Prop} {w : World} (hg : o.guard = none) (t : TypeId) (x : Operand) (lo hi mx : Option Operand) (hop : o.op = Op.slice t x lo hi mx)
    (v r : Value) (hx : a.eval x = v) (lo' hi' mx' : Option Value) (hlo : lo.map a.eval = lo') (hhi : hi.map a.eval = hi') (hmx : mx.map a.eval = mx') (hrun : (Instr.slice t v lo' hi' mx').run P w = .ok r w) (hund : P.underlying t = some (.slice (P.elem t))) (hK : wpList P ops Q rest (a.put o.dst r) w) : wpList P ops Q (o :: rest) a w := by
  refine wpList_plain hg fun K' hK' => ?_
  subst hlo hhi hmx
  unfold Oper.wp
  simp [execOp, hop, hx, hrun, run_sliceAt_slice, hund, Result.andThen]
  exact hK' _ _ hK
theorem heads_at {f : Nat → Value} {k n j : Nat} (hk : k < n) (hj : j < n - 1) : ((List.range k).map f ++ (List.range (n - (k + 1))).map (fun i => f (k + 1 + i))).getD j undef = f (if j < k then j else j + 1) := by
  by_cases h : j < k
  · rw [if_pos h]
    simp [List.getD, List.getElem?_append_left, h]
  · rw [if_neg h]
    simp only [List.getD]
    rw [List.getElem?_append_right (by simp; omega)]
    simp only [List.length_map, List.length_range, List.getElem?_map]
    rw [List.getElem?_range (by omega)]
    show f (k + 1 + (j - k)) = f (j + 1)
    rw [show k + 1 + (j - k) = j + 1 by omega]
theorem rows_at {os : List (List Int)} {k j : Nat} (hk : k < os.length) (hj : j < os.length - 1) : (os.take k ++ os.drop (k + 1)).getD j [] = os.getD (if j < k then j else j + 1) [] := by
  by_cases h : j < k
  · rw [if_pos h]
    have hj2 : j < os.length := by omega
    simp [List.getD, List.getElem?_append_left, h, hk, hj2, Nat.min_eq_left (Nat.le_of_lt hk)]
  · rw [if_neg h]
    simp only [List.getD]
    rw [List.getElem?_append_right (by simp; omega), List.length_take, Nat.min_eq_left (Nat.le_of_lt hk), List.getElem?_drop]
    rw [show k + 1 + (j - k) = j + 1 by omega]
theorem remref_fin {os : List (List Int)} {M : List Int} {w w4 : World} {B Bi c c4 k : Nat} {A A4 : Option Addr} {f : Nat → Value} (hk : k < os.length) (hB : Bi ≤ w.heap.size) (h : Own8 w B Bi A c f os) (he : os.eraseP (sameN M) = os.take k ++ os.drop (k + 1)) (ha : os.any (sameN M) = true)
    (ho : w4.ownsRow w.heap.size 34 1 (.slice A4 (k + (os.length - (k + 1))) c4) (k + (os.length - (k + 1))) ((List.range k).map f ++ (List.range (os.length - (k + 1))).map fun j => f (k + 1 + j))) (hb : Below w.heap.size w w4) (hc : k + (os.length - (k + 1)) ≤ c4) :
    RemRef os M Bi A c f w (.returned (.tuple #[.slice A4 (k + (os.length - (k + 1))) c4, .bool true])) w4 := by
  have hlen : (os.eraseP (sameN M)).length = k + (os.length - (k + 1)) := by rw [he]; simp; omega
  have hn : k + (os.length - (k + 1)) = os.length - 1 := by omega
  refine ⟨A4, c4, fun j => ((List.range k).map f ++ (List.range (os.length - (k + 1))).map fun j => f (k + 1 + j)).getD j undef, by rw [hlen, ha], ⟨?_, by rw [hlen]; exact hc, fun j hj => ?_⟩, hb, .inr ⟨_, by rw [hlen]; exact ho, rfl⟩⟩
  · rw [hlen]; exact cells_of_own ho undef
  · rw [hlen, hn] at hj
    rw [he, rows_at hk hj]
    dsimp only
    rw [heads_at hk hj]
    have hj' : (if j < k then j else j + 1) < os.length := by split <;> omega
    obtain ⟨Aj, cj, e, hi⟩ := h.2.2 _ hj'
    exact ⟨Aj, cj, e, Cells.below hi (hb.mono hB)⟩
set_option maxRecDepth 100000 in
set_option maxHeartbeats 1000000 in
theorem remref_any (os : List (List Int)) (M : List Int) (B B' Bi : Nat) (A A' : Option Addr) (c c' : Nat) (f : Nat → Value) (w : World) (hn : os.length ≤ 1000000) (hl : ∀ j, (os.getD j []).length ≤ 1000000) (hM : M.length ≤ 1000000)
    (h : Own8 w B Bi A c f os) (h' : Ints w B' A' M) (hB : B ≤ w.heap.size) (hBi : Bi ≤ w.heap.size) (hB' : B' ≤ w.heap.size) :
    Calls Tryd.prog 22 #[.slice A os.length c, .slice A' M.length c'] w (RemRef os M Bi A c f w) := by
  have H := Lib.hid h
  have H' := Lib.hid h'
  have HL := Lib.hid hl
  have hcap := h.2.1
  obtain ⟨i0, hi, hz0, hz1, hz2⟩ := info_parts infoRow8
  clear h h' hl
  go_enter Tryd.func22, Tryd.ntmps22
  go_wp2
  go_loopg [6] (os.length + 1) (fun gk i wr => ∃ k : Nat, k ≤ os.length ∧ gk = os.length - k + 1 ∧ i = .int .i64 k ∧ w = wr ∧ Hid (∀ d, d ∈ os.take k → sameN M d = false))
  case atStart => exact ⟨0, by omega, by omega, rfl, rfl, Lib.hid (by simp)⟩
  case round =>
    obtain ⟨k, hk, rfl, rfl, rfl, HK⟩ := hrel
    by_cases hlt : k < os.length
    · obtain ⟨b, off, rfl, hbB, hcj⟩ := H.out.1 (by omega)
      obtain ⟨Aj, cj, hfj, hij⟩ := H.out.2.2 k hlt
      have hc := hcj k hlt
      rw [hfj] at hc
      have htk : os.take (k + 1) = os.take k ++ [os.getD k []] := by rw [List.take_succ_eq_append_getElem hlt]; simp [List.getD, hlt]
      have hlk := HL.out k
      obtain ⟨d, hdd⟩ : ∃ d, d = os.getD k [] := ⟨_, rfl⟩
      rw [← hdd] at hc hij htk hlk
      have HTK := Lib.hid htk
      have HDD := Lib.hid hdd
      have HCJ := Lib.hid hcj
      have HSA := Lib.hid (same_any07 d M Bi B' Aj A' cj c' w (by omega) (by omega) hij H'.out)
      clear hfj hij htk hdd hcj
      go_wp2_with fail
      refine HSA.out.mono ?_
      rintro e w1 ⟨s, rfl, hs, rfl⟩
      cases s with
      | false =>
        have hno : sameN M d = false := by
          cases hq : sameN M d with
          | false => rfl
          | true => exact absurd (hs.2 (sameN_iff.1 hq)) (by simp)
        have HNO := Lib.hid hno
        clear hs hno hc
        go_wp2
        go_roundg (os.length - k)
        case measure => omega
        case rel =>
          refine ⟨k + 1, by omega, by omega, by go_num, rfl, Lib.hid fun x hx => ?_⟩
          rw [HTK.out] at hx
          rcases List.mem_append.1 hx with hx | hx
          · exact HK.out x hx
          · rw [List.mem_singleton.1 hx]; exact HNO.out
      | true =>
        have hyes : sameN M d = true := sameN_iff.2 (hs.1 rfl)
        have hera := erase_at hlt HK.out (by rw [← HDD.out]; exact hyes)
        have hany : os.any (sameN M) = true := List.any_eq_true.2 ⟨d, by rw [HDD.out]; exact rows_row hlt, hyes⟩
        have HERA := Lib.hid hera
        have HANY := Lib.hid hany
        have HX1 : Hid (Cells w B (some ⟨b, off, none⟩) k f) := Lib.hid fun _ => ⟨b, off, rfl, hbB, fun j hj => HCJ.out j (by omega)⟩
        have hkc : (k : Int) ≤ (c : Int) := by omega
        have hkc1 : ((k : Int) + 1) ≤ (os.length : Int) := by omega
        have hkc2 : ¬ c = 0 := by omega
        clear hs hyes hera hany hc
        have hsz : ∀ w', (sizeOf 34).run Tryd.prog w' = .ok 1 w' := fun w' => by simp [sizeOf, typeInfo, hi, hz1]
        have HS1 := Lib.hid (run_front7 (P := Tryd.prog) Tryd.underlying28 w (hsz w) b off os.length c k (by omega))
        have hs2 := fun w' => run_back7 (P := Tryd.prog) Tryd.underlying28 w' (hsz w') b off os.length c (k + 1) (by omega) hcap
        rw [show ((k + 1 : Nat) : Int) = (k : Int) + 1 by omega] at hs2
        have HS2 := Lib.hid hs2
        clear hs2
        have HONE : Hid (∀ j, j < os.length → (f j).oneCell' = true) := Lib.hid fun j hj => by obtain ⟨Aq, cq, e, _⟩ := H.out.2.2 j hj; rw [e]; rfl
        have hkl : (k : Int) + 1 ≤ (c : Int) := by omega
        by_cases hcm : c = k + 1
        · have HX2 : Hid (Cells w B (some ⟨b, off, none⟩) (os.length - (k + 1)) fun j => f (k + 1 + j)) := Lib.hid fun h0 => by omega
          simp only [if_pos hcm] at HS2
          clear hcm
          go_wp2_with (first
            | (refine wpList_slice7 rfl _ _ _ _ _ rfl (.slice (some ⟨b, off, none⟩) os.length c) (.slice (some ⟨b, off, none⟩) k c) rfl none (some (.int .i64 k)) none rfl rfl rfl HS1.out (by kernel_rfl) ?_)
            | (refine wpList_slice7 rfl _ _ _ _ _ rfl (.slice (some ⟨b, off, none⟩) os.length c) _ rfl (some (.int .i64 ((k : Int) + 1))) none none rfl rfl rfl (HS2.out _) (by kernel_rfl) ?_)
            | (at_builtin; refine wpList_append_cells _ rfl _ _ 28 rfl w.heap.size 34 i0 (.slice none 0 0) 24 Tryd.underlying28 hi hz0 hz1 hz2 rfl (.slice none 0 0) 0 [] rfl (World.ownsRow_nil _ _ _ _) B (some ⟨b, off, none⟩) k _ f rfl HX1.out (fun j hj => HONE.out j (by omega)) (by unfold maxLen; omega) (by omega) (Nat.le_refl _) ?_; intro v3 w3 hown3 hg3 hob3
               obtain ⟨A3, c3, hv3, _⟩ := own_slice hown3
               subst hv3
               rw [Nat.zero_add, List.nil_append] at hown3
               have hb3 : Below w.heap.size w w3 := ⟨hg3.os, hg3.tape, hg3.output, hg3.size, fun i hi => hg3.block i hi (by simp [Value.ownBlock])⟩
               have HO3 := Lib.hid hown3
               have HB3 := Lib.hid hb3
               have HX3 := Lib.hid (Cells.below HX2.out (hb3.mono hB))
               have hs3 := hb3.size
               clear hown3 hg3 hob3 hb3)
            | (at_builtin; refine wpList_append_cells _ rfl _ _ 28 rfl w.heap.size 34 i0 (.slice none 0 0) 24 Tryd.underlying28 hi hz0 hz1 hz2 rfl (.slice A3 k c3) k _ rfl HO3.out B (some ⟨b, off, none⟩) (os.length - (k + 1)) _ (fun j => f (k + 1 + j)) rfl HX3.out (fun j hj => HONE.out _ (by omega)) (by unfold maxLen; omega) (by omega) hs3 ?_; intro v4 w4 hown4 hg4 hob4
               obtain ⟨A4, c4, hv4, hc4, _⟩ := own_slice hown4
               subst hv4
               have hb4 : Below w.heap.size w w4 := HB3.out.grown hg4 hs3 (fun g hg => (HO3.out.lt g hg).1)
               have HO4 := Lib.hid hown4
               have HB4 := Lib.hid hb4
               have HC4 := Lib.hid hc4
               clear hown4 hg4 hob4 hb4 hc4))
          go_ret2
          exact remref_fin hlt hBi H.out HERA.out HANY.out HO4.out HB4.out HC4.out
        · have HX2 : Hid (Cells w B (some ⟨b, off + (k + 1), none⟩) (os.length - (k + 1)) fun j => f (k + 1 + j)) := Lib.hid fun h0 => ⟨b, off + (k + 1), rfl, hbB, fun j hj => by rw [Nat.add_assoc]; exact HCJ.out (k + 1 + j) (by omega)⟩
          simp only [if_neg hcm] at HS2
          clear hcm
          go_wp2_with (first
            | (refine wpList_slice7 rfl _ _ _ _ _ rfl (.slice (some ⟨b, off, none⟩) os.length c) (.slice (some ⟨b, off, none⟩) k c) rfl none (some (.int .i64 k)) none rfl rfl rfl HS1.out (by kernel_rfl) ?_)
            | (refine wpList_slice7 rfl _ _ _ _ _ rfl (.slice (some ⟨b, off, none⟩) os.length c) _ rfl (some (.int .i64 ((k : Int) + 1))) none none rfl rfl rfl (HS2.out _) (by kernel_rfl) ?_)
            | (at_builtin; refine wpList_append_cells _ rfl _ _ 28 rfl w.heap.size 34 i0 (.slice none 0 0) 24 Tryd.underlying28 hi hz0 hz1 hz2 rfl (.slice none 0 0) 0 [] rfl (World.ownsRow_nil _ _ _ _) B (some ⟨b, off, none⟩) k _ f rfl HX1.out (fun j hj => HONE.out j (by omega)) (by unfold maxLen; omega) (by omega) (Nat.le_refl _) ?_; intro v3 w3 hown3 hg3 hob3
               obtain ⟨A3, c3, hv3, _⟩ := own_slice hown3
               subst hv3
               rw [Nat.zero_add, List.nil_append] at hown3
               have hb3 : Below w.heap.size w w3 := ⟨hg3.os, hg3.tape, hg3.output, hg3.size, fun i hi => hg3.block i hi (by simp [Value.ownBlock])⟩
               have HO3 := Lib.hid hown3
               have HB3 := Lib.hid hb3
               have HX3 := Lib.hid (Cells.below HX2.out (hb3.mono hB))
               have hs3 := hb3.size
               clear hown3 hg3 hob3 hb3)
            | (at_builtin; refine wpList_append_cells _ rfl _ _ 28 rfl w.heap.size 34 i0 (.slice none 0 0) 24 Tryd.underlying28 hi hz0 hz1 hz2 rfl (.slice A3 k c3) k _ rfl HO3.out B (some ⟨b, off + (k + 1), none⟩) (os.length - (k + 1)) _ (fun j => f (k + 1 + j)) rfl HX3.out (fun j hj => HONE.out _ (by omega)) (by unfold maxLen; omega) (by omega) hs3 ?_; intro v4 w4 hown4 hg4 hob4
               obtain ⟨A4, c4, hv4, hc4, _⟩ := own_slice hown4
               subst hv4
               have hb4 : Below w.heap.size w w4 := HB3.out.grown hg4 hs3 (fun g hg => (HO3.out.lt g hg).1)
               have HO4 := Lib.hid hown4
               have HB4 := Lib.hid hb4
               have HC4 := Lib.hid hc4
               clear hown4 hg4 hob4 hb4 hc4))
          go_ret2
          exact remref_fin hlt hBi H.out HERA.out HANY.out HO4.out HB4.out HC4.out
    · obtain rfl : k = os.length := by omega
      rw [List.take_length] at HK
      have hera : os.eraseP (sameN M) = os := List.eraseP_of_forall_not fun d hd => by simp [HK.out d hd]
      have hany : os.any (sameN M) = false := List.any_eq_false.2 fun d hd => by simp [HK.out d hd]
      have HERA := Lib.hid hera
      have HANY := Lib.hid hany
      clear hera hany
      go_wp2
      go_ret2
      unfold RemRef
      rw [HERA.out, HANY.out]
      exact ⟨A, c, f, rfl, H.out.more hB, Below.refl _ _, .inl ⟨rfl, rfl, rfl, rfl, rfl⟩⟩
end Go.Proofs.YtbjccfdmedbkjaaDoor

namespace Go.Proofs.YtbjccfdmedbkjaaDoor
open Go.RowKit
set_option linter.unusedVariables false
set_option linter.unusedSimpArgs false

section
variable {w w' : World} {base s V N b0 c : Nat} {cs : List (List Int)} {X X' : SX} {A : Option Addr} {L : List Int}
theorem remove_sx {B : Nat} (h : Sx w base s V cs N X) (hA : Ints w B A L) (hB : B ≤ w.heap.size) (hn : L.length ≤ 1000000) (hL : ∀ x, x ∈ L → -1000000 ≤ x ∧ x ≤ 1000000) (hT : Tab7 w) (hN : N ≤ 1000000) :
    Calls Tryd.prog 23 #[.pointer (some ⟨s, 0, none⟩), .slice A L.length c] w fun e w' => e = .returned (.bool (decide (normOf L ∈ cs))) ∧ ∃ X' : SX, Sx w' base s V (cs.erase (normOf L)) (N + 2) X' ∧ Tn base X w w' ∧ Later7 w X X' := by
  obtain ⟨rfl, rfl, rfl, h4, h5, h6, fo, h7⟩ := h
  refine (remove_any7 h7 hA hB hn hL hT (by omega)).mono ?_
  rintro e w' ⟨rfl, X', r1, r2, r3, r4, r5, r6, r7, r8, r9⟩
  exact ⟨rfl, X', ⟨r4, r5, r6, by omega, by omega, by omega, fo, r1⟩, r2, r3⟩
/-- rows of one's own, of a type that the store has none of, stay as they are -/
theorem Sx.own_turn {n : Nat} {v : Value} {xs : List Value} (h : Sx w base s V cs N X) (ho : w.ownsRow b0 34 1 v n xs) (ht : Tn base X w w') : w'.ownsRow b0 34 1 v n xs := by
  obtain ⟨h1, h2, h3, h4, h5, h6, fo, h7⟩ := h
  refine ⟨ho.1, ?_⟩
  rcases ho.2 with hn | ⟨g', cap', cur, hv, hb', hg', rest⟩
  · exact .inl hn
  · exact .inr ⟨g', cap', cur, hv, hb', ht.blk g' _ cur hg' (by decide) (by decide) (by decide) (by decide) (Blk.ne_ (w := w) (g := g') hg' h7.sto.fol (by decide)) (own_blk_ne h7.sto.fnd (show Blk w g' _ cur from hg') (by decide)), rest⟩
end

/-- what goes of the rows goes of their normal forms -/
theorem erase_norm {M : List Int} : ∀ os : List (List Int), (os.map normOf).erase (normOf M) = (os.eraseP (sameN M)).map normOf
  | [] => rfl
  | d :: os => by
    rw [List.map_cons, List.erase_cons, List.eraseP_cons]
    by_cases h : normOf d = normOf M
    · have h1 : (normOf d == normOf M) = true := by simp [h]
      have h2 : sameN M d = true := by simp [sameN, h]
      rw [h1, h2]; rfl
    · have h1 : (normOf d == normOf M) = false := by simp [h]
      have h2 : sameN M d = false := by simp [sameN, h]
      rw [h1, h2]
      simp [erase_norm os]
theorem any_norm {M : List Int} (os : List (List Int)) : os.any (sameN M) = decide (normOf M ∈ os.map normOf) := by
  rw [Bool.eq_iff_iff]
  simp only [List.any_eq_true, decide_eq_true_eq, List.mem_map, sameN]

/-- a list of clauses of one's own: its headers, and rows that lie below the store -/
structure OL (b7 base F : Nat) (w : World) (os : List (List Int)) (A : Option Addr) (c : Nat) (hs : List Value) : Prop where
  own : w.ownsRow b7 34 1 (.slice A os.length c) os.length hs
  rows : ∀ j, j < os.length → ∃ Aj cj, hs.getD j undef = .slice Aj (os.getD j []).length cj ∧ Ints w base Aj (os.getD j [])
  each : ∀ d, d ∈ os → d.length ≤ 100 ∧ ∀ x, x ∈ d → Lt7 F x
  few : os.length ≤ 1000
section
variable {w w' : World} {b7 base F s V N c : Nat} {cs os : List (List Int)} {X : SX} {A : Option Addr} {hs : List Value}
theorem OL.cap (h : OL b7 base F w os A c hs) : os.length ≤ c := by
  obtain ⟨A', c', e, hc, _⟩ := own_slice h.own
  injection e with _ _ e3
  omega
theorem OL.below (h : OL b7 base F w os A c hs) (hb : Below w.heap.size w w') (hs' : base ≤ w.heap.size) : OL b7 base F w' os A c hs :=
  ⟨own_below h.own hb fun g hg => (h.own.lt g hg).2, fun j hj => by obtain ⟨Aj, cj, e, hi⟩ := h.rows j hj; exact ⟨Aj, cj, e, Cells.below hi (hb.mono hs')⟩, h.each, h.few⟩
theorem OL.tn (h : OL b7 base F w os A c hs) (hx : Sx w base s V cs N X) (ht : Tn base X w w') : OL b7 base F w' os A c hs :=
  ⟨hx.own_turn h.own ht, fun j hj => by obtain ⟨Aj, cj, e, hi⟩ := h.rows j hj; exact ⟨Aj, cj, e, Cells.below hi ht.below⟩, h.each, h.few⟩
theorem OL.own8 (h : OL b7 base F w os A c hs) : Own8 w w.heap.size base A c (fun j => hs.getD j undef) os := ⟨cells_of_own h.own undef, h.cap, h.rows⟩
theorem OL.short (h : OL b7 base F w os A c hs) (j : Nat) : (os.getD j []).length ≤ 100 := by
  by_cases hj : j < os.length
  · exact (h.each _ (rows_row hj)).1
  · rw [List.getD, List.getElem?_eq_none (by omega)]; simp
theorem OL.removed {M : List Int} {e : Ending} (h : OL b7 base F w os A c hs) (hr : RemRef os M base A c (fun j => hs.getD j undef) w e w') (hb7 : b7 ≤ w.heap.size) : ∃ (A2 : Option Addr) (c2 : Nat) (hs2 : List Value),
    e = .returned (.tuple #[.slice A2 (os.eraseP (sameN M)).length c2, .bool (os.any (sameN M))]) ∧ OL b7 base F w' (os.eraseP (sameN M)) A2 c2 hs2 ∧ Below w.heap.size w w' := by
  obtain ⟨A2, c2, f2, rfl, h8, hb, ho⟩ := hr
  rcases ho with ⟨rfl, rfl, rfl, rfl, he⟩ | ⟨hs2, ho, rfl⟩
  · refine ⟨A2, c2, hs, rfl, ?_, hb⟩
    rw [he]; exact h
  · exact ⟨A2, c2, hs2, rfl, ⟨own_more ho hb7, h8.2.2, fun d hd => h.each d (List.mem_of_mem_eraseP hd), Nat.le_trans List.length_eraseP_le h.few⟩, hb⟩
end
theorem one_own8 (w : World) (x : Int) : (w.alloc (.cells #[.int .i64 x] 3)).ownsRow w.heap.size 3 1 (.slice (some ⟨w.heap.size, 0, none⟩) 1 1) 1 [.int .i64 x] :=
  ⟨by simp, .inr ⟨w.heap.size, 1, _, rfl, Nat.le_refl _, heap_alloc_new w _, Nat.le_refl _, by unfold maxLen; omega, by simp, by simp⟩⟩
theorem one_ints8 (w : World) (x : Int) : Ints (w.alloc (.cells #[.int .i64 x] 3)) (w.alloc (.cells #[.int .i64 x] 3)).heap.size (some ⟨w.heap.size, 0, none⟩) [x] := ints_of_own (xs := [x]) (one_own8 w x)
/-- a literal that is none of the formula's is in no clause of it -/
theorem no_norm {F : Nat} {os : List (List Int)} {x : Int} (h : ∀ d, d ∈ os → d.length ≤ 100 ∧ ∀ x, x ∈ d → Lt7 F x) (hx : ¬ Lt7 F x) : decide (normOf [x] ∈ os.map normOf) = false := by
  rw [decide_eq_false_iff_not]
  intro hm
  obtain ⟨d, hd, e⟩ := List.mem_map.1 hm
  exact hx ((h d hd).2 x (((norm_eq_iff.1 e) x).2 (by simp)))
end Go.Proofs.YtbjccfdmedbkjaaDoor
