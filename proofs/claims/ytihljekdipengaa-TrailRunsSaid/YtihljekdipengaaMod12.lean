/- The statements' own trail in memory; what it answers. -/
import Derived.Test.YtihljekdipengaaOnce12
import Derived.Sort.Grow
namespace Go.Proofs.Ytihljekdipengaa
open Go.RowKit Go.Maps
set_option linter.unusedVariables false
set_option linter.unusedSimpArgs false

/-- the world, some draws on, with blocks laid behind its heap -/
def Gr (w w' : World) : Prop := ∃ (q : Nat) (os : Array Obj), w' = Go.Sort.grow (w.drewN q) os
theorem Gr.refl (w : World) : Gr w w := ⟨0, #[], by rw [Go.Sort.grow_empty]; rfl⟩
theorem Gr.trans {a b c : World} (h : Gr a b) (h' : Gr b c) : Gr a c := by
  obtain ⟨q, os, rfl⟩ := h
  obtain ⟨q', os', rfl⟩ := h'
  refine ⟨q + q', os ++ os', ?_⟩
  show Go.Sort.grow (Go.Sort.grow ((a.drewN q).drewN q') os) os' = _
  rw [Go.Sort.grow_grow, World.drewN_drewN]
theorem Gr.alloc {a b : World} (h : Gr a b) (o : Obj) : Gr a (b.alloc o) := h.trans ⟨0, #[o], by rw [Go.Sort.alloc_eq_grow]; rfl⟩
theorem Gr.drewE {a b c : World} (h : Gr a b) (hd : ∃ m, c = b.drewN m) : Gr a c := by
  obtain ⟨m, rfl⟩ := hd
  exact h.trans ⟨m, #[], by rw [Go.Sort.grow_empty]⟩
theorem Gr.below {a b : World} (h : Gr a b) : Below a.heap.size a b := by
  obtain ⟨q, os, rfl⟩ := h
  exact ⟨rfl, rfl, rfl, by simp [Go.Sort.grow, World.drewN], fun k hk => Go.Sort.heap_grow_old (a.drewN q) os hk⟩

def stepV (r : Rec) : List Value := [.int .i64 r.l, .int .i64 (r.lev : Nat), .int .i64 r.rs]
def stepsV : List Rec → List Value
  | [] => []
  | r :: rs => stepV r ++ stepsV rs
theorem stepsV_len (rs : List Rec) : (stepsV rs).length = rs.length * 3 := by
  induction rs with
  | nil => rfl
  | cons r rs ih => simp [stepsV, stepV, ih]; omega
theorem stepsV_append (rs ss : List Rec) : stepsV (rs ++ ss) = stepsV rs ++ stepsV ss := by
  induction rs with
  | nil => rfl
  | cons r rs ih => simp [stepsV, ih]
theorem stepsV_take (rs : List Rec) (k : Nat) : (stepsV rs).take (k * 3) = stepsV (rs.take k) := by
  induction rs generalizing k with
  | nil => simp [stepsV]
  | cons r rs ih =>
    cases k with
    | zero => simp [stepsV]
    | succ k =>
      show (stepV r ++ stepsV rs).take _ = stepV r ++ stepsV (rs.take k)
      rw [List.take_append, show (stepV r).take ((k + 1) * 3) = stepV r from List.take_of_length_le (by simp [stepV]; omega), show (k + 1) * 3 - (stepV r).length = k * 3 by simp [stepV]; omega, ih]
theorem stepsV_get {rs : List Rec} {i : Nat} {r : Rec} (h : rs[i]? = some r) : (stepsV rs)[i * 3]? = some (.int .i64 r.l) ∧ (stepsV rs)[i * 3 + 1]? = some (.int .i64 (r.lev : Nat)) ∧ (stepsV rs)[i * 3 + 2]? = some (.int .i64 r.rs) := by
  induction rs generalizing i with
  | nil => simp at h
  | cons s rs ih =>
    cases i with
    | zero =>
      simp at h
      subst h
      simp [stepsV, stepV]
    | succ i =>
      obtain ⟨h0, h1, h2⟩ := ih (i := i) (by simpa using h)
      have e : ∀ j, (stepsV (s :: rs))[(i + 1) * 3 + j]? = (stepsV rs)[i * 3 + j]? := fun j => by
        show (stepV s ++ stepsV rs)[(i + 1) * 3 + j]? = _
        rw [List.getElem?_append_right (by simp [stepV]; omega)]
        congr 1
        simp [stepV]
        omega
      exact ⟨(e 0).trans h0, (e 1).trans h1, (e 2).trans h2⟩

/-- the phases, as a map tells them -/
def PhMap (D : DataW Unit) (ph : List Bool) : Prop := ∀ v : Nat, 1 ≤ v → v ≤ ph.length → D.atKey (.int .i64 (v : Int)) (.lit (.bool false)) = .lit (.bool (ph.getD (v - 1) false))
/-- the statements' own trail: its struct in block q, its map in block mp; base: where it begins -/
structure Md (w : World) (base q mp kb : Nat) (t : TS) : Prop where
  ex : ∃ (A : Option Addr) (c : Nat), Blk w q 30 #[.int .i64 (t.ph.length : Nat), .int .i64 (t.starts.length : Nat), .slice A t.recs.length c, .map (some mp)] ∧ w.ownsRow base 42 3 (.slice A t.recs.length c) t.recs.length (stepsV t.recs)
  map : ∃ (k : Nat) (D : DataW Unit), w.ownsMap Try.prog 3 (plainElem (H := Unit) Try.prog 4) mp k D ∧ k ≤ kb ∧ PhMap D t.ph
  good : t.Good
  hq : base ≤ q
  hmp : base ≤ mp
theorem Md.keep {w w' : World} {base q mp kb : Nat} {t : TS} (h : Md w base q mp kb t) (hk : ∀ p o, base ≤ p → w.heap[p]? = some o → (p = mp ∨ ∃ cs ty z, o = Obj.cells cs ty z ∧ (ty = 30 ∨ ty = 42)) → w'.heap[p]? = some o) : Md w' base q mp kb t := by
  obtain ⟨A, c, h1, h2⟩ := h.ex
  obtain ⟨k, D, h3, h4, h5⟩ := h.map
  refine ⟨⟨A, c, hk _ _ h.hq h1 (.inr ⟨_, _, _, rfl, .inl rfl⟩), h2.1, ?_⟩, ⟨k, D, ?_, h4, h5⟩, h.good, h.hq, h.hmp⟩
  · rcases h2.2 with hn | ⟨p, cap, cur, hv, hp, hh, rest⟩
    · exact .inl hn
    · exact .inr ⟨p, cap, cur, hv, hp, hk _ _ hp hh (.inr ⟨_, _, _, rfl, .inr rfl⟩), rest⟩
  · obtain ⟨es, clock, hb, rest⟩ := h3
    exact ⟨es, clock, hk _ _ h.hmp hb (.inl rfl), rest⟩
theorem Md.below {w w' : World} {base q mp kb : Nat} {t : TS} (h : Md w base q mp kb t) (hb : Below w.heap.size w w') : Md w' base q mp kb t := h.keep fun p o _ ho _ => (hb.block p (Array.getElem?_eq_some_iff.1 ho).1).trans ho
theorem Md.drewE {w w' : World} {base q mp kb : Nat} {t : TS} (h : Md w base q mp kb t) (hd : ∃ m, w' = w.drewN m) : Md w' base q mp kb t := by
  obtain ⟨m, rfl⟩ := hd
  exact ⟨h.ex, h.map, h.good, h.hq, h.hmp⟩
theorem Md.mono {w : World} {base q mp kb kb' : Nat} {t : TS} (h : Md w base q mp kb t) (hk : kb ≤ kb') : Md w base q mp kb' t := by
  obtain ⟨k, D, h3, h4, h5⟩ := h.map
  exact ⟨h.ex, ⟨k, D, h3, Nat.le_trans h4 hk, h5⟩, h.good, h.hq, h.hmp⟩

section
variable {w : World} {base q mp kb : Nat} {t : TS}
def rightM (t : TS) (l : Int) : Bool := decide (l ≠ 0 ∧ l.natAbs ≤ t.ph.length)
theorem mright_any (h : Md w base q mp kb t) (l : Int) : Calls Try.prog 29 #[.pointer (some ⟨q, 0, none⟩), .int .i64 l] w fun e w' => e = .returned (.bool (rightM t l)) ∧ w = w' := by
  obtain ⟨A, c, h1, _⟩ := h.ex
  have c0 := h1.cell 0
  simp at c0
  have hf := h.good.few
  have hu : rightM t l = decide (l ≠ 0 ∧ l.natAbs ≤ t.ph.length) := rfl
  rw [hu]
  obtain ⟨n, hn⟩ : ∃ n, t.ph.length = n := ⟨_, rfl⟩
  rw [hn] at c0 hf ⊢
  clear h h1 hu hn
  by_cases h0 : l = 0
  · subst h0
    go_enter Try.func29, Try.ntmps29
    go_wp2
    go_ret
    exact ⟨by simp, rfl⟩
  · have h0' : (l == 0) = false := by simpa using h0
    have h0'' : (l != 0) = true := by simpa using h0
    by_cases h1 : l ≤ (n : Int)
    · by_cases h2 : -(n : Int) ≤ l
      · rw [show decide (l ≠ 0 ∧ l.natAbs ≤ n) = true by rw [decide_eq_true_eq]; omega]
        clear h0
        go_enter Try.func29, Try.ntmps29
        go_wp2
        go_ret
        exact ⟨by first | rfl | (simp; omega), rfl⟩
      · rw [show decide (l ≠ 0 ∧ l.natAbs ≤ n) = false by rw [decide_eq_false_iff_not]; omega]
        clear h0
        go_enter Try.func29, Try.ntmps29
        go_wp2
        go_ret
        exact ⟨by first | rfl | (simp; omega), rfl⟩
    · rw [show decide (l ≠ 0 ∧ l.natAbs ≤ n) = false by rw [decide_eq_false_iff_not]; omega]
      clear h0
      go_enter Try.func29, Try.ntmps29
      go_wp2
      go_ret
      exact ⟨by first | rfl | (simp; omega), rfl⟩

theorem find_of_prefix {rs : List Rec} {l : Int} {i : Nat} {r : Rec} (hr : rs[i]? = some r) (ho : r.of l) (hp : ∀ j s, j < i → rs[j]? = some s → ¬ s.of l) : find rs l = some (i, r) := by
  rcases hf : find rs l with _ | ⟨j, s⟩
  · exact absurd ho (find_none.1 hf r (List.mem_of_getElem? hr))
  · have h0 := hf
    unfold find at h0
    -- the first that is
    have key : ∀ (rs : List Rec) (k i : Nat) (r : Rec), rs[i]? = some r → r.of l → (∀ j s, j < i → rs[j]? = some s → ¬ s.of l) → findAt k rs l = some (k + i, r) := by
      intro rs
      induction rs with
      | nil => intro k i r hr; simp at hr
      | cons x rs ih =>
        intro k i r hr ho hp
        cases i with
        | zero =>
          simp at hr
          subst hr
          simp [findAt, ho]
        | succ i =>
          have hx := hp 0 x (by omega) rfl
          simp only [findAt, if_neg hx]
          rw [ih (k + 1) i r (by simpa using hr) ho (fun j s hj hs => hp (j + 1) s (by omega) (by simpa using hs))]
          congr 2
          omega
    rw [key rs 0 i r hr ho hp] at h0
    rw [← h0, Nat.zero_add]

set_option maxHeartbeats 4000000 in
theorem mwhere_any (h : Md w base q mp kb t) (l : Int) (h0 : -9223372036854775808 ≤ l ∧ l ≤ 9223372036854775807) : Calls Try.prog 30 #[.pointer (some ⟨q, 0, none⟩), .int .i64 l] w fun e w' => e = .returned (.int .i64 (placeT t.recs l)) ∧ Gr w w' := by
  obtain ⟨A, c, h1, h2⟩ := h.ex
  have c2 := h1.cell 2
  simp at c2
  have hf := h.good.few
  have hml := h.good.len
  obtain ⟨m, hm⟩ : ∃ m, t.recs.length = m := ⟨_, rfl⟩
  have HLT := Lib.hid (h2.lt)
  rw [hm] at c2 h2 hml
  have HR := Lib.hid h2
  have HM := Lib.hid hm
  have HG := Lib.hid h.good
  clear h h1 h2 hm
  go_enter Try.func30, Try.ntmps30
  go_wp2
  go_loopg [12] (m + 1) (fun gk iv wr => ∃ i : Nat, i ≤ m ∧ gk = m - i + 1 ∧ iv = .int .i64 i ∧ Hid (Gr w wr) ∧ Hid (∀ j s, j < i → t.recs[j]? = some s → ¬ s.of l))
  case atStart => exact ⟨0, by omega, by omega, rfl, Lib.hid (Gr.refl _), Lib.hid fun j s hj => absurd hj (by omega)⟩
  case round =>
    obtain ⟨i, hi, rfl, rfl, HB, HP⟩ := hrel
    by_cases hlt : i < m
    · obtain ⟨r, hr⟩ : ∃ r, t.recs[i]? = some r := ⟨_, List.getElem?_eq_getElem (by have := HM.out; omega)⟩
      obtain ⟨x, hx0, hx1, hx2⟩ : ∃ G, A = some ⟨G, 0, none⟩ ∧ G < w.heap.size ∧ True := by
        obtain ⟨G, e1, _, e3⟩ := (show ∃ G, A = some ⟨G, 0, none⟩ ∧ base ≤ G ∧ G < w.heap.size by
          rcases HR.out.2 with ⟨hv, hz⟩ | ⟨G, cap, cur, hv, hb, hh, _⟩
          · omega
          · injection hv with hv
            exact ⟨G, hv, hb, (Array.getElem?_eq_some_iff.1 hh).1⟩)
        exact ⟨G, e1, e3, trivial⟩
      subst hx0
      have g0 := fun j (hj : i * 3 + j < m * 3) => (HB.out.below.cell (p := ⟨x, i * 3 + j, none⟩) hx1).trans (World.ownsRow.cellAt HR.out (i * 3 + j) hj)
      obtain ⟨s0, s1, s2⟩ := stepsV_get hr
      have d0 := (g0 0 (by omega)).trans s0
      have d1 := (g0 1 (by omega)).trans s1
      have d2 := (g0 2 (by omega)).trans s2
      simp only [Nat.add_zero] at d0
      have hlit := HG.out.lit r (List.mem_of_getElem? hr)
      have HR1 := Lib.hid hr
      obtain ⟨y, hy⟩ : ∃ y, r.l = y := ⟨_, rfl⟩
      obtain ⟨lv, hlv⟩ : ∃ lv, r.lev = lv := ⟨_, rfl⟩
      obtain ⟨rz, hrz⟩ : ∃ rz, r.rs = rz := ⟨_, rfl⟩
      rw [hy] at d0 hlit
      rw [hlv] at d1
      rw [hrz] at d2
      have HY := Lib.hid hy
      have HB2 := Lib.hid (HB.out.alloc (.cells #[.int .i64 y, .int .i64 (lv : Nat), .int .i64 rz] 42))
      clear g0 s0 s1 s2 hr hy hlv hrz
      by_cases e1 : y = l
      · subst e1
        have HE := Lib.hid (find_of_prefix HR1.out (.inl HY.out) HP.out)
        go_wp2
        go_ret
        refine ⟨?_, HB2.out⟩
        unfold placeT
        rw [HE.out]
        rfl
      · have e1' : (y == l) = false := by simpa using e1
        by_cases em : l = -9223372036854775808
        · have hno : ¬ r.of l := by unfold Rec.of; rw [HY.out]; omega
          have HNO := Lib.hid hno
          subst em
          have e2' : (y == -9223372036854775808) = false := by simp; omega
          have hwm : IntKind.i64.wrap 9223372036854775808 = -9223372036854775808 := by decide
          clear e1 hno
          go_wp2_with fail
          go_roundg (m - i)
          case measure => omega
          case rel =>
            refine ⟨i + 1, by omega, by omega, by go_num, HB2, Lib.hid fun j s hj hs => ?_⟩
            rcases Nat.lt_or_ge j i with hji | hji
            · exact HP.out j s hji hs
            · obtain rfl : j = i := by omega
              rw [HR1.out] at hs
              injection hs with hs
              subst hs
              exact HNO.out
        · by_cases e2 : y = -l
          · have HE := Lib.hid (find_of_prefix HR1.out (.inr (by rw [HY.out]; exact e2)) HP.out)
            have e2' : (y == -l) = true := by simpa using e2
            have HE2 := Lib.hid e2
            clear e1 e2
            go_wp2
            go_ret
            refine ⟨?_, HB2.out⟩
            unfold placeT
            rw [HE.out]
            rfl
          · have e2' : (y == -l) = false := by simpa using e2
            have HNO := Lib.hid (show ¬ r.of l by unfold Rec.of; rw [HY.out]; omega)
            clear e1 e2
            go_wp2_with fail
            go_roundg (m - i)
            case measure => omega
            case rel =>
              refine ⟨i + 1, by omega, by omega, by go_num, HB2, Lib.hid fun j s hj hs => ?_⟩
              rcases Nat.lt_or_ge j i with hji | hji
              · exact HP.out j s hji hs
              · obtain rfl : j = i := by omega
                rw [HR1.out] at hs
                injection hs with hs
                subst hs
                exact HNO.out
    · obtain rfl : m = i := by omega
      have e : placeT t.recs l = -1 := by
        unfold placeT
        rw [find_none.2]
        intro r hr
        obtain ⟨j, hj, rfl⟩ := List.mem_iff_getElem.1 hr
        exact HP.out j _ (by have := HM.out; omega) (List.getElem?_eq_getElem hj)
      have HE := Lib.hid e
      clear e
      go_wp2
      go_ret
      exact ⟨by rw [HE.out]; rfl, HB.out⟩
end
end Go.Proofs.Ytihljekdipengaa
