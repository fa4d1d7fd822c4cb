/- A proof out of text. -/
import Derived.Test.YtdehlikmefpgnaaDoorDrat5
import Derived.Test.YtdehlikmefpgnaaDoorTxtMath
import Derived.Test.YtdehlikmefpgnaaDoorEnv6
namespace Go.Proofs.YtdehlikmefpgnaaDoor
open Go.RowKit
set_option linter.unusedSimpArgs false
set_option linter.unusedVariables false
set_option linter.unnecessarySimpa false

/-- what a word states -/
structure WordIs (word : List UInt8) (n : Int) (ok : Bool) : Prop where
  yes : ok = true → isLit n = true ∧ Lib.itoa n = word
  no : ok = false → ∀ l, isLit l = true → Lib.itoa l ≠ word
theorem word_bad {word : List UInt8} {n : Int} (h : ∀ v, Lib.atoiAll word ≠ .ok v) : WordIs word n false := by
  refine ⟨fun h => (by cases h), fun _ l hl he => ?_⟩
  rw [isLit_iff] at hl
  exact h l (by rw [← he]; exact atoi_itoa hl.2.1 hl.2.2)
theorem word_good {word : List UInt8} {v : Int} (h : Lib.atoiAll word = .ok v) : WordIs word v (isLit v && (Lib.itoa v == word)) := by
  refine ⟨fun h1 => ?_, fun h1 l hl he => ?_⟩
  · rw [Bool.and_eq_true] at h1
    exact ⟨h1.1, by simpa using h1.2⟩
  · have hl2 := hl
    rw [isLit_iff] at hl2
    have h2 := atoi_itoa hl2.2.1 hl2.2.2
    rw [he, h] at h2
    injection h2 with h2
    subst h2
    rw [hl, he] at h1
    simp at h1

set_option maxRecDepth 100000 in
set_option maxHeartbeats 4000000 in
theorem parseLiteral_any (s : List UInt8) (m : Int) (w : World) (hs : s.length ≤ 100000) (hE : EnvN m w) :
    Calls Tryd.prog 47 #[.string ⟨s.toArray⟩] w fun e w' => ∃ n ok, e = .returned (.tuple #[.int .i64 n, .bool ok]) ∧ WordIs s n ok ∧ Below w.heap.size w w' := by
  have HE := Lib.hid hE
  by_cases hok : ∃ v, Lib.atoiAll s = .ok v
  · obtain ⟨v, hv⟩ := hok
    have hn := word_good hv
    have hbd := Lib.atoiAll_bounds hv
    have AG := Lib.hid (atoi_good s v w hs hv)
    clear hE hv
    have LA := Lib.hid (fun w' => isLiteral_any v w' hbd.1 hbd.2)
    rcases hl : isLit v with _ | _
    · rw [hl] at hn LA
      have HN := Lib.hid hn
      clear hn hl
      go_enter Tryd.func47, Tryd.ntmps47
      go_wp2_with fail
      refine AG.out.mono ?_
      rintro e w2 ⟨rfl, hb2⟩
      have HB2 := Lib.hid hb2
      clear hb2
      go_wp2_with fail
      refine (LA.out w2).mono ?_
      rintro e w3 ⟨rfl, rfl⟩
      go_wp2
      go_ret2
      exact ⟨v, false, rfl, by simpa using HN.out, HB2.out⟩
    · rw [hl] at hn LA
      have IT := Lib.hid (fun w' (hb : Below w.heap.size w w') => itoa_any v w' hbd.1 hbd.2 (HE.out.same hb).env.tab)
      simp only [Bool.true_and] at hn
      generalize Lib.itoa v = iv at IT hn
      rcases hq : (iv == s) with _ | _
      all_goals
        rw [hq] at hn
        have HN := Lib.hid hn
        clear hn hl
        go_enter Tryd.func47, Tryd.ntmps47
        go_wp2_with fail
        refine AG.out.mono ?_
        rintro e w2 ⟨rfl, hb2⟩
        have HB2 := Lib.hid hb2
        clear hb2
        go_wp2_with fail
        refine (LA.out w2).mono ?_
        rintro e w3 ⟨rfl, rfl⟩
        go_wp2_with fail
        refine (IT.out w2 HB2.out).mono ?_
        rintro e w3 ⟨rfl, hb3⟩
        have HB3 := Lib.hid (HB2.out.trans (hb3.mono HB2.out.size))
        clear hb3
        go_wp2
        go_ret2
        exact ⟨v, _, rfl, HN.out, HB3.out⟩
  · have hbad : ∀ v, Lib.atoiAll s ≠ .ok v := fun v hv => hok ⟨v, hv⟩
    have AB := Lib.hid (atoi_bad s w hs hE.err hbad)
    have HN := Lib.hid (fun n => word_bad (n := n) hbad)
    clear hE hbad hok
    go_enter Tryd.func47, Tryd.ntmps47
    go_wp2_with fail
    refine AB.out.mono ?_
    rintro e w2 ⟨n, N, rfl, hb2⟩
    have HB2 := Lib.hid hb2
    clear hb2
    go_wp2
    go_ret2
    exact ⟨n, false, rfl, HN.out n, HB2.out⟩
end Go.Proofs.YtdehlikmefpgnaaDoor
