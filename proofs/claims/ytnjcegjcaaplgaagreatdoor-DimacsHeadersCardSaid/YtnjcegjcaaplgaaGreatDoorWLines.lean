/- A text's lines, each as its words: the statements' own reading. -/
import Derived.Test.YtnjcegjcaaplgaaGreatDoorOwnStrs
import Derived.Test.YtnjcegjcaaplgaaGreatDoorScan
import Derived.Test.YtnjcegjcaaplgaaGreatDoorReader
import Derived.Test.YtnjcegjcaaplgaaGreatDoorSlices
import Derived.Test.YtnjcegjcaaplgaaGreatDoorTold
namespace Go.Proofs.YtnjcegjcaaplgaaGreatDoor
open Go.RowKit
set_option linter.unusedSimpArgs false
set_option linter.unusedVariables false
set_option linter.unnecessarySimpa false

theorem Tryz.infoStr : (Tryz.prog.info? 9).map (fun i => (i.zero, i.size, i.bytes)) = some (some (.string ⟨#[]⟩), 1, 16) := by kernel_rfl

theorem Tryz.infoStrs : (Tryz.prog.info? 22).map (fun i => (i.zero, i.size, i.bytes)) = some (some (.slice none 0 0), 1, 24) := by kernel_rfl

/-- rows of words of one's own, and the open line's -/
def LnMem (w0 wr : World) (vs : List Value) (mid : Nat) (xs : List (List (List UInt8))) (ws : List (List UInt8)) (Ao : Option Addr) (co : Nat) (Al : Option Addr) (cl : Nat) : Prop :=
  wr.ownsRow w0.heap.size 22 1 (.slice Ao xs.length co) xs.length vs ∧ OwnStrs wr w0.heap.size 9 vs xs ∧ w0.heap.size ≤ mid ∧ mid ≤ wr.heap.size ∧
    (∀ j g, j < xs.length → ((vs[j]?).getD undef).ownBlock = some g → g < mid) ∧ wr.ownsRow mid 9 1 (.slice Al ws.length cl) ws.length (ws.map strV) ∧ Below w0.heap.size w0 wr

theorem LnMem.word {w0 wo w3 : World} {vs : List Value} {mid : Nat} {xs : List (List (List UInt8))} {ws : List (List UInt8)} {Ao : Option Addr} {co : Nat} {Al : Option Addr} {cl : Nat} {A3 : Option Addr} {c3 : Nat} (cur : List UInt8) (h : LnMem w0 wo vs mid xs ws Ao co Al cl)
    (h3 : w3.ownsRow mid 9 1 (.slice A3 (ws.length + 1) c3) (ws.length + 1) (ws.map strV ++ [strV cur])) (hg : (wo.alloc (.cells #[strV cur] 9)).grownBy w3 (Value.slice Al ws.length cl).ownBlock) : LnMem w0 w3 vs mid xs (ws ++ [cur]) Ao co A3 c3 := by
  obtain ⟨h1, h2, h4, h5, h6, h7, h8⟩ := h
  have hz := hg.size
  simp at hz
  have hoa := h7.alloc (.cells #[strV cur] 9)
  have hla := h2.kept (World.grownBy_alloc wo (.cells #[strV cur] 9) none) (fun _ _ _ _ h => by cases h)
  have hne : ∀ j g, j < xs.length → ((vs[j]?).getD undef).ownBlock = some g → some g ≠ (Value.slice Al ws.length cl).ownBlock := by
    intro j g hj hg' he
    have h8 := h6 j g hj hg'
    have h9 := (h7.lt g he.symm).1
    omega
  refine ⟨(h1.alloc (.cells #[strV cur] 9)).kept hg (own_own_ne (h1.alloc (.cells #[strV cur] 9)) hoa (by decide)), hla.kept hg hne, h4, by omega, h6, by simpa using h3, ?_⟩
  exact (h8.alloc (by omega) (.cells #[strV cur] 9)).grown hg (by simp; omega) (fun g hg' => by have := (h7.lt g hg').1; omega)

theorem LnMem.line {w0 wo w5 : World} {vs : List Value} {mid : Nat} {xs : List (List (List UInt8))} {ws : List (List UInt8)} {Ao : Option Addr} {co : Nat} {Al : Option Addr} {cl : Nat} {A5 : Option Addr} {c5 : Nat} (h : LnMem w0 wo vs mid xs ws Ao co Al cl)
    (h5 : w5.ownsRow w0.heap.size 22 1 (.slice A5 (xs.length + 1) c5) (xs.length + 1) (vs ++ [.slice Al ws.length cl])) (hg : (wo.alloc (.cells #[.slice Al ws.length cl] 22)).grownBy w5 (Value.slice Ao xs.length co).ownBlock) :
    LnMem w0 w5 (vs ++ [.slice Al ws.length cl]) w5.heap.size (xs ++ [ws]) [] A5 c5 none 0 := by
  obtain ⟨h1, h2, h4, h4', h6, h7, h8⟩ := h
  have hz := hg.size
  simp at hz
  have h1a := h1.alloc (.cells #[.slice Al ws.length cl] 22)
  have h7a := h7.alloc (.cells #[.slice Al ws.length cl] 22)
  have hla := h2.kept (World.grownBy_alloc wo (.cells #[.slice Al ws.length cl] 22) none) (fun _ _ _ _ h => by cases h)
  have hl3 := hla.kept hg (hla.ne_outer h1a (by decide))
  have ho3 := h7a.kept hg (own_own_ne h7a h1a (by decide))
  have hvl : vs.length = xs.length := by have := h1.1; omega
  have hl4 := hl3.snoc hvl ho3 h4 h6
  refine ⟨by simpa using h5, hl4, by omega, Nat.le_refl _, fun j g hj hg' => (hl4.lt hj hg').2, World.ownsRow_nil _ _ _ _, ?_⟩
  exact (h8.alloc (by omega) (.cells #[.slice Al ws.length cl] 22)).grown hg (by simp; omega) (fun g hg' => by have := (h1.lt g hg').1; omega)

/-- what is known after k bytes of a text -/
def LnTxt (s : List UInt8) (k : Nat) (xs : List (List (List UInt8))) (ws : List (List UInt8)) (cur : List UInt8) : Prop :=
  xs.length ≤ k ∧ ws.length ≤ k ∧ cur.length ≤ k ∧ linesW s = xs ++ (if k ≤ s.length then scan ws cur (s.drop k) else [])

theorem LnTxt.more {s : List UInt8} {k : Nat} {xs : List (List (List UInt8))} {ws : List (List UInt8)} {cur : List UInt8} (h : LnTxt s k xs ws cur) (hk : k < s.length) (h1 : s[k] ≠ 10) (h2 : isGap s[k] = false) : LnTxt s (k + 1) xs ws (cur ++ [s[k]]) := by
  obtain ⟨a, b, c, d⟩ := h
  refine ⟨by omega, by omega, by simp; omega, ?_⟩
  rw [d, if_pos (by omega), if_pos (by omega), List.drop_eq_getElem_cons hk, scan, if_neg (by simpa using h1), if_neg (by simp [h2])]
theorem LnTxt.gap {s : List UInt8} {k : Nat} {xs : List (List (List UInt8))} {ws : List (List UInt8)} {cur : List UInt8} (h : LnTxt s k xs ws cur) (hk : k < s.length) (h1 : s[k] ≠ 10) (h2 : isGap s[k] = true) : LnTxt s (k + 1) xs (ws ++ openW cur) [] := by
  obtain ⟨a, b, c, d⟩ := h
  have ho : (openW cur).length ≤ 1 := by unfold openW; split <;> simp
  refine ⟨by omega, by rw [List.length_append]; omega, by simp, ?_⟩
  rw [d, if_pos (by omega), if_pos (by omega), List.drop_eq_getElem_cons hk, scan, if_neg (by simpa using h1), if_pos h2]
theorem LnTxt.nl {s : List UInt8} {k : Nat} {xs : List (List (List UInt8))} {ws : List (List UInt8)} {cur : List UInt8} (h : LnTxt s k xs ws cur) (hk : k < s.length) (h1 : s[k] = 10) : LnTxt s (k + 1) (xs ++ [ws ++ openW cur]) [] [] := by
  obtain ⟨a, b, c, d⟩ := h
  refine ⟨by simp; omega, by simp, by simp, ?_⟩
  rw [d, if_pos (by omega), if_pos (by omega), List.drop_eq_getElem_cons hk, scan, if_pos (by simpa using h1)]
  simp
theorem LnTxt.end_ {s : List UInt8} {xs : List (List (List UInt8))} {ws : List (List UInt8)} {cur : List UInt8} (h : LnTxt s s.length xs ws cur) : LnTxt s (s.length + 1) (xs ++ [ws ++ openW cur]) [] [] := by
  obtain ⟨a, b, c, d⟩ := h
  refine ⟨by simp; omega, by simp, by simp, ?_⟩
  rw [d, if_pos (by omega), if_neg (by omega), List.drop_length]
  simp [scan]

set_option maxRecDepth 100000 in
set_option maxHeartbeats 4000000 in
theorem lines_any (s : List UInt8) (w : World) (hs : s.length ≤ 100000) :
    Calls Tryz.prog 19 #[.string ⟨s.toArray⟩] w fun e w' => ∃ (A : Option Addr) (c : Nat) (vs : List Value), e = .returned (.slice A (linesW s).length c) ∧ (∀ w'' : World, (∀ g, w.heap.size ≤ g → g < w'.heap.size → w''.heap[g]? = w'.heap[g]?) → SRowsV w'' w'.heap.size A vs (linesW s)) ∧ Below w.heap.size w w' := by
  have hlen : (⟨s.toArray⟩ : ByteArray).size = s.length := by show s.toArray.size = _; simp
  obtain ⟨i0', hi', hz0', hz1', hz2'⟩ := info_parts Tryz.infoStr
  obtain ⟨i0'', hi'', hz0'', hz1'', hz2''⟩ := info_parts Tryz.infoStrs
  go_enter Tryz.func19, Tryz.ntmps19
  go_wp2
  go_loopg [3, 4, 5, 6] (s.length + 2) (fun gk o l c i wr => ∃ (k : Nat) (vs : List Value) (mid : Nat) (xs : List (List (List UInt8))) (ws : List (List UInt8)) (cur : List UInt8) (Ao : Option Addr) (co : Nat) (Al : Option Addr) (cl : Nat), k ≤ s.length + 1 ∧ gk = s.length + 1 - k + 1 ∧ i = .int .i64 k ∧ o = .slice Ao xs.length co ∧ l = .slice Al ws.length cl ∧ c = .string ⟨cur.toArray⟩ ∧ LnMem w wr vs mid xs ws Ao co Al cl ∧ LnTxt s k xs ws cur)
  case atStart =>
    refine ⟨0, [], w.heap.size, [], [], [], none, 0, none, 0, by omega, by omega, rfl, rfl, rfl, rfl, ⟨World.ownsRow_nil _ _ _ _, OwnStrs.nil_, Nat.le_refl _, Nat.le_refl _, fun j g hj => by simp at hj, World.ownsRow_nil _ _ _ _, Below.refl _ _⟩, by simp, by simp, by simp, ?_⟩
    rw [if_pos (by omega), linesW_scan]; rfl
  case round =>
    obtain ⟨k, vs, mid, xs, ws, cur, Ao, co, Al, cl, hk, rfl, rfl, rfl, rfl, rfl, hM, hT⟩ := hrel
    obtain ⟨wo, rfl⟩ : ∃ wo : World, wo = wr := ⟨_, rfl⟩
    have HM := Lib.hid hM
    have HT := Lib.hid hT
    have hx1 := hT.1
    have hx2 := hT.2.1
    have hx3 := hT.2.2.1
    have hmd := hM.2.2.2.1
    have hmd0 := hM.2.2.1
    clear hM hT
    by_cases hkl : k < s.length
    · have hkb : k < (⟨s.toArray⟩ : ByteArray).size := by rw [hlen]; exact hkl
      have hbx : (⟨s.toArray⟩ : ByteArray)[k]'hkb = s[k] := rfl
      by_cases hnl : s[k] = 10
      · have n10 : ((((⟨s.toArray⟩ : ByteArray)[k]'hkb).toNat : Int) != 10) = false := by rw [hbx, hnl]; rfl
        have e10 : ((((⟨s.toArray⟩ : ByteArray)[k]'hkb).toNat : Int) == 10) = true := by rw [hbx, hnl]; rfl
        have HTN := Lib.hid (HT.out.nl hkl hnl)
        clear hbx hnl
        by_cases hcu : cur = []
        · subst hcu
          have e0 : ws ++ openW [] = ws := by simp [openW]
          rw [e0] at HTN
          clear e0
          go_wp2_with (at_builtin; refine wpList_append1 _ rfl _ _ 58 rfl w.heap.size 22 i0'' (.slice none 0 0) 24 Tryz.underlying58 hi'' hz0'' hz1'' hz2'' rfl _ _ _ rfl (HM.out.1.alloc _) (.slice Al (ws).length cl) wo.heap.size rfl (by first | go_cell | (simp; done)) rfl (by unfold maxLen; omega) (by omega) (by have := HM.out.2.2.2.2.2.2.size; simp; omega) ?_)
          intro v5 w5 hown5 hg5 hob5
          obtain ⟨A5, c5', hv5, -⟩ := own_slice hown5
          subst hv5
          have HM5 := Lib.hid (HM.out.line hown5 hg5)
          clear hown5 hg5 hob5 HM
          go_wp2
          go_roundg (s.length + 1 - k)
          case measure => omega
          case rel => exact ⟨k + 1, _, _, xs ++ [ws], [], [], A5, c5', none, 0, by omega, by omega, by go_num, by simp, rfl, rfl, HM5.out, HTN.out⟩
        · have hcb : (cur == []) = false := beq_false_of_ne hcu
          have e0 : openW cur = [cur] := by unfold openW; rw [if_neg (by simpa using hcu)]
          rw [e0] at HTN
          clear e0 hcu
          go_wp2_with (at_builtin; refine wpList_append1 _ rfl _ _ 22 rfl mid 9 i0' (.string ⟨#[]⟩) 16 Tryz.underlying22 hi' hz0' hz1' hz2' rfl _ _ _ rfl (HM.out.2.2.2.2.2.1.alloc _) (strV cur) wo.heap.size rfl (by first | go_cell | (simp [strV]; done)) rfl (by unfold maxLen; omega) (by omega) (by simp; omega) ?_)
          intro v' w3 hown3 hg3 hob3
          obtain ⟨A3, c3', hv3, -⟩ := own_slice hown3
          subst hv3
          have HM3 := Lib.hid (HM.out.word cur hown3 hg3)
          clear hown3 hg3 hob3 HM
          have hwl : (ws ++ [cur]).length = ws.length + 1 := by simp
          go_wp2_with (at_builtin; refine wpList_append1 _ rfl _ _ 58 rfl w.heap.size 22 i0'' (.slice none 0 0) 24 Tryz.underlying58 hi'' hz0'' hz1'' hz2'' rfl _ _ _ rfl (HM3.out.1.alloc _) (.slice A3 (ws ++ [cur]).length c3') w3.heap.size rfl (by first | go_cell | (simp; done)) rfl (by unfold maxLen; omega) (by omega) (by have := HM3.out.2.2.2.2.2.2.size; simp; omega) ?_)
          intro v5 w5 hown5 hg5 hob5
          obtain ⟨A5, c5', hv5, -⟩ := own_slice hown5
          subst hv5
          rw [← hwl] at hown5 hg5; have HM5 := Lib.hid (HM3.out.line hown5 hg5)
          clear hown5 hg5 hob5 HM3
          go_wp2
          go_roundg (s.length + 1 - k)
          case measure => omega
          case rel => exact ⟨k + 1, _, _, xs ++ [ws ++ [cur]], [], [], A5, c5', none, 0, by omega, by omega, by go_num, by simp, rfl, rfl, HM5.out, HTN.out⟩
      · have hnn : s[k].toNat ≠ 10 := fun e => hnl (UInt8.toNat_inj.1 e)
        have n10 : ((((⟨s.toArray⟩ : ByteArray)[k]'hkb).toNat : Int) != 10) = true := by rw [hbx]; simp; omega
        have e10 : ((((⟨s.toArray⟩ : ByteArray)[k]'hkb).toNat : Int) == 10) = false := by rw [hbx]; simp; omega
        by_cases hgp : isGap s[k] = true
        · have HTG := Lib.hid (HT.out.gap hkl hnl hgp)
          by_cases h32 : s[k].toNat = 32
          · have n32 : ((((⟨s.toArray⟩ : ByteArray)[k]'hkb).toNat : Int) != 32) = false := by rw [hbx, h32]; rfl
            clear hbx hnl hnn hgp h32
            by_cases hcu : cur = []
            · subst hcu
              have e0 : ws ++ openW [] = ws := by simp [openW]
              rw [e0] at HTG
              clear e0
              go_wp2
              go_roundg (s.length + 1 - k)
              case measure => omega
              case rel => exact ⟨k + 1, vs, mid, xs, ws, [], Ao, co, Al, cl, by omega, by omega, by go_num, rfl, rfl, rfl, HM.out, HTG.out⟩
            · have hcb : (cur == []) = false := beq_false_of_ne hcu
              have e0 : openW cur = [cur] := by unfold openW; rw [if_neg (by simpa using hcu)]
              rw [e0] at HTG
              clear e0 hcu
              go_wp2_with (at_builtin; refine wpList_append1 _ rfl _ _ 22 rfl mid 9 i0' (.string ⟨#[]⟩) 16 Tryz.underlying22 hi' hz0' hz1' hz2' rfl _ _ _ rfl (HM.out.2.2.2.2.2.1.alloc _) (strV cur) wo.heap.size rfl (by first | go_cell | (simp [strV]; done)) rfl (by unfold maxLen; omega) (by omega) (by simp; omega) ?_)
              intro v' w3 hown3 hg3 hob3
              obtain ⟨A3, c3', hv3, -⟩ := own_slice hown3
              subst hv3
              have HM3 := Lib.hid (HM.out.word cur hown3 hg3)
              clear hown3 hg3 hob3 HM
              go_wp2
              go_roundg (s.length + 1 - k)
              case measure => omega
              case rel => exact ⟨k + 1, vs, mid, xs, ws ++ [cur], [], Ao, co, A3, c3', by omega, by omega, by go_num, rfl, by simp, rfl, HM3.out, HTG.out⟩
          · have h9 : s[k].toNat = 9 := by
              unfold isGap at hgp
              simp at hgp
              rcases hgp with hgp | hgp
              · exact absurd (by rw [hgp]; rfl) h32
              · rw [hgp]; rfl
            have n32 : ((((⟨s.toArray⟩ : ByteArray)[k]'hkb).toNat : Int) != 32) = true := by rw [hbx]; simp; omega
            have n9 : ((((⟨s.toArray⟩ : ByteArray)[k]'hkb).toNat : Int) != 9) = false := by rw [hbx, h9]; rfl
            clear hbx hnl hnn hgp h32 h9
            by_cases hcu : cur = []
            · subst hcu
              have e0 : ws ++ openW [] = ws := by simp [openW]
              rw [e0] at HTG
              clear e0
              go_wp2
              go_roundg (s.length + 1 - k)
              case measure => omega
              case rel => exact ⟨k + 1, vs, mid, xs, ws, [], Ao, co, Al, cl, by omega, by omega, by go_num, rfl, rfl, rfl, HM.out, HTG.out⟩
            · have hcb : (cur == []) = false := beq_false_of_ne hcu
              have e0 : openW cur = [cur] := by unfold openW; rw [if_neg (by simpa using hcu)]
              rw [e0] at HTG
              clear e0 hcu
              go_wp2_with (at_builtin; refine wpList_append1 _ rfl _ _ 22 rfl mid 9 i0' (.string ⟨#[]⟩) 16 Tryz.underlying22 hi' hz0' hz1' hz2' rfl _ _ _ rfl (HM.out.2.2.2.2.2.1.alloc _) (strV cur) wo.heap.size rfl (by first | go_cell | (simp [strV]; done)) rfl (by unfold maxLen; omega) (by omega) (by simp; omega) ?_)
              intro v' w3 hown3 hg3 hob3
              obtain ⟨A3, c3', hv3, -⟩ := own_slice hown3
              subst hv3
              have HM3 := Lib.hid (HM.out.word cur hown3 hg3)
              clear hown3 hg3 hob3 HM
              go_wp2
              go_roundg (s.length + 1 - k)
              case measure => omega
              case rel => exact ⟨k + 1, vs, mid, xs, ws ++ [cur], [], Ao, co, A3, c3', by omega, by omega, by go_num, rfl, by simp, rfl, HM3.out, HTG.out⟩
        · have hgp' : isGap s[k] = false := by simpa using hgp
          have hg2 : s[k].toNat ≠ 32 ∧ s[k].toNat ≠ 9 := by
            unfold isGap at hgp'
            simp at hgp'
            exact ⟨fun e => hgp'.1 (UInt8.toNat_inj.1 e), fun e => hgp'.2 (UInt8.toNat_inj.1 e)⟩
          have n32 : ((((⟨s.toArray⟩ : ByteArray)[k]'hkb).toNat : Int) != 32) = true := by rw [hbx]; simp; omega
          have n9 : ((((⟨s.toArray⟩ : ByteArray)[k]'hkb).toNat : Int) != 9) = true := by rw [hbx]; simp; omega
          have HTG := Lib.hid (HT.out.more hkl hnl hgp')
          have q0 : ∀ w, (Instr.slice 9 (.string ⟨s.toArray⟩) (some (.int .i64 k)) (some (.int .i64 ((k : Int) + 1))) none).run Tryz.prog w = .ok (.string ⟨[s[k]].toArray⟩) w := fun w => by
            have h := run_piece (P := Tryz.prog) 9 Tryz.underlying9 ⟨s.toArray⟩ k (k + 1) (by omega) (by omega) w
            rw [piece_one s k hkl] at h
            exact h
          have q1 := str_add (P := Tryz.prog) cur [s[k]] (cur ++ [s[k]]) rfl (by omega) (by simp)
          clear hbx hnl hnn hgp hgp' hg2
          generalize [s[k]] = sb at q0 q1 HTG
          generalize cur ++ sb = cur' at q1 HTG
          go_wp2
          go_roundg (s.length + 1 - k)
          case measure => omega
          case rel => exact ⟨k + 1, vs, mid, xs, ws, cur', Ao, co, Al, cl, by omega, by omega, by go_num, rfl, rfl, rfl, HM.out, HTG.out⟩
    · by_cases hke : k = s.length
      · subst hke
        have HTN := Lib.hid HT.out.end_
        by_cases hcu : cur = []
        · subst hcu
          have e0 : ws ++ openW [] = ws := by simp [openW]
          rw [e0] at HTN
          clear e0
          go_wp2_with (at_builtin; refine wpList_append1 _ rfl _ _ 58 rfl w.heap.size 22 i0'' (.slice none 0 0) 24 Tryz.underlying58 hi'' hz0'' hz1'' hz2'' rfl _ _ _ rfl (HM.out.1.alloc _) (.slice Al (ws).length cl) wo.heap.size rfl (by first | go_cell | (simp; done)) rfl (by unfold maxLen; omega) (by omega) (by have := HM.out.2.2.2.2.2.2.size; simp; omega) ?_)
          intro v5 w5 hown5 hg5 hob5
          obtain ⟨A5, c5', hv5, -⟩ := own_slice hown5
          subst hv5
          have HM5 := Lib.hid (HM.out.line hown5 hg5)
          clear hown5 hg5 hob5 HM
          go_wp2
          go_roundg (s.length + 1 - s.length)
          case measure => omega
          case rel => exact ⟨s.length + 1, _, _, xs ++ [ws], [], [], A5, c5', none, 0, by omega, by omega, by go_num, by simp, rfl, rfl, HM5.out, HTN.out⟩
        · have hcb : (cur == []) = false := beq_false_of_ne hcu
          have e0 : openW cur = [cur] := by unfold openW; rw [if_neg (by simpa using hcu)]
          rw [e0] at HTN
          clear e0 hcu
          go_wp2_with (at_builtin; refine wpList_append1 _ rfl _ _ 22 rfl mid 9 i0' (.string ⟨#[]⟩) 16 Tryz.underlying22 hi' hz0' hz1' hz2' rfl _ _ _ rfl (HM.out.2.2.2.2.2.1.alloc _) (strV cur) wo.heap.size rfl (by first | go_cell | (simp [strV]; done)) rfl (by unfold maxLen; omega) (by omega) (by simp; omega) ?_)
          intro v' w3 hown3 hg3 hob3
          obtain ⟨A3, c3', hv3, -⟩ := own_slice hown3
          subst hv3
          have HM3 := Lib.hid (HM.out.word cur hown3 hg3)
          clear hown3 hg3 hob3 HM
          have hwl : (ws ++ [cur]).length = ws.length + 1 := by simp
          go_wp2_with (at_builtin; refine wpList_append1 _ rfl _ _ 58 rfl w.heap.size 22 i0'' (.slice none 0 0) 24 Tryz.underlying58 hi'' hz0'' hz1'' hz2'' rfl _ _ _ rfl (HM3.out.1.alloc _) (.slice A3 (ws ++ [cur]).length c3') w3.heap.size rfl (by first | go_cell | (simp; done)) rfl (by unfold maxLen; omega) (by omega) (by have := HM3.out.2.2.2.2.2.2.size; simp; omega) ?_)
          intro v5 w5 hown5 hg5 hob5
          obtain ⟨A5, c5', hv5, -⟩ := own_slice hown5
          subst hv5
          rw [← hwl] at hown5 hg5; have HM5 := Lib.hid (HM3.out.line hown5 hg5)
          clear hown5 hg5 hob5 HM3
          go_wp2
          go_roundg (s.length + 1 - s.length)
          case measure => omega
          case rel => exact ⟨s.length + 1, _, _, xs ++ [ws ++ [cur]], [], [], A5, c5', none, 0, by omega, by omega, by go_num, by simp, rfl, rfl, HM5.out, HTN.out⟩
      · obtain rfl : k = s.length + 1 := by omega
        have hM := HM.out
        have hT := HT.out.2.2.2
        rw [if_neg (by omega), List.append_nil] at hT
        obtain rfl : xs = linesW s := hT.symm
        have hro := fun (w'' : World) ha => hM.2.1.rows_agreeV (w' := w'') hM.1 ha
        have hbo := hM.2.2.2.2.2.2
        have HRO := Lib.hid hro
        have HBO := Lib.hid hbo
        clear hM hT hro hbo HM HT
        go_wp2
        go_ret
        exact ⟨_, _, _, rfl, HRO.out, HBO.out⟩
end Go.Proofs.YtnjcegjcaaplgaaGreatDoor
