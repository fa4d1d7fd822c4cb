/- What lastVar, advance and Brute answer. -/
import Derived.Test.YtdacdodigbpdoaaCnf
import Derived.Test.YtdacdodigbpdoaaBoolBlk
import Derived.Test.YtdacdodigbpdoaaBruteMath
import Derived.WalkSpells
import Derived.Deep.DeepCutAuto
import Derived.Deep.OwnRows
import Derived.Deep.RegionHeld3
import Derived.Outline
namespace Go.Proofs.Ytdacdodigbpdoaa
open Go.RowKit

theorem lastvar_any (xs : List Int) (V : Int) (B : Nat) (A : Option Addr) (c : Nat) (w : World) (hxw : Wide xs) (h : Ints w B A xs) :
    Calls Try.prog 23 #[.slice A xs.length c, .int .i64 V] w fun e w' => e = .returned (.int .i64 (min (maxVar xs) V)) ∧ w = w' := by
  have hx := hxw.1
  have HB := Lib.hid hxw.2
  have H := Lib.hid h
  clear hxw h
  go_enter Try.func23, Try.ntmps23
  go_wp2
  go_loopg [5, 10] (xs.length + 1) (fun g m i w' => ∃ k : Nat, w = w' ∧ k ≤ xs.length ∧ g = xs.length - k + 1 ∧ i = .int .i64 k ∧ m = .int .i64 (maxVar (xs.take k)))
  case atStart => exact ⟨0, rfl, by omega, by omega, rfl, rfl⟩
  case round =>
    obtain ⟨k, rfl, hk, rfl, rfl, rfl⟩ := hrel
    by_cases hlt : k < xs.length
    · obtain ⟨b, off, rfl, _, hcell⟩ := H.out.at_ hlt
      obtain ⟨hb1, hb2⟩ := HB.out k
      have ht : xs.take (k + 1) = xs.take k ++ [xs.getD k 0] := by rw [List.take_succ_eq_append_getElem hlt]; simp [List.getD, hlt]
      obtain ⟨l, hl⟩ : ∃ l, l = xs.getD k 0 := ⟨_, rfl⟩
      rw [← hl] at hcell hb1 hb2 ht
      clear hl
      have hm := maxVar_snoc (xs.take k) l
      rw [← ht] at hm
      have HM := Lib.hid hm
      obtain ⟨m, hm1⟩ : ∃ m, m = maxVar (xs.take k) := ⟨_, rfl⟩
      rw [← hm1]
      rw [← hm1] at HM
      clear hm hm1 ht
      have HC := fun w => var_any l w hb1 hb2
      go_wp2_with (go_at_call 27; refine (HC _).mono ?_; rintro e w' ⟨rfl, rfl⟩)
      all_goals
        go_roundg (xs.length - k)
        case measure => omega
        case rel => exact ⟨k + 1, rfl, by omega, by omega, by go_num, by rw [HM.out]; go_num⟩
    · have e : xs.take k = xs := List.take_of_length_le (by omega)
      have E := Lib.hid e
      clear e
      go_wp2
      all_goals
        rw [E.out] at *
        go_ret
        exact ⟨ret_int (by omega), rfl⟩

/-- an assignment is made the next one that differs in its first n variables -/
def Advanced (g : Nat) (z : List Bool) (n : Nat) (w : World) (e : Ending) (w' : World) : Prop :=
  (e = .returned (.bool true) ∧ ∃ i z', i < n ∧ z.getD i false = false ∧ (∀ j, i < j → j < n → z.getD j false = true) ∧ z' = z.take i ++ true :: List.replicate (z.length - i - 1) false ∧ BlkB w' g 4 z' ∧ w.grownBy w' (some g)) ∨
  (e = .returned (.bool false) ∧ (∀ j, j < n → z.getD j false = true) ∧ w.grownBy w' (some g))

theorem advance_any (z : List Bool) (n g : Nat) (w : World) (hz : z.length ≤ 1099511627776) (hn : n ≤ z.length) (h : BlkB w g 4 z) :
    Calls Try.prog 22 #[.slice (some ⟨g, 0, none⟩) z.length z.length, .int .i64 n] w (Advanced g z n w) := by
  have H := Lib.hid h
  clear h
  go_enter Try.func22, Try.ntmps22
  go_upto_region 1 with fail
  go_cut [8] (fun _s w1 => BlkB w1 g 4 (zeroTail z n) ∧ w.grownBy w1 (some g))
  case first =>
    by_cases hnv : n = z.length
    · subst hnv
      have hcl := fun (w : World) (ty : TypeId) (A : Option Addr) (c : Nat) => run_clear_none (P := Try.prog) w 32 4 ty Try.underlying32 A c
      go_wp2
      go_meet
      exact ⟨by rw [zeroTail_full]; exact H.out, World.grownBy.refl w _⟩
    · have hlt : n < z.length := by omega
      have hcl := fun (ty : TypeId) => Lib.run_clear_slice (P := Try.prog) w 32 4 ty (.bool false) Try.underlying32 (fun w => by kernel_rfl) rfl rfl g n (z.length - n) (z.length - n) (by omega) (fun j hj => by rw [H.out.cell (by omega)]; rfl) (fun j hj => H.out.frozen _)
      go_wp2
      go_meet
      exact blkB_setCells _ _ _ _ H.out (by omega)
  case rest =>
    obtain ⟨hb, hg⟩ := hcut
    have HB := Lib.hid hb
    have HG := Lib.hid hg
    clear hb hg
    go_wp2
    go_loopg [5] (n + 1) (fun gk i wr => ∃ (k : Nat) (x : Int), k ≤ n ∧ gk = k + 1 ∧ i = .int .i64 x ∧ Hid (x = (k : Int) - 1) ∧ BlkB wr g 4 (zeroTail z k) ∧ w.grownBy wr (some g) ∧ ∀ j, k ≤ j → j < n → z.getD j false = true)
    case atStart => exact ⟨n, _, by omega, rfl, rfl, Lib.hid rfl, HB.out, HG.out, fun j h1 h2 => by omega⟩
    case round =>
      obtain ⟨k, x, hk, rfl, rfl, hx, hb, hg, hall⟩ := hrel
      have HBr := Lib.hid hb
      have HGr := Lib.hid hg
      have HA := Lib.hid hall
      clear hb hg hall HB HG
      by_cases hneg : x < 0
      · have hk0 : k = 0 := by have := hx.out; omega
        have HK := Lib.hid hk0
        clear hk0
        go_wp2
        go_ret
        exact .inr ⟨rfl, fun j hj => HA.out j (by have := HK.out; omega) hj, HGr.out⟩
      · obtain ⟨j, hj⟩ : ∃ j : Nat, k = j + 1 := ⟨k - 1, by have := hx.out; omega⟩
        have hxj : x = (j : Int) := by have := hx.out; omega
        subst hxj
        subst hj
        clear hx hneg
        have hjz : j < z.length := by omega
        have hc : wr.cell? ⟨g, j, none⟩ = some (.bool (z.getD j false)) := by rw [HBr.out.cell (by rw [zeroTail_length (by omega)]; omega), zeroTail_getD (by omega) (by omega)]
        have hf : wr.frozen? ⟨g, j, none⟩ = false := HBr.out.frozen j
        rcases hzj : z.getD j false with _ | _
        · rw [hzj] at hc
          have HZ := Lib.hid hzj
          clear hzj
          go_wp2
          go_ret
          refine .inl ⟨rfl, j, _, by omega, HZ.out, fun i h1 h2 => HA.out i (by omega) h2, rfl, ?_, grown_trans HGr.out (grown_setCell _ ⟨g, j, none⟩ _)⟩
          rw [← zeroTail_set_true hjz]
          exact HBr.out.set_ j true
        · rw [hzj] at hc
          have HZ := Lib.hid hzj
          clear hzj
          go_wp2
          go_roundg (j + 1)
          case measure => omega
          case rel =>
            refine ⟨j, _, by omega, rfl, rfl, Lib.hid rfl, ?_, grown_trans HGr.out (grown_setCell _ ⟨g, j, none⟩ _), fun i h1 h2 => ?_⟩
            · rw [← zeroTail_set_false hjz]
              exact HBr.out.set_ j false
            · rcases Nat.eq_or_lt_of_le h1 with rfl | h1
              · exact HZ.out
              · exact HA.out i (by omega) h2

/-- what is left behind, with the answer at hand -/
def AdvRest (g : Nat) (z : List Bool) (n : Nat) (w : World) (ok : Bool) (w' : World) : Prop :=
  w.grownBy w' (some g) ∧ ((ok = true ∧ ∃ i z', i < n ∧ z.getD i false = false ∧ (∀ j, i < j → j < n → z.getD j false = true) ∧ z' = z.take i ++ true :: List.replicate (z.length - i - 1) false ∧ BlkB w' g 4 z') ∨
  (ok = false ∧ (∀ j, j < n → z.getD j false = true)))
theorem Advanced.rest {g : Nat} {z : List Bool} {n : Nat} {w : World} {e : Ending} {w' : World} (h : Advanced g z n w e w') : ∃ ok, e = .returned (.bool ok) ∧ AdvRest g z n w ok w' := by
  rcases h with ⟨rfl, i, z', h1, h2, h3, h4, h5, h6⟩ | ⟨rfl, h1, h2⟩
  · exact ⟨true, rfl, h6, .inl ⟨rfl, i, z', h1, h2, h3, h4, h5⟩⟩
  · exact ⟨false, rfl, h2, .inr ⟨rfl, h1⟩⟩

theorem Try.infoBool : (Try.prog.info? 4).map (fun i => (i.zero, i.size, i.bytes)) = some (some (.bool false), 1, 1) := by kernel_rfl

theorem madeBools (V : Nat) : madeCells #[Value.bool false] V = boolCells (List.replicate V false) := by
  apply Array.ext'
  rw [toList_madeCells_one]
  simp [boolCells]

/-- the first of all assignments that satisfy is found, if there is one -/
def Bruted (V : Nat) (xss : List (List Int)) (w : World) (e : Ending) (w' : World) : Prop :=
  (∃ g z, e = .returned (.tuple #[.slice (some ⟨g, 0, none⟩) V V, .bool true]) ∧ z.length = V ∧ BlkB w' g 4 z ∧ formSat z xss = true ∧ (∀ b, b.length = V → formSat b xss = true → bval z ≤ bval b) ∧ Below w.heap.size w w' ∧ w.heap.size ≤ g) ∨
  (e = .returned (.tuple #[.slice none 0 0, .bool false]) ∧ (∀ b, b.length = V → formSat b xss = false) ∧ Below w.heap.size w w')

theorem brute_any (V : Nat) (xss : List (List Int)) (B : Nat) (A : Option Addr) (c : Nat) (w : World) (hV : V ≤ 20) (hxw : Wides xss) (h : Rows w B A xss) (hB : B ≤ w.heap.size) :
    Calls Try.prog 15 #[.agg #[.int .i64 V, .slice A xss.length c]] w (Bruted V xss w) := by
  have H := Lib.hid h
  have HX := Lib.hid hxw
  clear h hxw
  have hmk := run_make_row' (P := Try.prog) 32 4 (.bool false) 1 Try.underlying32 Try.infoBool rfl .i64 .i64 V (by omega) (by omega)
  go_enter Try.func15, Try.ntmps15
  go_wp2
  obtain ⟨w1, hw1⟩ : ∃ w1, w1 = (w.alloc (Obj.cells #[Value.int IntKind.i64 V, Value.slice A xss.length c] 30)).alloc (Obj.cells (madeCells #[Value.bool false] V) 4) := ⟨_, rfl⟩
  have hR : Rows w1 B A xss := by rw [hw1]; exact (H.out.alloc hB _).alloc (by simp; omega) _
  have hBel : Below w.heap.size w w1 := by rw [hw1]; exact ((Below.refl _ _).alloc (Nat.le_refl _) _).alloc (by simp) _
  have hc0 : w1.cell? ⟨w.heap.size, 0, none⟩ = some (.int .i64 V) := by rw [hw1]; go_cell
  have hc1 : w1.cell? ⟨w.heap.size, 1, none⟩ = some (.slice A xss.length c) := by rw [hw1]; go_cell
  have hsz : w1.heap.size = w.heap.size + 2 := by rw [hw1]; simp
  have hblk : BlkB w1 (w.heap.size + 1) 4 (List.replicate V false) := by
    rw [hw1, madeBools]
    have := Blk.new (w.alloc (Obj.cells #[Value.int IntKind.i64 V, Value.slice A xss.length c] 30)) 4 (boolCells (List.replicate V false))
    simp only [World.size_alloc] at this
    exact this
  rw [← hw1]
  clear hw1 hmk
  have HS := Lib.hid hsz
  have HR := Lib.hid hR
  have HBel := Lib.hid hBel
  have HBK := Lib.hid hblk
  have HC0 := Lib.hid hc0
  have HC1 := Lib.hid hc1
  clear hsz hR hBel hblk hc0 hc1
  go_loopg [5] (2 ^ V + 1) (fun gk _i wr => ∃ z : List Bool, Hid (gk = 2 ^ V - bval z + 1) ∧ Hid (z.length = V) ∧ BlkB wr (w.heap.size + 1) 4 z ∧ w1.grownBy wr (some (w.heap.size + 1)) ∧ ∀ b : List Bool, b.length = V → bval b < bval z → formSat b xss = false)
  case atStart => exact ⟨_, Lib.hid (by rw [bval_false, Nat.sub_zero]), Lib.hid (by simp), HBK.out, World.grownBy.refl _ _, fun b _ hb => by rw [bval_false] at hb; omega⟩
  case round =>
    obtain ⟨z, hgk, hzl, hblk, hgr, hall⟩ := hrel
    have HBr := Lib.hid hblk
    have HGr := Lib.hid hgr
    have HA := Lib.hid hall
    clear hblk hgr hall HBK
    have hne : ∀ p : Addr, p.block < w1.heap.size → p.block ≠ w.heap.size + 1 → wr.cell? p = w1.cell? p := fun p hp hq => World.cell?_of_block (HGr.out.block p.block hp (fun e => hq (by injection e)))
    have hc0 : wr.cell? ⟨w.heap.size, 0, none⟩ = some (.int .i64 V) := (hne ⟨w.heap.size, 0, none⟩ (by rw [HS.out]; simp) (by simp)).trans HC0.out
    have hc1 : wr.cell? ⟨w.heap.size, 1, none⟩ = some (.slice A xss.length c) := (hne ⟨w.heap.size, 1, none⟩ (by rw [HS.out]; simp) (by simp)).trans HC1.out
    have hRr : Rows wr B A xss := HR.out.keep fun p hp => hne p (by rw [HS.out]; omega) (by omega)
    have HRr := Lib.hid hRr
    clear hne hRr
    have hb0 := nextUns_bd z xss 0 (Nat.zero_le _)
    have ha0 := nextUns_at z xss _ 0 (Nat.zero_le _) rfl
    have hfs := nextUns_all z xss
    have hcon := fun w' (h1 : Rows w' B A xss) (h2 : Bools w' w'.heap.size (some ⟨w.heap.size + 1, 0, none⟩) z) => next_any xss B _ A (some ⟨w.heap.size + 1, 0, none⟩) z c V 0 w' HX.out (by rw [hzl.out]; omega) (Nat.zero_le _) h1 h2
    simp only [hzl.out] at hcon
    obtain ⟨m, hm⟩ : ∃ m, m = nextUns z xss 0 := ⟨_, rfl⟩
    rw [← hm] at hb0 ha0 hfs
    simp only [← hm] at hcon
    clear hm
    have HAT := Lib.hid ha0
    have HFS := Lib.hid hfs
    have HCON := Lib.hid hcon
    clear ha0 hfs hcon
    by_cases hml : m = xss.length
    · have hq : ((m : Int) == (xss.length : Int)) = true := by simp; omega
      have HML := Lib.hid hml
      clear hml
      go_wp2_with (go_at_call 20; refine (HCON.out _ HRr.out HBr.out.bools).mono ?_; rintro e w' ⟨rfl, rfl⟩)
      go_ret2
      refine .inl ⟨_, z, rfl, hzl.out, HBr.out, ?_, fun b hb1 hb2 => ?_, ?_, by omega⟩
      · rw [← HFS.out, HML.out]; simp
      · rcases Nat.lt_or_ge (bval b) (bval z) with hlt | hge
        · rw [HA.out b hb1 hlt] at hb2; cases hb2
        · exact hge
      · exact HBel.out.trans (below_of_grown HGr.out (by rw [HS.out]; omega) (by omega))
    · have hq : ((m : Int) == (xss.length : Int)) = false := by simp; omega
      have hlt : m < xss.length := by omega
      clear hml
      have huns : clauseSat z (xss.getD m []) = false := by
        rcases HAT.out with h | h
        · omega
        · exact h
      obtain ⟨b, off, Ak, ck, hA, hbB, hck, hik⟩ := HRr.out.at_ hlt
      subst hA
      have hfsm : ∀ x, clauseSat x (xss.getD m []) = false → formSat x xss = false := fun x hx => formSat_false hlt hx
      have hwk := HX.out.2 m
      obtain ⟨xs, hxs⟩ : ∃ xs, xs = xss.getD m [] := ⟨_, rfl⟩
      rw [← hxs] at huns hck hik hwk
      simp only [← hxs] at hfsm
      clear hxs
      have HU := Lib.hid huns
      have HIK := Lib.hid hik
      have HWK := Lib.hid hwk
      have HFM := Lib.hid hfsm
      clear huns hik hwk hfsm
      have hm0 : (0 : Int) ≤ (m : Int) := Int.natCast_nonneg _
      have hm1 : (m : Int) < (xss.length : Int) := by omega
      go_wp2_with (go_at_call 20; refine (HCON.out _ HRr.out HBr.out.bools).mono ?_; rintro e w' ⟨rfl, rfl⟩)
      have hmv := maxVar_nonneg xs
      obtain ⟨n, hn⟩ : ∃ n : Nat, (n : Int) = min (maxVar xs) (V : Int) := ⟨(min (maxVar xs) (V : Int)).toNat, by omega⟩
      have hnV : n ≤ z.length := by rw [hzl.out]; omega
      have hadv := fun w' (h1 : BlkB w' (w.heap.size + 1) 4 z) => advance_any z n (w.heap.size + 1) w' (by rw [hzl.out]; omega) hnV h1
      simp only [hzl.out] at hadv
      have HN := Lib.hid hn
      have HAD := Lib.hid hadv
      have HLV := fun w' h1 => lastvar_any xs V B Ak ck w' HWK.out h1
      simp only [← HN.out] at HLV
      have KE := Lib.hid (show ∀ w2, wr.grownBy w2 (some (w.heap.size + 1)) → w2.cell? ⟨w.heap.size, 0, none⟩ = some (.int .i64 V) ∧ w2.cell? ⟨w.heap.size, 1, none⟩ = some (.slice (some ⟨b, off, none⟩) xss.length c) ∧ w2.cell? ⟨b, off + m, none⟩ = some (.slice Ak xs.length ck) from
        fun w2 hg => ⟨hg.cell hc0 (by simp), hg.cell hc1 (by simp), hg.cell hck (by simp; omega)⟩)
      clear hn hadv hmv
      go_region_held3 (fun w' => w'.cell? ⟨w.heap.size, 0, none⟩ = some (.int .i64 V) ∧ w'.cell? ⟨w.heap.size, 1, none⟩ = some (.slice (some ⟨b, off, none⟩) xss.length c) ∧ w'.cell? ⟨b, off + m, none⟩ = some (.slice Ak xs.length ck))
        (first | exact KK.out | go_keep)
        (first
          | (go_at_call 23; refine (HLV _ (show Ints wr.drew B Ak xs from HIK.out)).mono ?_; rintro e w' ⟨rfl, rfl⟩)
          | (go_at_call 22; refine (HAD.out _ (show BlkB wr.drew (w.heap.size + 1) 4 z from HBr.out)).mono ?_; rintro e w2 hh; obtain ⟨ok, rfl, hrest⟩ := Advanced.rest hh; clear hh; have HG2 := Lib.hid (grown_undrew hrest.1); have HRE := Lib.hid hrest.2; have KK := Lib.hid (KE.out w2 HG2.out); clear hrest))
      rcases HRE.out with ⟨rfl, i, z', i1, i2, i3, i4, i5⟩ | ⟨rfl, i1⟩
      · have I1 := Lib.hid (And.intro i1 (And.intro i2 (And.intro i3 i4)))
        have I5 := Lib.hid i5
        clear i1 i2 i3 i4 i5 HRE
        go_wp2
        obtain ⟨i1, i2, i3, i4⟩ := I1.out
        have hi' : bval z < bval z' ∧ bval z' < 2 ^ V := by
          constructor
          · rw [i4]; exact bval_step (by omega) i2
          · have := bval_lt z'
            have hl : z'.length = V := by rw [i4, ← hzl.out]; simp; omega
            rwa [hl] at this
        go_roundg (2 ^ V - bval z' + 1)
        case measure => rw [hgk.out]; omega
        case rel =>
          refine ⟨z', Lib.hid rfl, Lib.hid (by rw [i4, ← hzl.out]; simp; omega), I5.out, grown_trans HGr.out HG2.out, fun x hx hlt => ?_⟩
          rw [i4] at hlt
          rcases bval_next (by rw [hx, hzl.out]) i1 hnV i2 i3 hlt with h | h
          · exact HA.out x hx h
          · exact HFM.out x (by rw [clauseSat_agree (n := n) (by rw [hx, hzl.out]) (by rw [HN.out, hzl.out]) h]; exact HU.out)
      · have I1 := Lib.hid i1
        clear i1 HRE
        go_wp2
        go_ret2
        refine .inr ⟨rfl, fun x hx => ?_, HBel.out.trans (below_of_grown (grown_trans HGr.out HG2.out) (by rw [HS.out]; omega) (by omega))⟩
        rcases Nat.lt_or_ge (bval x) (bval z) with h | h
        · exact HA.out x hx h
        · have := bval_last (by rw [hx, hzl.out]) hnV I1.out h
          exact HFM.out x (by rw [clauseSat_agree (n := n) (by rw [hx, hzl.out]) (by rw [HN.out, hzl.out]) this]; exact HU.out)
end Go.Proofs.Ytdacdodigbpdoaa
