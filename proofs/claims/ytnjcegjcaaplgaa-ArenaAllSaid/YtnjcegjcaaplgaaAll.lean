/- What All yields. -/
import Derived.Test.YtnjcegjcaaplgaaStarts
import Derived.Test.YtnjcegjcaaplgaaRangeAt
import Derived.RangeFuncNested
import Derived.RangeFuncBound
import Derived.Shelf.Abstract
import Derived.Shelf.RegionOpen
import Derived.OwnWalkIn
import Derived.TacticsInMore
import Derived.LoopNIn
import Derived.LoopIn
namespace Go.Proofs.Ytnjcegjcaaplgaa
open Go.RowKit Go.Shelf
attribute [local go_sem] Oper.semAt_some
set_option linter.unusedVariables false

/-- the map at the arena's third cell tells of these numbers whether a clause is there -/
def HasAt (W : World) (g b : Nat) (al : Int → Bool) : Prop :=
  W.cell? ⟨g, 2, none⟩ = some (.map (some b)) ∧ ∃ (D : DataW Unit) (n : Nat), W.ownsMap Try.prog 3 (unitElem (H := Unit)) b n D ∧ ∀ x : Int, Maps.has D (.int .i64 x) = al x
theorem HasAt.below {W W' : World} {g b B : Nat} {al : Int → Bool} (h : HasAt W g b al) (hb : Below B W W') (hg : g < B) (hbb : b < B) : HasAt W' g b al := by
  obtain ⟨h1, D, n, ⟨es, clock, h2, h3⟩, h4⟩ := h
  exact ⟨(hb.cell (p := ⟨g, 2, none⟩) hg).trans h1, D, n, ⟨es, clock, (hb.block b hbb).trans h2, h3⟩, h4⟩
theorem HasAt.uniq {W : World} {g b : Nat} {al al' : Int → Bool} (h : HasAt W g b al) (h' : HasAt W g b al') : al = al' := by
  obtain ⟨_, D, n, ⟨es, clock, h2, F, _, rfl⟩, h4⟩ := h
  obtain ⟨_, D', n', ⟨es', clock', h2', F', _, rfl⟩, h4'⟩ := h'
  rw [h2] at h2'
  injection h2' with h2'
  injection h2' with e1 e2
  subst e1
  funext x
  rw [← h4, ← h4']
theorem Ar.hasAt {w : World} {base g b : Nat} {gw : Option Nat} {lim : Int} {cs : List Cl} (h : Ar w base g b gw lim cs) : HasAt w g b (fun x => (at? cs x).isSome) := by
  obtain ⟨A, c, hblk, _, _⟩ := h.ex
  obtain ⟨D, n, hm, hh, _, _⟩ := h.map
  have c2 := hblk.cell 2
  simp at c2
  exact ⟨c2, D, n, hm, hh⟩

theorem has_at {w : World} {g b : Nat} {al : Int → Bool} (h : HasAt w g b al) (x : Int) (h1 : -9223372036854775808 ≤ x) (h2 : x ≤ 9223372036854775807) :
    Calls Try.prog 27 #[.pointer (some ⟨g, 0, none⟩), .int .i64 x] w fun e w' => e = .returned (.bool (al x)) ∧ Below w.heap.size w w' := by
  obtain ⟨c2, D, n, hm, hh⟩ := h
  have HH := Lib.hid (hh x)
  clear hh
  go_enter Try.func27, Try.ntmps27
  go_wp2_with (at_lookup; refine wpList_lookup_own_unit _ rfl _ _ 51 rfl 3 54 intLaw Try.underlying51 (zeroUnit _) b n D rfl hm _ _ rfl (Maps.keyOf_int_mk Try.underlying3 (WalkArith.wf_i64 (by omega))) ?_)
  go_ret
  exact ⟨by rw [HH.out]; rfl, (Below.refl _ _).alloc (Nat.le_refl _) _⟩

theorem all_any (g : Nat) (w : World) :
    Calls Try.prog 10 #[.pointer (some ⟨g, 0, none⟩)] w fun e w' => e = .returned (.func (.func 25) #[] #[.pointer (some ⟨w.heap.size, 0, none⟩)]) ∧ w' = w.alloc (.cells #[.pointer (some ⟨g, 0, none⟩)] 25) := by
  go_enter Try.func10, Try.ntmps10
  go_wp2
  go_ret
  exact ⟨rfl, rfl⟩

set_option maxRecDepth 100000 in
set_option maxHeartbeats 2000000 in
theorem all_seq {w : World} {base g b : Nat} {gw : Option Nat} {lim : Int} {cs : List Cl} (h : Ar w base g b gw lim cs) (ht : total cs ≤ 1099511627776) (Bn : Nat) (hBn : Bn < w.heap.size) (hc : w.cell? ⟨Bn, 0, none⟩ = some (.pointer (some ⟨g, 0, none⟩))) (m : Nat) (hm : 5 ≤ m) :
    SeqAt m Try.prog 25 #[.pointer (some ⟨Bn, 0, none⟩)] (fun k => (startsFrom 0 cs).getD k 0) cs.length
      (fun k W => ∃ al, HasAt W g b al ∧ al ((startsFrom 0 cs).getD k 0) = false) (fun k W => ∃ al, HasAt W g b al ∧ al ((startsFrom 0 cs).getD k 0) = true) (fun W => W.cell? ⟨Bn, 0, none⟩ = some (.pointer (some ⟨g, 0, none⟩)) ∧ ∃ al, HasAt W g b al) w := by
  intro l J Jx W hW hR hK hS hY h0
  have har := h.below hW
  have hlen := length_le_total cs
  have hcl : cs.length ≤ 1099511627776 := by omega
  have hg1 := har.glt
  have hb1 := har.blt
  have hbd : ∀ k, -9223372036854775808 ≤ (startsFrom 0 cs).getD k 0 ∧ (startsFrom 0 cs).getD k 0 ≤ 9223372036854775807 := by
    intro k
    by_cases hk : k < cs.length
    · have e : cs = cs.take k ++ cs[k] :: cs.drop (k + 1) := by rw [← List.drop_eq_getElem_cons hk, List.take_append_drop]
      have h1 := starts_at (cs.take k) cs[k] (cs.drop (k + 1))
      rw [← e, List.length_take, Nat.min_eq_left (by omega)] at h1
      have h2 := size_le_total (cs.take k) (cs.drop (k + 1)) cs[k]
      rw [← e] at h2
      rw [h1]; omega
    · rw [List.getD, List.getElem?_eq_none (by rw [startsFrom_length]; omega)]; simp
  obtain ⟨zs, hzs⟩ : ∃ zs, zs = startsFrom 0 cs := ⟨_, rfl⟩
  have hzl : zs.length = cs.length := by rw [hzs, startsFrom_length]
  have hst := starts_any har ht
  rw [← hzs] at hst hbd hS hY
  obtain ⟨N, hN⟩ : ∃ N, N = cs.length := ⟨_, rfl⟩
  rw [← hN] at hst hS hY hcl hzl ⊢
  have hc1 : W.cell? ⟨Bn, 0, none⟩ = some (.pointer (some ⟨g, 0, none⟩)) := (hR 0 W h0).1
  have HST := Lib.hid hst
  have HR := Lib.hid hR
  have HK := Lib.hid hK
  have HS := Lib.hid hS
  have HY := Lib.hid hY
  have HB := Lib.hid hbd
  have HZ := Lib.hid hzl
  clear hzs hst hR hK hS hY hlen ht h hW har hN hbd hzl hc
  refine callsIn_of_wp Try.func25 rfl trivial ?_ rfl
  simp only [Try.ntmps25, List.size_toArray, List.length_cons, List.length_nil, Nat.reduceAdd, Nat.reduceSub, Array.replicate_succ, Array.replicate_zero, List.push_toArray, List.append_toArray, List.nil_append, List.cons_append]
  have h1m : 1 ≤ m := by omega
  gi_wp2_with fail
  refine ⟨trivial, (callsIn_wide.2 HST.out).mono ?_⟩
  rintro e w1 ⟨A, c, rfl, hown1, hbw1⟩
  have hJ1 := HK.out 0 W w1 h0 hbw1
  have hsz1 := hbw1.size
  have HO1 := Lib.hid hown1
  have HB1 := Lib.hid hbw1
  have HJ1 := Lib.hid hJ1
  clear hown1 hbw1 hJ1 hc1 h0 HST
  gi_wp2
  gi_loopw [8] (fun i wr => ∃ k : Nat, k ≤ N ∧ i = .int .i64 k ∧ J k wr ∧ W.heap.size ≤ wr.heap.size ∧ wr.ownsRow W.heap.size 3 1 (.slice A N c) N (zs.map (Value.int .i64)))
    (fun i _ => N - (intOf i).toNat)
  case atStart => exact ⟨0, Nat.zero_le _, rfl, HJ1.out, hsz1, HO1.out⟩
  case round =>
    obtain ⟨k, hk, rfl, hJ, hsz, hown⟩ := hrel
    have HJ := Lib.hid hJ
    have HO := Lib.hid hown
    clear hJ hown HO1 HB1 HJ1
    by_cases hlt : k < N
    · obtain ⟨g2, rfl, hg2, hg3⟩ := own_addr HO.out (by omega)
      have hcell : wr.cell? ⟨g2, k, none⟩ = some (.int .i64 (zs.getD k 0)) := by
        rw [World.ownsRow.cellAt HO.out k (by omega)]
        have := HZ.out
        simp [List.getD, show k < zs.length by omega]
      obtain ⟨hx1, hx2⟩ := HB.out k
      obtain ⟨x, hx⟩ : ∃ x, x = zs.getD k 0 := ⟨_, rfl⟩
      rw [← hx] at hcell hx1 hx2
      obtain ⟨hc1, al, hal⟩ := HR.out k wr HJ.out
      have HAL := Lib.hid hal
      have HX := Lib.hid hx
      have hkn : (k : Int) < (N : Int) := by omega
      clear hx hal
      gi_wp2_with fail
      refine ⟨trivial, (callsIn_wide.2 (has_at HAL.out x hx1 hx2)).mono ?_⟩
      rintro e w2 ⟨rfl, hb2⟩
      have hb2' := hb2.mono hsz
      have hJ2 := HK.out k wr w2 HJ.out hb2'
      have hal2 := HAL.out.below hb2 (by omega) (by omega)
      have ho2 := own_below HO.out hb2 fun j hj => (HO.out.lt j hj).2
      have hs2 := hb2.size
      have HJ2 := Lib.hid hJ2
      have HAL2 := Lib.hid hal2
      have HO2 := Lib.hid ho2
      clear hb2 hb2' hJ2 hal2 ho2 hc1 hcell
      cases hax : al x with
      | false =>
        have hJ3 := HS.out k w2 HJ2.out hlt ⟨al, HAL2.out, by rw [← HX.out]; exact hax⟩
        have HJ3 := Lib.hid hJ3
        clear hJ3 hax
        gi_wp2
        refine ⟨fun _ h => (by cases h), ?_⟩
        gi_wp2
        go_roundw
        case rel => exact ⟨k + 1, by omega, by go_num, HJ3.out, by omega, HO2.out⟩
        case measure => simp [intOf]; omega
      | true =>
        obtain ⟨fn, tmps, assign, body, hy, hRn⟩ := HY.out k w2 HJ2.out hlt ⟨al, HAL2.out, by rw [← HX.out]; exact hax⟩
        rw [← HX.out] at hy
        have HRN := Lib.hid hRn
        clear hRn hax
        gi_wp2
        refine HRN.out.mono ?_
        rintro e W3 (⟨rfl, hJ3, hk3⟩ | ⟨rfl, hJx3⟩)
        · have ho3 := own_agree HO2.out (fun j h1 h2 => hk3.same j h1 h2)
          have hs3 := hk3.size
          have HJ3 := Lib.hid hJ3
          have HO3 := Lib.hid ho3
          clear hJ3 ho3 hk3 hy
          gi_wp2
          go_roundw
          case rel => exact ⟨k + 1, by omega, by go_num, HJ3.out, by omega, HO3.out⟩
          case measure => simp [intOf]; omega
        · have HJX := Lib.hid hJx3
          clear hJx3 hy
          gi_wp2
          refine bodyPost_ret (results_none rfl _ _ _) rfl ?_
          exact ⟨⟨_, rfl⟩, .inr HJX.out⟩
    · obtain rfl : k = N := by omega
      gi_wp2
      go_end0
      exact ⟨⟨_, rfl⟩, .inl HJ.out⟩

/-- where the clause with this number begins -/
def startOf (cs : List Cl) (k : Nat) : Int := (startsFrom 0 cs).getD k 0
theorem startOf_mid (pre : List Cl) (c : Cl) (post : List Cl) : startOf (pre ++ c :: post) pre.length = total pre := starts_at pre c post
theorem all_seq_of {w : World} {base g b : Nat} {gw : Option Nat} {lim : Int} {cs : List Cl} (h : Ar w base g b gw lim cs) (ht : total cs ≤ 1099511627776) (Bn : Nat) (hBn : Bn < w.heap.size) (hc : w.cell? ⟨Bn, 0, none⟩ = some (.pointer (some ⟨g, 0, none⟩))) (m : Nat) (hm : 5 ≤ m) :
    SeqAt m Try.prog 25 #[.pointer (some ⟨Bn, 0, none⟩)] (startOf cs) cs.length
      (fun k W => ∃ al, HasAt W g b al ∧ al (startOf cs k) = false) (fun k W => ∃ al, HasAt W g b al ∧ al (startOf cs k) = true) (fun W => W.cell? ⟨Bn, 0, none⟩ = some (.pointer (some ⟨g, 0, none⟩)) ∧ ∃ al, HasAt W g b al) w :=
  all_seq h ht Bn hBn hc m hm
end Go.Proofs.Ytnjcegjcaaplgaa
