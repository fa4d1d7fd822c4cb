/- With: what it yields, clause by clause. -/
import Derived.Test.YtlkgicaajenhaaaDoorNext7m
import Derived.Test.YtlkgicaajenhaaaDoorRangeIt7
import Derived.RangeFuncBound
import Derived.Shelf.Abstract
import Derived.Shelf.RegionOpen
import Derived.OwnWalkIn
import Derived.TacticsInMore
import Derived.LoopNIn
import Derived.LoopIn
import Derived.Sort.LoopGhostIn
namespace Go.Proofs.YtlkgicaajenhaaaDoor
open Go.RowKit Go.Shelf
attribute [local go_sem] Oper.semAt_some
set_option linter.unusedVariables false
set_option linter.unusedSimpArgs false

theorem SameR.trans {X X' X'' : SX} (h : SameR X X') (k : SameR X' X'') : SameR X X'' :=
  ⟨k.s.trans h.s, k.m.trans h.m, k.fb.trans h.fb, k.V.trans h.V, k.ps.trans h.ps, k.ks.trans h.ks, fun p => (k.lits p).trans (h.lits p), k.cs.trans h.cs, fun p => ⟨(k.gn p).1.trans (h.gn p).1, (k.gn p).2.trans (h.gn p).2⟩,
    k.more.1.trans h.more.1, k.more.2.1.trans h.more.2.1, k.more.2.2.1.trans h.more.2.2.1, k.more.2.2.2.trans h.more.2.2.2⟩
theorem SameR.hit {X X' : SX} (h : SameR X X') (l : Int) : X'.hit l = X.hit l := by
  funext p
  unfold SX.hit
  rw [(h.gn p).1, h.lits p]
theorem SameR.hits {X X' : SX} (h : SameR X X') (l : Int) : X'.hits l = X.hits l := by unfold SX.hits; rw [h.hit, h.ps]
theorem SameR.from_ {X X' : SX} (h : SameR X X') (l : Int) (k : Nat) : X'.from_ l k = X.from_ l k := by
  cases k with
  | zero => rfl
  | succ k => simp only [SX.from_]; rw [h.hits, (h.gn _).2]
/-- what the iterator reads between two clauses: its two boxes, and the store as it was, but for what waits where -/
def Rd7 (base : Nat) (X : SX) (l : Int) (bs bl : Nat) (W : World) : Prop :=
  W.cell? ⟨bs, 0, none⟩ = some (.pointer (some ⟨X.s, 0, none⟩)) ∧ W.cell? ⟨bl, 0, none⟩ = some (.int .i64 l) ∧ ∃ X' fo, SameR X X' ∧ Rest7 W base X' fo
/-- the clauses that have the literal -/
def SX.told (X : SX) (l : Int) : List (List Int) := (X.hits l).map fun p => (X.C p).lits
/-- what is yielded: a clause, laid anew -/
def Arg7 (X : SX) (l : Int) (k : Nat) (v : Value) (W W' : World) : Prop :=
  ∃ A c, v = .slice A ((X.told l).getD k []).length c ∧ W'.ownsRow W.heap.size 3 1 v ((X.told l).getD k []).length (((X.told l).getD k []).map (Value.int .i64))
/-- the clause at which the iterator stands -/
def atHit (X : SX) (l : Int) (k : Nat) : Value := if k < (X.hits l).length then .pointer (some ⟨(X.hits l).getD k 0, 0, none⟩) else .pointer none

theorem next_hit {W : World} {base : Nat} {X X' : SX} {fo : List Bool} {l : Int} {k : Nat} (hs : SameR X X') (h : Rest7 W base X' fo) (hk : k ≤ (X.hits l).length) :
    Calls Tryd.prog 41 #[.pointer (some ⟨X.s, 0, none⟩), .int .i64 (X.from_ l k : Nat), .int .i64 l] W fun e W' => e = .returned (atHit X l k) ∧ Below W.heap.size W W' := by
  have hn := h.shelf.nums
  have hkk : k ≤ (X'.hits l).length := by rw [hs.hits]; exact hk
  have := next_any7 h (X.from_ l k) l
  rw [hs.s] at this
  refine this.mono ?_
  rintro e W' ⟨h1, hb⟩
  refine ⟨?_, hb⟩
  rw [← hs.from_ l k] at h1
  unfold atHit
  rw [← hs.hits l]
  rcases h1 with ⟨rfl, hno⟩ | ⟨i, rfl, hi, h2, h3, h4⟩
  · have := hits_end (l := l) hn hkk fun j hj hm => hno j hj hm
    rw [if_neg (by omega)]
  · obtain ⟨h5, h6⟩ := hits_next (l := l) hn hkk hi h2 h3 h4
    rw [if_pos h5, h6]

set_option maxRecDepth 100000 in
set_option maxHeartbeats 4000000 in
theorem with_seq (base : Nat) (X : SX) (l : Int) (bs bl : Nat) (w : World) (hX : ∀ p, p ∈ X.ps → (X.C p).num ≤ 1000000000) (m : Nat) (hm : 5 ≤ m) :
    SeqIt m Tryd.prog 40 #[.pointer (some ⟨bs, 0, none⟩), .pointer (some ⟨bl, 0, none⟩)] (X.hits l).length (Arg7 X l) (Rd7 base X l bs bl) w := by
  intro b J Jx W hW hR hK hY h0
  obtain ⟨N, hN⟩ : ∃ N, N = (X.hits l).length := ⟨_, rfl⟩
  rw [← hN] at hY ⊢
  have HN := Lib.hid hN
  have HR := Lib.hid hR
  have HK := Lib.hid hK
  have HY := Lib.hid hY
  have HX := Lib.hid hX
  obtain ⟨c1, c2, X0, fo0, s0, r0⟩ := hR 0 W h0
  have HJ0 := Lib.hid h0
  have HNX := Lib.hid (next_hit (k := 0) s0 r0 (by omega) : Calls Tryd.prog 41 #[.pointer (some ⟨X.s, 0, none⟩), .int .i64 (X.from_ l 0 : Nat), .int .i64 l] W _)
  clear hN hR hK hY h0 s0 r0 hX
  refine callsIn_of_wp Tryd.func40 rfl trivial ?_ rfl
  simp only [Tryd.ntmps40, List.size_toArray, List.length_cons, List.length_nil, Nat.reduceAdd, Nat.reduceSub, Array.replicate_succ, Array.replicate_zero, List.push_toArray, List.append_toArray, List.nil_append, List.cons_append]
  have h1m : 1 ≤ m := by omega
  gi_wp2_with fail
  refine ⟨trivial, (callsIn_wide.2 HNX.out).mono ?_⟩
  rintro e w1 ⟨rfl, hb1⟩
  have HJ1 := Lib.hid (HK.out 0 W w1 HJ0.out hb1)
  clear hb1 c1 c2 HJ0 HNX
  gi_wp2
  gi_loopg [4] (N + 1) (fun gk i wr => ∃ k : Nat, k ≤ N ∧ gk = N - k + 1 ∧ i = atHit X l k ∧ Hid (J k wr))
  case atStart => exact ⟨0, Nat.zero_le _, by omega, rfl, HJ1⟩
  case round =>
    obtain ⟨k, hk, rfl, rfl, hJ⟩ := hrel
    by_cases hlt : k < N
    · obtain ⟨c1, c2, Y, fy, hs, hr⟩ := HR.out k wr hJ.out
      have hat : atHit X l k = .pointer (some ⟨(X.hits l).getD k 0, 0, none⟩) := by unfold atHit; rw [if_pos (by rw [← HN.out]; exact hlt)]
      obtain ⟨p, hp⟩ : ∃ p, p = (X.hits l).getD k 0 := ⟨_, rfl⟩
      rw [← hp] at hat
      have hpm : p ∈ Y.ps := by
        have hl2 : k < (X.hits l).length := by rw [← HN.out]; exact hlt
        have : p ∈ X.hits l := by rw [hp]; simp [List.getD, hl2]
        rw [hs.ps]
        exact (List.mem_filter.1 this).1
      obtain ⟨a1, a2, a3, _⟩ := hr.sto.cl p hpm
      have d1 := a1.cell 1
      simp [CX.cells, CX.row] at d1
      rw [hs.lits p] at d1
      have hin := ints_of_own a3
      rw [hs.lits p] at hin
      have hlen := (hr.wf.cl p hpm).len
      rw [hs.lits p] at hlen
      obtain ⟨L, hL⟩ : ∃ L, L = (X.C p).lits := ⟨_, rfl⟩
      rw [← hL] at d1 hin hlen
      have hLk : (X.told l).getD k [] = L := by
        have hl2 : k < (X.hits l).length := by rw [← HN.out]; exact hlt
        rw [hL, hp]
        simp [SX.told, List.getD, hl2]
      have HC := Lib.hid (clone_ints_any L.length _ _ _ (Y.C p).c wr (by omega) (fun _ _ => rfl) hin (Nat.le_refl _))
      have HLK := Lib.hid hLk
      have HP := Lib.hid hp
      rw [hat]
      clear hL hLk hp hin a1 a2 a3 hpm hs hr hat
      gi_wp2_with fail
      refine ⟨trivial, (callsIn_wide.2 HC.out).mono ?_⟩
      rintro e w2 ⟨A2, k2, rfl, hown, hb2⟩
      have harg : Arg7 X l k (.slice A2 L.length k2) wr w2 := by
        unfold Arg7
        rw [HLK.out]
        refine ⟨A2, k2, rfl, ?_⟩
        have e : (List.range L.length).map (fun j => Value.int .i64 (L.getD j 0)) = L.map (Value.int .i64) := by
          apply List.ext_getElem
          · simp
          · intro i h1 h2
            simp [List.getD, show i < L.length by simpa using h1]
        rw [e] at hown
        exact hown
      obtain ⟨fn, tmps, assign, body, hy, hRn⟩ := HY.out k _ wr w2 hJ.out hlt hb2 harg
      have HRN := Lib.hid hRn
      clear hRn harg hown hb2 d1 c1 c2
      gi_wp2
      refine HRN.out.mono ?_
      rintro e W3 (⟨rfl, hJ3⟩ | ⟨rfl, hJx3⟩)
      · obtain ⟨c1, c2, Z, fz, hs3, hr3⟩ := HR.out (k + 1) W3 hJ3
        have HJ3 := Lib.hid hJ3
        have hpx : p ∈ X.ps := by
          have hl2 : k < (X.hits l).length := by rw [← HN.out]; exact hlt
          have : p ∈ X.hits l := by rw [HP.out]; simp [List.getD, hl2]
          exact (List.mem_filter.1 this).1
        have hpm : p ∈ Z.ps := by rw [hs3.ps]; exact hpx
        have c3 := (hr3.sto.cl p hpm).1.cell 0
        simp [CX.cells] at c3
        rw [(hs3.gn p).2] at c3
        have hf : X.from_ l (k + 1) = (X.C p).num + 1 := by simp only [SX.from_]; rw [HP.out]
        have hnb := HX.out p hpx
        obtain ⟨v0, hv0⟩ : ∃ v0, v0 = (X.C p).num := ⟨_, rfl⟩
        rw [← hv0] at c3 hf hnb
        have HNX := Lib.hid (fun q => next_hit (W := W3.drewN q) (k := k + 1) (l := l) hs3 (show Rest7 (W3.drewN q) base Z fz from hr3.below (below_drewN (Below.refl _ _) q)) (by rw [← HN.out]; omega))
        rw [hf, show ((v0 + 1 : Nat) : Int) = (v0 : Int) + 1 by omega] at HNX
        have hw : IntKind.i64.wrap ((v0 : Int) + 1) = ((v0 + 1 : Nat) : Int) := by rw [IntWalk.i64_in _ ⟨by omega, by omega⟩]; omega
        have KE := Lib.hid (fun (w5 : World) (hb : Below W3.heap.size W3 w5) => (show w5.cell? ⟨bs, 0, none⟩ = some (.pointer (some ⟨X.s, 0, none⟩)) ∧ w5.cell? ⟨bl, 0, none⟩ = some (.int .i64 l) ∧ w5.cell? ⟨p, 0, none⟩ = some (.int .i64 v0) from ⟨cell_later hb c1, cell_later hb c2, cell_later hb c3⟩))
        clear hv0 hf hpm hpx hr3 hs3 hJ3 hy
        gi_wp2
        refine wpIn_wide.2 ?_
        go_region_held3 (fun w' => w'.cell? ⟨bs, 0, none⟩ = some (.pointer (some ⟨X.s, 0, none⟩)) ∧ w'.cell? ⟨bl, 0, none⟩ = some (.int .i64 l) ∧ w'.cell? ⟨p, 0, none⟩ = some (.int .i64 v0)) (first | exact KK.out | exact ⟨c1, c2, c3⟩) (first | (go_at_call 41; refine (HNX.out 1).mono ?_; rintro e w5 ⟨rfl, hb5'⟩; have HB5 := Lib.hid (below_undrew hb5'); have KK := Lib.hid (KE.out w5 HB5.out); clear hb5'))
        have HJ5 := Lib.hid (HK.out (k + 1) W3 w5 HJ3.out HB5.out)
        gi_wp2
        gi_roundg (N - k)
        case measure => omega
        case rel => exact ⟨k + 1, by omega, by omega, rfl, HJ5⟩
      · have HJX := Lib.hid hJx3
        clear hJx3 hy
        gi_wp2
        refine bodyPost_ret (results_none rfl _ _ _) rfl ?_
        exact ⟨⟨_, rfl⟩, .inr HJX.out⟩
    · obtain rfl : N = k := by omega
      have hat : atHit X l N = .pointer none := by unfold atHit; rw [if_neg (by rw [← HN.out]; omega)]
      rw [hat]
      clear hat
      gi_wp2
      go_end0
      exact ⟨⟨_, rfl⟩, .inl hJ.out⟩
end Go.Proofs.YtlkgicaajenhaaaDoor
