/- local's state: a new one. -/
import Derived.Test.YtllgepabjglnaaaLoc10
import Derived.Test.YtllgepabjglnaaaFormsMath04
import Derived.Deep.Matrix
import Derived.Deep.OwnRows
import Derived.Deep.CutRange
import Derived.Deep.CutBlock
namespace Go.Proofs.Ytllgepabjglnaaa
open Go.RowKit
set_option linter.unusedVariables false
set_option linter.unusedSimpArgs false

theorem infoR14 : (Try.prog.info? 48).map (fun i => (i.zero, i.size, i.bytes)) = some (some (.slice none 0 0), 1, 24) := by kernel_rfl
def LS.none_ : LS := ⟨[], [], []⟩
def BS.none_ : BS := ⟨0, 0, [], none⟩
theorem none_good {n : Nat} (hn : n ≤ 1000) : LS.none_.Good n := by
  refine ⟨rfl, fun i => ?_, fun i x hx => ?_, fun i => ?_, fun i x hx => ?_, fun i => ?_, by decide, hn, fun a b x hx => ?_, fun i => ?_⟩ <;> simp [LS.none_] at *
/-- just made -/
structure Based (w1 W : World) (z : List Bool) (n M g H K : Nat) (A : Option Addr) (c : Nat) : Prop where
  st : Blk W g 75 #[.slice A n c, .slice none 0 0, .slice (some ⟨H, 0, none⟩) M M, .slice none 0 0, .slice (some ⟨K, 0, none⟩) n n, .int .i64 0, .int .i64 0, .slice none 0 0, .slice none 0 0]
  h : Blk W H 48 (madeCells #[Value.slice none 0 0] M)
  k : Blk W K 3 (madeCells #[Value.int .i64 0] n)
  v : W.ownsRow w1.heap.size 4 1 (.slice A n c) n ((List.range n).map fun j => .bool (z.getD j false))
  below : Below w1.heap.size w1 W
  hg : w1.heap.size ≤ g
  hH : w1.heap.size ≤ H
  hK : w1.heap.size ≤ K
theorem blk_new14 {w : World} {t : TypeId} {cs : Array Value} {k : Nat} (h : k = w.heap.size) : Blk (w.alloc (.cells cs t)) k t cs := h ▸ Blk.new w t cs
theorem made_owns {W : World} {t : TypeId} {v : Value} {H n : Nat} (h : Blk W H t (madeCells #[v] n)) (hn : n ≤ maxLen) : W.ownsRow 0 t 1 (.slice (some ⟨H, 0, none⟩) n n) n (List.replicate n v) := by
  refine ⟨by simp, .inr ⟨H, n, _, rfl, Nat.zero_le _, h, Nat.le_refl _, hn, by simp [size_madeCells], ?_⟩⟩
  rw [toList_madeCells_one]
  simp
theorem hav_nil (l : Int) : hav [] l = [] := rfl
theorem Based.lm {w1 W : World} {z : List Bool} {n M g H K : Nat} {A : Option Addr} {c : Nat} (h : Based w1 W z n M g H K A c) (hz : z.length = n) (hM : 2 * n = M) (hn : n ≤ 1000) :
    ∃ ρ p, p.g = g ∧ p.lsV = [] ∧ p.lss = [] ∧ LM W ρ p (MS.of z LS.none_ BS.none_) ∧ (∀ q, ρ q ≠ 0 → w1.heap.size ≤ q) ∧ ∀ q, ρ q ≠ 5 := by
  subst hz hM
  have ov := h.v
  rw [bools_map] at ov
  have oh := made_owns h.h (by unfold maxLen; omega)
  have ok := made_owns h.k (by unfold maxLen; omega)
  have gH : g ≠ H := h.st.ne_ h.h (by decide)
  have gK : g ≠ K := h.st.ne_ h.k (by decide)
  have HK : H ≠ K := h.h.ne_ h.k (by decide)
  have vg : some g ≠ (Value.slice A z.length c).ownBlock := own_blk_ne ov h.st (by decide)
  have vH : some H ≠ (Value.slice A z.length c).ownBlock := own_blk_ne ov h.h (by decide)
  have vK : some K ≠ (Value.slice A z.length c).ownBlock := own_blk_ne ov h.k (by decide)
  obtain ⟨ρ, hρ⟩ : ∃ ρ : Nat → Nat, ρ = fun q => if q = g then 6 else if q = H then 9 else if q = K then 3 else if some q = (Value.slice A z.length c).ownBlock then 7 else 0 := ⟨_, rfl⟩
  have rg : ρ g = 6 := by rw [hρ]; simp
  have rH : ρ H = 9 := by rw [hρ]; simp [Ne.symm gH]
  have rK : ρ K = 3 := by rw [hρ]; simp [Ne.symm gK, Ne.symm HK]
  have rv : ∀ q, (Value.slice A z.length c).ownBlock = some q → ρ q = 7 := fun q hq => by
    have h1 : q ≠ g := fun e => vg (by rw [hq, e])
    have h2 : q ≠ H := fun e => vH (by rw [hq, e])
    have h3 : q ≠ K := fun e => vK (by rw [hq, e])
    rw [hρ]
    simp only
    rw [if_neg h1, if_neg h2, if_neg h3, if_pos hq.symm]
  have hall : ∀ q, ρ q ≠ 0 → (q = g ∨ q = H ∨ q = K ∨ (Value.slice A z.length c).ownBlock = some q) := fun q hq => by
    rw [hρ] at hq
    simp only at hq
    split at hq
    · exact .inl (by assumption)
    · split at hq
      · exact .inr (.inl (by assumption))
      · split at hq
        · exact .inr (.inr (.inl (by assumption)))
        · split at hq
          · rename_i e
            exact .inr (.inr (.inr e.symm))
          · exact absurd rfl hq
  have hnil : ∀ n : Nat, (List.range n).map (fun j => hav ([] : List (List Int)) (litAt (j : Nat))) = List.replicate n [] := fun n => by
    apply List.ext_getElem
    · simp
    · intro i h1 h2
      simp [hav_nil]
  refine ⟨ρ, ⟨g, A, none, some ⟨H, 0, none⟩, none, some ⟨K, 0, none⟩, none, none, c, 0, 2 * z.length, 0, z.length, 0, 0, [], List.replicate (2 * z.length) (.slice none 0 0), []⟩, rfl, rfl, rfl, ⟨fun q hq => ?_, h.st, rg, ⟨own_more ov (Nat.zero_le _), rv⟩, ⟨[], Oz.nil_, ⟨fun i hi => absurd hi (Nat.not_lt_zero i), fun i hi => absurd hi (Nat.not_lt_zero i), fun i hi => absurd hi (Nat.not_lt_zero i), fun i hi => absurd hi (Nat.not_lt_zero i), (fun k i hk => by simp [MS.of, LS.none_] at hk)⟩⟩, (fun i hi => by simp [MS.of, LS.none_] at hi), ⟨OwnList.nil_, rfl, fun j q hj => absurd hj (Nat.not_lt_zero j)⟩, fun i hi => absurd hi (Nat.not_lt_zero i), ⟨oh, fun q hq => ?_⟩, ?_, ?_, Oz.nil_, ⟨?_, fun q hq => ?_⟩, Oz.nil_, fun _ => ⟨rfl, rfl⟩, (fun a ha => by cases ha)⟩, fun q hq => ?_, fun q => ?_⟩
  · rcases hall q hq with e | e | e | e
    · rw [e]; exact h.st.lt
    · rw [e]; exact h.h.lt
    · rw [e]; exact h.k.lt
    · exact (ov.lt q e).2
  · have : q = H := by simpa [Value.ownBlock] using hq.symm
    rw [this]; exact rH
  · show OLr W ρ 4 (List.replicate (2 * z.length) (.slice none 0 0)) ((havs z.length []).map intsOf)
    unfold havs
    rw [hnil, List.map_replicate, show intsOf [] = [] from rfl]
    refine ⟨⟨fun j hj => ?_, fun i j q hij hj hq => ?_⟩, by simp, fun j q hj hq => ?_⟩
    · simp at hj
      refine ⟨none, 0, ?_, ?_⟩
      · simp [List.getD, hj]
      · simp only [List.getD, List.getElem?_replicate, hj, if_true, Option.getD_some]
        exact World.ownsRow_nil _ _ _ _
    · simp at hj
      rw [List.getElem?_replicate, if_pos (by omega)] at hq
      cases hq
    · simp at hj
      rw [List.getElem?_replicate, if_pos hj] at hq
      cases hq
  · show (havs z.length []).length = 2 * z.length
    simp [havs]
  · show W.ownsRow 0 3 1 (.slice (some ⟨K, 0, none⟩) z.length z.length) z.length (bkV z.length (brk []))
    have e : bkV z.length (brk []) = List.replicate z.length (.int .i64 0) := by
      apply List.ext_getElem
      · simp [bkV]
      · intro i h1 h2
        simp [bkV, brk]
    rw [e]
    exact ok
  · have : q = K := by simpa [Value.ownBlock] using hq.symm
    rw [this]; exact rK
  · rcases hall q hq with e | e | e | e
    · rw [e]; exact h.hg
    · rw [e]; exact h.hH
    · rw [e]; exact h.hK
    · exact (ov.lt q e).1
  · rw [hρ]
    simp only
    repeat' split
    all_goals decide
/-- the literals' rows, handed to a state without clauses -/
theorem LM.withLits {w : World} {ρ : Nat → Nat} {p : Lx} {m : MS} {B2 : Nat} {vl : List Value} {yss : List (List Int)} (h : LM w ρ p m) (hm : m.cls = []) (hl : OwnList w B2 3 vl yss) (hlen : vl.length = yss.length) (hB : ∀ q, ρ q ≠ 0 → q < B2) :
    ∃ ρ', LM w ρ' { p with lsV := vl, lss := yss } m ∧ (∀ q, ρ' q ≠ 0 → ρ q ≠ 0 ∨ (B2 ≤ q ∧ ∃ j, j < yss.length ∧ ((vl[j]?).getD undef).ownBlock = some q)) := by
  have hlt : ∀ q, (∃ v ∈ vl, v.ownBlock = some q) → B2 ≤ q ∧ q < w.heap.size ∧ ∃ j, j < yss.length ∧ ((vl[j]?).getD undef).ownBlock = some q := fun q ⟨v, hv, hq⟩ => by
    obtain ⟨j, hj⟩ := List.getElem?_of_mem hv
    have hjl : j < yss.length := by rw [← hlen]; exact (List.getElem?_eq_some_iff.1 hj).1
    have hq' : ((vl[j]?).getD undef).ownBlock = some q := by rw [hj]; exact hq
    have := hl.lt hjl hq'
    exact ⟨this.1, this.2, j, hjl, hq'⟩
  obtain ⟨ρ', hρ'⟩ : ∃ ρ' : Nat → Nat, ρ' = fun q => if ρ q ≠ 0 then ρ q else if (vl.any fun v => v.ownBlock == some q) = true then 5 else 0 := ⟨_, rfl⟩
  have hold : ∀ q, ρ q ≠ 0 → ρ' q = ρ q := fun q hq => by rw [hρ']; simp only; rw [if_pos hq]
  have hnew : ∀ j q, j < yss.length → ((vl[j]?).getD undef).ownBlock = some q → ρ' q = 5 := fun j q hj hq => by
    have h1 := hl.lt hj hq
    have h2 : ¬ ρ q ≠ 0 := fun e => by have := hB q e; omega
    rw [hρ']
    simp only
    rw [if_neg h2, if_pos]
    rw [List.any_eq_true]
    refine ⟨(vl[j]?).getD undef, ?_, by simpa using hq⟩
    rw [List.getElem?_eq_getElem (by omega)]
    exact List.getElem_mem _
  have hwhich : ∀ q, ρ' q ≠ 0 → ρ q ≠ 0 ∨ (∃ v ∈ vl, v.ownBlock = some q) := fun q hq => by
    rw [hρ'] at hq
    simp only at hq
    split at hq
    · exact .inl (by assumption)
    · split at hq
      · rename_i e
        rw [List.any_eq_true] at e
        obtain ⟨v, hv, e⟩ := e
        exact .inr ⟨v, hv, by simpa using e⟩
      · exact absurd rfl hq
  have k : ∀ {r t s n : Nat} {v : Value} {ys : List Value}, r ≠ 0 → Oz w ρ r t s v n ys → Oz w ρ' r t s v n ys := fun hr ho => ⟨ho.1, fun q hq => by
    have := ho.2 q hq
    rw [hold q (by omega)]
    exact this⟩
  obtain ⟨xs, x1, x2⟩ := h.cs
  refine ⟨ρ', ⟨fun q hq => ?_, h.str, ?_, k (by decide) h.vs, ⟨xs, k (by decide) x1, ⟨fun i hi => ?_, x2.c1, x2.c2, x2.c3, x2.pl⟩⟩, h.rin, ⟨⟨fun j hj => ?_, hl.ne⟩, hlen, hnew⟩, fun i hi => ?_, k (by decide) h.hs, ⟨h.hl.own, h.hl.len, fun j q hj hq => ?_⟩, h.hn, k (by decide) h.rw_, k (by decide) h.kw, k (by decide) h.sw, h.e0, fun a ha => ⟨(h.ew a ha).1, k (by decide) (h.ew a ha).2⟩⟩, fun q hq => ?_⟩
  · rcases hwhich q hq with e | e
    · exact h.fresh q e
    · exact (hlt q e).2.1
  · have := h.sr
    show ρ' p.g = 6
    rw [hold _ (by omega)]
    exact this
  · rw [hm] at hi; cases hi
  · obtain ⟨Aj, cj, h1, h2⟩ := hl.each j hj
    exact ⟨Aj, cj, h1, own_more h2 (Nat.zero_le _)⟩
  · rw [hm] at hi; cases hi
  · have := h.hl.part j q hj hq
    rw [hold q (by omega)]
    exact this
  · rcases hwhich q hq with e | e
    · exact .inl e
    · have := hlt q e
      exact .inr ⟨this.1, this.2.2⟩
/-- clauses, one after another -/
def LS.adds (yss : List (List Int)) : LS := yss.foldl LS.addC LS.none_
theorem adds_snoc (yss : List (List Int)) (c : List Int) : LS.adds (yss ++ [c]) = (LS.adds yss).addC c := by simp [LS.adds]
theorem adds_spec {n : Nat} (hn : n ≤ 1000) : ∀ (m : Nat) (yss : List (List Int)), yss.length = m → m ≤ 100 → (∀ c ∈ yss, c.Nodup ∧ (∀ x ∈ c, x ≠ 0 ∧ x.natAbs ≤ n) ∧ c.length ≤ 100) → (LS.adds yss).Good n ∧ (LS.adds yss).cls = yss ∧ ∀ i, (LS.adds yss).hss.getD i [] = []
  | 0, yss, hm, _, _ => by
    obtain rfl := List.eq_nil_of_length_eq_zero hm
    exact ⟨none_good hn, rfl, fun i => by simp [LS.adds, LS.none_]⟩
  | m + 1, yss, hm, hle, hall => by
    obtain ⟨js, c, rfl⟩ : ∃ js c, yss = js ++ [c] := ⟨yss.dropLast, yss.getLast (by rintro rfl; simp at hm), (List.dropLast_concat_getLast _).symm⟩
    have hjm : js.length = m := by simpa using hm
    obtain ⟨g1, g2, g3⟩ := adds_spec hn m js hjm (by omega) fun d hd => hall d (List.mem_append_left _ hd)
    obtain ⟨c1, c2, c3⟩ := hall c (by simp)
    rw [adds_snoc]
    refine ⟨g1.addC c1 c2 c3 (by rw [g2]; omega), by show (LS.adds js).cls ++ [c] = _; rw [g2], fun i => ?_⟩
    show ((LS.adds js).hss ++ [[]]).getD i [] = []
    rw [getD_snoc]
    split
    · rfl
    · exact g3 i
/-- the variables up to i are taken for what they are -/
def LS.AtTo (s : LS) (z : List Bool) (i : Nat) : Prop := ∀ k x, x ∈ s.hss.getD k [] ↔ x ∈ s.cls.getD k [] ∧ hol z x = true ∧ x.natAbs ≤ i
theorem atTo_next {s : LS} {z : List Bool} {i : Nat} (hg : s.Good z.length) (h : s.AtTo z i) (hi : i < z.length) : (s.gains (holder z (i + 1)) (hav s.cls (holder z (i + 1)))).Good z.length ∧ (s.gains (holder z (i + 1)) (hav s.cls (holder z (i + 1)))).cls = s.cls ∧ (s.gains (holder z (i + 1)) (hav s.cls (holder z (i + 1)))).AtTo z (i + 1) := by
  have habs := holder_abs z (i + 1)
  have hno : ∀ k, holder z (i + 1) ∉ s.hss.getD k [] := fun k hk => by have := ((h k _).1 hk).2.2; omega
  obtain ⟨g1, g2, g3⟩ := gains_spec hg (l := holder z (i + 1)) _ (hav s.cls (holder z (i + 1))) rfl (hav_nodup _ _) fun k hk => ⟨mem_hav.1 hk, hno k⟩
  refine ⟨g1, g2, fun k x => ?_⟩
  rw [g3, g2]
  have hh := hol_holder (z := z) (v := i + 1) (by omega) (by omega)
  constructor
  · intro hx
    split at hx
    · rename_i hk
      rcases List.mem_cons.1 hx with rfl | hx
      · exact ⟨mem_hav.1 hk, hh, by omega⟩
      · obtain ⟨a, b, c⟩ := (h k x).1 hx
        exact ⟨a, b, by omega⟩
    · obtain ⟨a, b, c⟩ := (h k x).1 hx
      exact ⟨a, b, by omega⟩
  · rintro ⟨a, b, c⟩
    rcases Nat.lt_or_ge i x.natAbs with hlt | hge
    · have hl := hg.lits k x a
      have hx : x = holder z (i + 1) := by
        rcases (by omega : x = holder z (i + 1) ∨ x = -holder z (i + 1)) with e | e
        · exact e
        · rw [e, hol_opp (by omega) (by omega), hh] at b
          cases b
      rw [if_pos (mem_hav.2 (hx ▸ a)), hx]
      simp
    · have := (h k x).2 ⟨a, b, hge⟩
      split
      · exact List.mem_cons_of_mem _ this
      · exact this
/-- the variables up to i, taken for what they are, one by one -/
def startTo14 (z : List Bool) (yss : List (List Int)) (i : Nat) : LS := (List.range i).foldl (fun s v => s.gains (holder z (v + 1)) (hav s.cls (holder z (v + 1)))) (LS.adds yss)
theorem startTo14_next (z : List Bool) (yss : List (List Int)) (i : Nat) : startTo14 z yss (i + 1) = (startTo14 z yss i).gains (holder z (i + 1)) (hav (startTo14 z yss i).cls (holder z (i + 1))) := by
  simp [startTo14, List.range_succ]
def startLS (z : List Bool) (yss : List (List Int)) : LS := startTo14 z yss z.length
/-- what New makes -/
def MadeP (w w' : World) (ρ : Nat → Nat) (p : Lx) (z : List Bool) (yss : List (List Int)) : Prop :=
  ∃ s, LM w' ρ p (MS.of z s ⟨0, s.row.length, [], none⟩) ∧ s.cls = yss ∧ s.Good z.length ∧ s.At z ∧ Below w.heap.size w w' ∧ (∀ q, ρ q ≠ 0 → w.heap.size ≤ q) ∧ s = startLS z yss
set_option maxRecDepth 100000 in
set_option maxHeartbeats 4000000 in
theorem new_any14 (F : Nat) (xss : List (List Int)) (z : List Bool) (B : Nat) (A Az : Option Addr) (c cz : Nat) (w : World) (hF : F ≤ 1000) (hL : LightForm F xss) (hR : Rows w B A xss) (hZ : Cells w B Az z.length fun j => .bool (z.getD j false)) (hB : B ≤ w.heap.size) (hz : z.length = F) :
    Calls Try.prog 13 #[.agg #[.int .i64 F, .slice A xss.length c], .slice Az z.length cz] w fun e w' => ∃ ρ p, e = .returned (.tuple #[.pointer (some ⟨p.g, 0, none⟩), .int .i64 0]) ∧ MadeP w w' ρ p z (normForm xss) := by
  subst hz
  obtain ⟨w1, hw1⟩ : ∃ w1, w1 = w.alloc (Obj.cells #[Value.int IntKind.i64 z.length, Value.slice A xss.length c] 32) := ⟨_, rfl⟩
  have hb1 : Below w.heap.size w w1 := by rw [hw1]; exact (Below.refl _ _).alloc (Nat.le_refl _) _
  have hf1 : Blk w1 w.heap.size 32 #[Value.int IntKind.i64 z.length, Value.slice A xss.length c] := by rw [hw1]; exact Blk.new w _ _
  have HZ := Lib.hid (fun (W : World) (hW : Below w1.heap.size w1 W) => show Cells W B Az z.length fun j => .bool (z.getD j false) from (hZ.keep (w' := w1) fun p hp => hb1.cell (by omega)).keep (w' := W) fun p hp => hW.cell (by have := hb1.size; omega))
  have f0 := hf1.cell 0
  simp at f0
  obtain ⟨n, hn⟩ : ∃ n, z.length = n := ⟨_, rfl⟩
  have hnn : n ≤ 1000 := by omega
  obtain ⟨M, hM⟩ : ∃ M, 2 * n = M := ⟨_, rfl⟩
  have hm1 := run_make_row' (P := Try.prog) 30 48 (.slice none 0 0) 24 Try.underlying30 infoR14 rfl .i64 .i64 M (by omega) (by omega)
  have hm2 := run_make_row' (P := Try.prog) 48 3 (.int .i64 0) 8 Try.underlying48 infoCI rfl .i64 .i64 n (by omega) (by omega)
  have hwr : IntKind.i64.wrap (2 * (n : Int)) = (M : Int) := by rw [i64_ok14 (by omega)]; omega
  rw [hn] at HZ f0 hw1 hf1 hL hF ⊢
  have HMM := Lib.hid (And.intro hM hn)
  have HCL := Lib.hid (fun (W : World) (hW : Below w1.heap.size w1 W) => cloneB n (fun j => .bool (z.getD j false)) B Az cz W (by omega) (fun j _ => rfl) (HZ.out W hW) (Nat.le_trans hB (Nat.le_trans hb1.size hW.size)))
  have HW1 := Lib.hid hw1
  have HX := Lib.hid (And.intro hb1 (And.intro hf1 (And.intro hL hR)))
  clear hM hn hw1 hb1 hf1 hL hR hZ hF
  go_enter Try.func13, Try.ntmps13
  go_upto_region 3 with fail
  rw [← HW1.out]
  go_cut [6] (fun sv w' => ∃ g H K A2 c2, sv = .pointer (some ⟨g, 0, none⟩) ∧ Hid (Based w1 w' z n M g H K A2 c2))
  case first =>
    go_region_held3 (fun _ => True) (trivial)
      (first
        | (go_at_call 30; refine (HCL.out _ (by first | exact (Below.refl _ _).drew | exact (((Below.refl _ _).alloc (Nat.le_refl _) _).drew) | exact ((((Below.refl _ _).alloc (Nat.le_refl _) _).alloc (by simp) _).drew))).mono ?_; rintro e w2 ⟨A2, c2, rfl, ho2, hb2⟩; have HO2 := Lib.hid ho2; have HB2 := Lib.hid hb2; clear ho2 hb2))
    all_goals (go_wp2_with fail; go_meet)
    all_goals have hs2 := HB2.out.size
    all_goals (try simp at hs2)
    all_goals first
      | (refine ⟨w2.heap.size + 1 + 1, w2.heap.size, w2.heap.size + 1, A2, c2, rfl, Lib.hid ⟨?_, ?_, ?_, ?_, ?_, ?_, ?_, ?_⟩⟩ <;> first
        | omega
        | ((repeat (first | (with_reducible refine blk_new14 (by first | rfl | (simp; done))) | (with_reducible exact Blk.new _ _ _) | (with_reducible refine Blk.alloc ?_ _) | (with_reducible refine Blk.drew_ ?_) | (with_reducible refine Blk.below ?_ HB2.out (by first | omega | (simp; done) | (simp; omega))))); done)
        | ((repeat (first | refine own_more HO2.out (by first | omega | (simp; done) | (simp; omega)) | refine World.ownsRow.alloc ?_ _)); done)
        | ((repeat (first | exact Below.refl _ _ | refine Below.drew ?_ | refine Below.alloc ?_ (by first | omega | (simp; done) | (simp; omega)) _ | refine Below.trans ?_ (HB2.out.mono (by first | omega | (simp; done) | (simp; omega))))); done))
      | (refine ⟨w2.heap.size + 1 + 1, w2.heap.size + 1, w2.heap.size, A2, c2, rfl, Lib.hid ⟨?_, ?_, ?_, ?_, ?_, ?_, ?_, ?_⟩⟩ <;> first
        | omega
        | ((repeat (first | (with_reducible refine blk_new14 (by first | rfl | (simp; done))) | (with_reducible exact Blk.new _ _ _) | (with_reducible refine Blk.alloc ?_ _) | (with_reducible refine Blk.drew_ ?_) | (with_reducible refine Blk.below ?_ HB2.out (by first | omega | (simp; done) | (simp; omega))))); done)
        | ((repeat (first | refine own_more HO2.out (by first | omega | (simp; done) | (simp; omega)) | refine World.ownsRow.alloc ?_ _)); done)
        | ((repeat (first | exact Below.refl _ _ | refine Below.drew ?_ | refine Below.alloc ?_ (by first | omega | (simp; done) | (simp; omega)) _ | refine Below.trans ?_ (HB2.out.mono (by first | omega | (simp; done) | (simp; omega))))); done))
      | (refine ⟨w2.heap.size + 1, w1.heap.size, w2.heap.size, A2, c2, rfl, Lib.hid ⟨?_, ?_, ?_, ?_, ?_, ?_, ?_, ?_⟩⟩ <;> first
        | omega
        | ((repeat (first | (with_reducible refine blk_new14 (by first | rfl | (simp; done))) | (with_reducible exact Blk.new _ _ _) | (with_reducible refine Blk.alloc ?_ _) | (with_reducible refine Blk.drew_ ?_) | (with_reducible refine Blk.below ?_ HB2.out (by first | omega | (simp; done) | (simp; omega))))); done)
        | ((repeat (first | refine own_more HO2.out (by first | omega | (simp; done) | (simp; omega)) | refine World.ownsRow.alloc ?_ _)); done)
        | ((repeat (first | exact Below.refl _ _ | refine Below.drew ?_ | refine Below.alloc ?_ (by first | omega | (simp; done) | (simp; omega)) _ | refine Below.trans ?_ (HB2.out.mono (by first | omega | (simp; done) | (simp; omega))))); done))
      | (refine ⟨w2.heap.size, w1.heap.size, w1.heap.size + 1, A2, c2, rfl, Lib.hid ⟨?_, ?_, ?_, ?_, ?_, ?_, ?_, ?_⟩⟩ <;> first
        | omega
        | ((repeat (first | (with_reducible refine blk_new14 (by first | rfl | (simp; done))) | (with_reducible exact Blk.new _ _ _) | (with_reducible refine Blk.alloc ?_ _) | (with_reducible refine Blk.drew_ ?_) | (with_reducible refine Blk.below ?_ HB2.out (by first | omega | (simp; done) | (simp; omega))))); done)
        | ((repeat (first | refine own_more HO2.out (by first | omega | (simp; done) | (simp; omega)) | refine World.ownsRow.alloc ?_ _)); done)
        | ((repeat (first | exact Below.refl _ _ | refine Below.drew ?_ | refine Below.alloc ?_ (by first | omega | (simp; done) | (simp; omega)) _ | refine Below.trans ?_ (HB2.out.mono (by first | omega | (simp; done) | (simp; omega))))); done))
      | (refine ⟨w2.heap.size + 1, w2.heap.size, w1.heap.size, A2, c2, rfl, Lib.hid ⟨?_, ?_, ?_, ?_, ?_, ?_, ?_, ?_⟩⟩ <;> first
        | omega
        | ((repeat (first | (with_reducible refine blk_new14 (by first | rfl | (simp; done))) | (with_reducible exact Blk.new _ _ _) | (with_reducible refine Blk.alloc ?_ _) | (with_reducible refine Blk.drew_ ?_) | (with_reducible refine Blk.below ?_ HB2.out (by first | omega | (simp; done) | (simp; omega))))); done)
        | ((repeat (first | refine own_more HO2.out (by first | omega | (simp; done) | (simp; omega)) | refine World.ownsRow.alloc ?_ _)); done)
        | ((repeat (first | exact Below.refl _ _ | refine Below.drew ?_ | refine Below.alloc ?_ (by first | omega | (simp; done) | (simp; omega)) _ | refine Below.trans ?_ (HB2.out.mono (by first | omega | (simp; done) | (simp; omega))))); done))
      | (refine ⟨w2.heap.size, w1.heap.size + 1, w1.heap.size, A2, c2, rfl, Lib.hid ⟨?_, ?_, ?_, ?_, ?_, ?_, ?_, ?_⟩⟩ <;> first
        | omega
        | ((repeat (first | (with_reducible refine blk_new14 (by first | rfl | (simp; done))) | (with_reducible exact Blk.new _ _ _) | (with_reducible refine Blk.alloc ?_ _) | (with_reducible refine Blk.drew_ ?_) | (with_reducible refine Blk.below ?_ HB2.out (by first | omega | (simp; done) | (simp; omega))))); done)
        | ((repeat (first | refine own_more HO2.out (by first | omega | (simp; done) | (simp; omega)) | refine World.ownsRow.alloc ?_ _)); done)
        | ((repeat (first | exact Below.refl _ _ | refine Below.drew ?_ | refine Below.alloc ?_ (by first | omega | (simp; done) | (simp; omega)) _ | refine Below.trans ?_ (HB2.out.mono (by first | omega | (simp; done) | (simp; omega))))); done))
  case rest =>
    obtain ⟨g, H, K, A2, c2, rfl, HBS⟩ := hcut
    obtain ⟨ρ0, p0, hpg, hpl, hps, hm0, hlo0, _⟩ := HBS.out.lm HMM.out.2 HMM.out.1 hnn
    have hbel := HBS.out.below
    have fb : Blk wc w.heap.size 32 #[Value.int IntKind.i64 n, Value.slice A xss.length c] := HX.out.2.1.below hbel HX.out.2.1.lt
    have fc0 := fb.cell 0
    have fc1 := fb.cell 1
    simp at fc0 fc1
    have hRc : Rows wc B A xss := (HX.out.2.2.2.keep (w' := w1) fun p hp => HX.out.1.cell (by omega)).keep fun p hp => hbel.cell (by have := HX.out.1.size; omega)
    have hfm := formula_norm_any n xss B A c wc (by have := HX.out.2.2.1.few; omega) (HX.out.2.2.1.lit hnn) hRc (Nat.le_trans hB (Nat.le_trans HX.out.1.size hbel.size))
    have HM0 := Lib.hid (And.intro hpg (And.intro hm0 (And.intro hlo0 hbel)))
    have HFM := Lib.hid hfm
    have hLN := HX.out.2.2.1.norm
    have hnd : ∀ c ∈ normForm xss, c.Nodup := fun c hc => by
      obtain ⟨d, _, rfl⟩ := normForm_mem hc
      exact rising_nodup (rising_normOf d)
    obtain ⟨yss, hys⟩ : ∃ yss, normForm xss = yss := ⟨_, rfl⟩
    rw [hys] at HFM hLN hnd
    have HYS := Lib.hid hys
    have HLN := Lib.hid (And.intro hLN hnd)
    have hyl := hLN.few
    clear hpg hpl hps hm0 hlo0 hbel fb hRc hfm hLN hnd hys f0
    go_wp2_with fail
    refine HFM.out.mono ?_
    rintro e w3 ⟨Al, cl, vl, rfl, hown, hol, hb3⟩
    have hm3 := HM0.out.2.1.below hb3
    have hvl : vl.length = yss.length := by have := hown.1; omega
    obtain ⟨ρ3, hm4, hr4⟩ := hm3.withLits rfl hol hvl HM0.out.2.1.fresh
    have hrow0 : ∀ q, (Value.slice Al yss.length cl).ownBlock = some q → ρ3 q = 0 := fun q hq => by
      refine Decidable.not_not.1 fun hne => ?_
      rcases hr4 q hne with e | ⟨_, j, hj, e⟩
      · have := HM0.out.2.1.fresh q e
        have := (hown.lt q hq).1
        omega
      · exact hol.ne_outer hown (by decide) j q hj e hq.symm
    have HM4 : Hid (LM w3 ρ3 { p0 with lsV := vl, lss := yss } (MS.of z LS.none_ BS.none_)) := Lib.hid hm4
    have HB3 := Lib.hid hb3
    have HLO : Hid (∀ q, ρ3 q ≠ 0 → w1.heap.size ≤ q) := Lib.hid fun q hq => by
      rcases hr4 q hq with e | ⟨e, _⟩
      · exact HM0.out.2.2.1 q e
      · exact Nat.le_trans HM0.out.2.2.2.size e
    have HRW := Lib.hid (And.intro hown hrow0)
    have HOL := Lib.hid hol
    have HVL := Lib.hid hvl
    have hpg := HM0.out.1
    clear hm3 hm4 hr4 hrow0 hown hol hb3 hvl HFM fc0 fc1
    obtain ⟨bo, hbo⟩ : ∃ bo, (yss.any fun y => y.isEmpty) = bo := ⟨_, rfl⟩
    rw [hbo]
    clear hbo
    go_wp2
    have hspec : ∀ j, j ≤ yss.length → (LS.adds (yss.take j)).Good z.length ∧ (LS.adds (yss.take j)).cls = yss.take j ∧ ∀ i, (LS.adds (yss.take j)).hss.getD i [] = [] := fun j hj => adds_spec (by rw [HMM.out.2]; exact hnn) j (yss.take j) (by simp; omega) (by omega) fun d hd => by
      have hd' := List.mem_of_mem_take hd
      refine ⟨HLN.out.2 d hd', fun x hx => ?_, by have := HLN.out.1.short d hd'; omega⟩
      have := HLN.out.1.lits d hd' x hx
      rw [HMM.out.2]
      omega
    have HSP := Lib.hid hspec
    clear hspec
    go_loopg [35] (yss.length + 1) (fun gk ti wr => ∃ (j : Nat) (ρr : Nat → Nat) (pr : Lx), j ≤ yss.length ∧ gk = yss.length - j + 1 ∧ ti = .int .i64 (j : Nat) ∧ Hid (pr.g = g ∧ pr.lsV = vl ∧ pr.lss = yss) ∧ Hid (LM wr ρr pr (MS.of z (LS.adds (yss.take j)) BS.none_)) ∧ Hid (LStep w3 ρ3 wr ρr))
    case atStart => exact ⟨0, ρ3, { p0 with lsV := vl, lss := yss }, by omega, by omega, rfl, Lib.hid ⟨hpg, rfl, rfl⟩, HM4, Lib.hid LStep.refl⟩
    case round =>
      obtain ⟨j, ρr, pr, hj, rfl, rfl, HPR, HLM, HST⟩ := hrel
      clear HM4
      by_cases hlt : j < yss.length
      · obtain ⟨s1, s2, s3⟩ := HSP.out j (by omega)
        have hrow := HST.out.ft.own HRW.out.1 fun q hq hne => hne (HRW.out.2 q hq)
        obtain ⟨ba, eA, _, _⟩ := own_addr hrow (by omega)
        subst eA
        have cA := World.ownsRow.cellAt hrow j (by omega)
        obtain ⟨Aj, cj, e1, e2⟩ := HOL.out.each j hlt
        rw [e1] at cA
        have hcl : (LS.adds (yss.take j)).cls.length = j := by rw [s2]; simp; omega
        have hmem : yss.getD j [] ∈ yss := by simp only [List.getD, List.getElem?_eq_getElem hlt, Option.getD_some]; exact List.getElem_mem hlt
        have hadd := add_any14 HLM.out s1 (c := yss.getD j []) (Ac := Aj) (cc := cj) (by rw [hcl, HPR.out.2.2]; exact hlt) (by rw [hcl, HPR.out.2.2]) (HLN.out.2 _ hmem) (fun x hx => by have := HLN.out.1.lits _ hmem x hx; rw [HMM.out.2]; omega) (by have := HLN.out.1.short _ hmem; omega) (by omega) (by rw [hcl, HPR.out.2.1, List.getD, e1]; rfl)
        have hnx : (LS.adds (yss.take j)).addC (yss.getD j []) = LS.adds (yss.take (j + 1)) := by
          rw [List.take_succ_eq_append_getElem hlt, adds_snoc]
          simp [List.getD, hlt]
        rw [hnx, HPR.out.1] at hadd
        obtain ⟨cc, hcc⟩ : ∃ cc, yss.getD j [] = cc := ⟨_, rfl⟩
        rw [hcc] at hadd cA
        have HAD := Lib.hid hadd
        have hjl : (j : Int) < (yss.length : Int) := by omega
        clear hadd hrow e1 e2 hcl hmem hnx hcc s1 s2 s3
        go_wp2_with fail
        refine HAD.out.mono ?_
        rintro e w4 ⟨rfl, ρ4, p4, h1, h2, h3, h4, h5⟩
        have HE := Lib.hid (And.intro h1 (And.intro h2 (And.intro h3 (And.intro h4 h5))))
        clear h1 h2 h3 h4 h5 HAD cA
        go_wp2
        go_roundg (yss.length - j)
        case measure => omega
        case rel => exact ⟨j + 1, ρ4, p4, by omega, by omega, by go_num, Lib.hid ⟨HE.out.1, HE.out.2.1.trans HPR.out.2.1, HE.out.2.2.1.trans HPR.out.2.2⟩, Lib.hid HE.out.2.2.2.1, Lib.hid (HST.out.trans HE.out.2.2.2.2)⟩
      · have hjl : yss.length = j := by omega
        subst hjl
        rw [List.take_length] at HLM
        obtain ⟨s1, s2, s3⟩ := HSP.out yss.length (Nat.le_refl _)
        rw [List.take_length] at s1 s2 s3
        have HS0 : Hid ((LS.adds yss).Good z.length ∧ (LS.adds yss).cls = yss ∧ (LS.adds yss).AtTo z 0 ∧ LS.adds yss = startTo14 z yss 0) := Lib.hid ⟨s1, s2, fun k x => by
          rw [s3]
          constructor
          · intro hx; cases hx
          · rintro ⟨a, _, b⟩
            have := s1.lits k x a
            omega, rfl⟩
        have c0 := HLM.out.cells.1
        change wr.cell? ⟨pr.g, 0, none⟩ = some (.slice pr.vA z.length pr.vc) at c0
        rw [HPR.out.1, HMM.out.2] at c0
        obtain ⟨w5, rfl⟩ : ∃ w5 : World, w5 = wr := ⟨_, rfl⟩
        clear hlt hj s1 s2 s3 HSP HOL HRW
        go_wp2
        clear c0
        go_loopg [48] (n + 1) (fun gk ti wr => ∃ (i : Nat) (s : LS), i ≤ n ∧ gk = n - i + 1 ∧ ti = .int .i64 (i : Nat) ∧ Hid (LM wr ρr pr (MS.of z s BS.none_)) ∧ Hid (s.Good z.length ∧ s.cls = yss ∧ s.AtTo z i ∧ s = startTo14 z yss i) ∧ Hid (LStep w3 ρ3 wr ρr))
        case atStart => exact ⟨0, LS.adds yss, by omega, by omega, rfl, HLM, HS0, HST⟩
        case round =>
          obtain ⟨i, s, hi, rfl, rfl, HLMi, HSi, HSTi⟩ := hrel
          clear HLM HS0 HST
          by_cases hil : i < n
          · have hho := holder_any HLMi.out (show z.length ≤ 1000 by rw [HMM.out.2]; exact hnn) (v := i + 1) (by omega) (show i + 1 ≤ z.length by rw [HMM.out.2]; omega)
            have habs := holder_abs z (i + 1)
            have hga := gain_any HLMi.out HSi.out.1 (l := holder z (i + 1)) (by omega) (by rw [HMM.out.2]; omega) (fun k hk => by have := ((HSi.out.2.2.1 k _).1 hk).2.2; omega)
            obtain ⟨t1, t2, t3⟩ := atTo_next HSi.out.1 HSi.out.2.2.1 (by rw [HMM.out.2]; exact hil)
            change Calls _ _ _ _ (fun e w' => e = .returned (.int .i64 (holder z (i + 1))) ∧ wr = w') at hho
            rw [HPR.out.1] at hho hga
            obtain ⟨s', hs'⟩ : ∃ s', s.gains (holder z (i + 1)) (hav s.cls (holder z (i + 1))) = s' := ⟨_, rfl⟩
            rw [hs'] at hga t1 t2 t3
            have HS' : Hid (s'.Good z.length ∧ s'.cls = yss ∧ s'.AtTo z (i + 1) ∧ s' = startTo14 z yss (i + 1)) := Lib.hid ⟨t1, t2.trans HSi.out.2.1, t3, by rw [startTo14_next, ← HSi.out.2.2.2, hs']⟩
            obtain ⟨l, hl⟩ : ∃ l, holder z (i + 1) = l := ⟨_, rfl⟩
            rw [hl] at hho hga
            have HHO := Lib.hid hho
            have HGA := Lib.hid hga
            have hin : (i : Int) < (n : Int) := by omega
            clear hho hga hs' t1 t2 t3 hl habs
            go_wp2_with fail
            refine HHO.out.mono ?_
            rintro e w6 ⟨rfl, rfl⟩
            go_wp2_with fail
            refine HGA.out.mono ?_
            rintro e w6 ⟨rfl, h1, h2⟩
            have HE := Lib.hid (And.intro h1 h2)
            clear h1 h2 HHO HGA
            go_wp2
            go_roundg (n - i)
            case measure => omega
            case rel => exact ⟨i + 1, s', by omega, by omega, by go_num, Lib.hid HE.out.1, HS', Lib.hid (HSTi.out.trans HE.out.2)⟩
          · have hin : n = i := by omega
            have c3 := HLMi.out.cells.2.2.2.1
            have c6 := HLMi.out.cells.2.2.2.2.2.2.1
            change wr.cell? ⟨pr.g, 3, none⟩ = some (.slice pr.rA s.row.length pr.rc) at c3
            change wr.cell? ⟨pr.g, 6, none⟩ = some (.int .i64 (0 : Nat)) at c6
            have f6 := HLMi.out.frozen 6
            obtain ⟨h1, h2⟩ := HLMi.out.setFew s.row.length
            rw [HPR.out.1] at c3 c6 f6 h1 h2
            have hrl := HSi.out.1.rlen
            have hfew := HSi.out.1.few
            obtain ⟨rl, hrll⟩ : ∃ rl, s.row.length = rl := ⟨_, rfl⟩
            have HRL := Lib.hid hrll
            rw [hrll] at c3 h1 h2 hrl
            have HE := Lib.hid (And.intro h1 h2)
            clear hil hi h1 h2 hrll
            go_wp2
            go_ret2
            refine ⟨ρr, pr, by rw [HPR.out.1]; rfl, s, ?_, HSi.out.2.1.trans HYS.out.symm, HSi.out.1, fun k x => ?_, ?_, fun q hq => ?_, ?_⟩
            · rw [HRL.out]
              exact HE.out.1
            · rw [HSi.out.2.2.1 k x]
              constructor
              · rintro ⟨a, b, _⟩; exact ⟨a, b⟩
              · rintro ⟨a, b⟩
                have := (HSi.out.1.lits k x a).2
                rw [HMM.out.2] at this
                exact ⟨a, b, by omega⟩
            · have b1 : Below w.heap.size w w3 := HX.out.1.trans ((HM0.out.2.2.2.trans (HB3.out.mono HM0.out.2.2.2.size)).mono HX.out.1.size)
              exact b1.trans (((HSTi.out.trans HE.out.2).ft.below (B := w.heap.size) b1.size fun q hq => Nat.le_trans HX.out.1.size (HLO.out q hq)))
            · rcases Nat.lt_or_ge q w3.heap.size with hl | hl
              · rw [HSTi.out.part q hl] at hq
                exact Nat.le_trans HX.out.1.size (HLO.out q hq)
              · exact Nat.le_trans HX.out.1.size (Nat.le_trans HM0.out.2.2.2.size (Nat.le_trans HB3.out.size hl))
            · rw [HSi.out.2.2.2, HYS.out]
              unfold startLS
              rw [HMM.out.2, hin]
end Go.Proofs.Ytllgepabjglnaaa
