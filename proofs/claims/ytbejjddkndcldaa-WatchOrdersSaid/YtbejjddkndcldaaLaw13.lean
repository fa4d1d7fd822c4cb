/- The law's own helpers: decided; a decision, as mathematics. The law's example holds. What the law's struct goes through; its example. What the laws of the propagator ask of numbers. -/
import Derived.Test.YtbejjddkndcldaaBeg13b
import Derived.Test.YtbejjddkndcldaaBits
import Derived.Test.YtbejjddkndcldaaRawMath
import Derived.Test.YtbejjddkndcldaaTrlC
import Derived.Test.YtbejjddkndcldaaRawForm
import Derived.Test.YtbejjddkndcldaaLaw02
namespace Go.Proofs.Ytbejjddkndcldaa
open Go.RowKit
set_option linter.unusedVariables false
set_option linter.unusedSimpArgs false

theorem u16_and_1 (n : Int) (h0 : 0 ≤ n) (h1 : n ≤ 65535) : bits .and .u16 n 1 = n % 2 := by
  have key : (BitVec.ofInt 16 n &&& BitVec.ofInt 16 1).toNat = (n % 65536).toNat % 2 := by
    rw [BitVec.toNat_and, BitVec.toNat_ofInt, show (BitVec.ofInt 16 1).toNat = 2 ^ 1 - 1 by decide, Nat.and_two_pow_sub_one_eq_mod]
    rfl
  show IntKind.u16.wrap ((BitVec.ofInt 16 n &&& BitVec.ofInt 16 1).toNat : Nat) = _
  rw [key, u16_wrap]
  omega
/-- what a number decides -/
def decN (N : Nat) (n : Int) (t : TS) : TS := if N = 0 then t else t.dec (rawLit N n)
theorem dec_cases {t : TS} (h : t.Good) {l : Int} (hl : l ≠ 0 ∧ l.natAbs ≤ t.ph.length) : (valT t.recs l = 0 ∧ (t.dec l).lits = t.lits ++ [l] ∧ (t.dec l).starts.length = t.starts.length + 1) ∨ (valT t.recs l ≠ 0 ∧ t.dec l = t) := by
  by_cases hv : valT t.recs l = 0
  · refine .inl ⟨hv, ?_, ?_⟩
    · unfold TS.dec; rw [if_pos ((TS.takes_val h hl).2 hv)]; simp [TS.lits, TS.push, TS.up]
    · unfold TS.dec; rw [if_pos ((TS.takes_val h hl).2 hv)]; simp [TS.push, TS.up]
  · refine .inr ⟨hv, ?_⟩
    unfold TS.dec
    rw [if_neg (fun e => hv ((TS.takes_val h hl).1 e))]
section
variable {N : Nat} {cs0 cs : List Cl} {t : TS} {s : WS}
theorem PI.dec (h : PI N cs0 cs t s) {l : Int} (hl : l ≠ 0 ∧ l.natAbs ≤ N) : PI N cs0 cs (t.dec l) s := by
  rcases dec_cases h.good (l := l) (by rw [h.ph]; exact hl) with ⟨hv, h1, h2⟩ | ⟨hv, h1⟩
  · have hsub : ∀ x, x ∈ t.lits → x ∈ (t.dec l).lits := fun x hx => by rw [h1]; exact List.mem_append_left _ hx
    refine ⟨h.cls, h.good.dec l, by rw [TS.dec_ph]; exact h.ph, h.lst, fun y c l' e1 e2 e3 => ?_, fun y c e1 e2 => ?_, h.fre, ?_, by rw [h2]; have := h.lev; omega⟩
    · rw [h1, List.take_append_of_le_length h.hd] at e3
      exact (h.dn y c l' e1 e2 e3).more (fun _ hx => hx) hsub
    · exact (h.sh y c e1 e2).imp id fun h => h.more (fun _ hx => hx) hsub
    · rw [h1, List.length_append]; have := h.hd; omega
  · rw [h1]; exact h
theorem PI.decN (h : PI N cs0 cs t s) (n : Int) : PI N cs0 cs (decN N n t) s := by
  unfold Go.Proofs.Ytbejjddkndcldaa.decN
  split
  · exact h
  · have := rawLit_bd (F := N) (by omega) n
    exact h.dec (by omega)
end
section
variable {w : World} {base : Nat} {px : Px} {N : Nat} {G : Nat → Prop} {cs : List Cl} {t : TS} {s : WS} {hd : Nat → Value}
set_option maxRecDepth 100000 in
set_option maxHeartbeats 1000000 in
theorem decided_any (h : Ob w base px N G cs t s hd) (hB : base ≤ w.heap.size) (hN : N ≤ 1000) (hg : t.Good) {gX ML : Nat} (hx : Blk w gX 41 #[.pointer (some ⟨px.gA, 0, none⟩), .pointer (some ⟨px.gT, 0, none⟩), .pointer (some ⟨px.gW, 0, none⟩), .map (some ML)]) (n : Int) (h0 : 0 ≤ n) (h1 : n ≤ 65535) :
    Calls Try.prog 17 #[.pointer (some ⟨gX, 0, none⟩), .int .u16 n, .int .i64 (N : Nat)] w fun e w' => e = .returned (.tuple #[]) ∧ ∃ G', Ob w' base px N G' cs (decN N n t) s hd ∧ St G G' w w' := by
  have x1 := hx.cell 1
  simp at x1
  have hgl := hx.lt
  rcases Nat.eq_zero_or_pos N with hz | hpos
  · subst hz
    have H := Lib.hid h
    clear h hx x1 hgl
    rw [show ((0 : Nat) : Int) = 0 from rfl]
    go_enter Try.func17, Try.ntmps17
    go_wp2
    go_end0
    exact ⟨rfl, G, by unfold decN; rw [if_pos rfl]; exact H.out, St.refl w⟩
  · have hbd := rawLit_bd hpos n
    have CD := Lib.hid (ob_decide h hg hB (rawLit N n) (by omega))
    have hrl : rawLit N n = if n % 2 = 1 then -(1 + n % 65536 / 2 % N) else 1 + n % 65536 / 2 % N := rfl
    rw [Int.emod_eq_of_lt h0 (by omega : n < 65536)] at hrl
    have hq : ((N : Int) == 0) = false := by simp; omega
    have hq0 : 0 ≤ n / 2 % (N : Int) := Int.emod_nonneg _ (by omega)
    have hq1 : n / 2 % (N : Int) < N := Int.emod_lt_of_pos _ (by omega)
    have ha := u16_and_1 n h0 h1
    have hNi : (0 : Int) < (N : Int) := by omega
    have HDN := Lib.hid (show decN N n t = t.dec (rawLit N n) by unfold decN; rw [if_neg (by omega)])
    obtain ⟨q, hqq⟩ : ∃ q, q = n / 2 % (N : Int) := ⟨_, rfl⟩
    rw [← hqq] at hrl hq0 hq1
    have hqq' := hqq.symm
    clear hqq h hx hbd
    rcases Int.emod_two_eq n with hp | hp
    · rw [hp] at ha hrl
      have HRL := Lib.hid (show rawLit N n = 1 + q from hrl)
      rw [HRL.out] at CD
      clear hrl hp
      go_enter Try.func17, Try.ntmps17
      go_wp2_with fail
      refine CD.out.mono ?_
      rintro e w1 ⟨rfl, G1, ho1, hs1⟩
      have H1 := Lib.hid (And.intro ho1 hs1)
      clear ho1 hs1
      go_wp2
      go_end0
      exact ⟨rfl, G1, by rw [HDN.out, HRL.out]; exact H1.out.1, H1.out.2⟩
    · rw [hp] at ha hrl
      have HRL := Lib.hid (show rawLit N n = -(1 + q) from hrl)
      rw [HRL.out] at CD
      clear hrl hp
      go_enter Try.func17, Try.ntmps17
      go_wp2_with fail
      refine CD.out.mono ?_
      rintro e w1 ⟨rfl, G1, ho1, hs1⟩
      have H1 := Lib.hid (And.intro ho1 hs1)
      clear ho1 hs1
      go_wp2
      go_end0
      exact ⟨rfl, G1, by rw [HDN.out, HRL.out]; exact H1.out.1, H1.out.2⟩
end

end Go.Proofs.Ytbejjddkndcldaa

namespace Go.Proofs.Ytbejjddkndcldaa
open Go.RowKit
set_option linter.unusedVariables false
set_option linter.unusedSimpArgs false

def ex13 : List (List Int) := [[1, 2], [-2, 3]]
theorem ex13_light : LightForm 3 ex13 := ⟨by decide, by decide, by decide⟩
theorem ex13_norm : normForm ex13 = ex13 := by decide
theorem ex13_told0 : Told ex13 [] [] true := by
  refine told_yes (by simp) (by simp) ?_ (by simp) ?_
  · intro c hc x hx h
    simp [ex13] at hc
    rcases hc with rfl | rfl
    · simp at hx
      rcases hx with rfl | rfl
      · exact absurd (h 2 (by simp) (by decide)) (by simp)
      · exact absurd (h 1 (by simp) (by decide)) (by simp)
    · simp at hx
      rcases hx with rfl | rfl
      · exact absurd (h 3 (by simp) (by decide)) (by simp)
      · exact absurd (h (-2) (by simp) (by decide)) (by simp)
  · intro c hc h
    simp [ex13] at hc
    rcases hc with rfl | rfl
    · exact absurd (h 1 (by simp)) (by simp)
    · exact absurd (h 3 (by simp)) (by simp)
theorem ex13_told1 : Told ex13 [-1] [-1, 2, 3] true := by
  have f1 : Fol ex13 [-1] (-1) := Fol.given (by simp)
  have f2 : Fol ex13 [-1] 2 := Fol.closed [1, 2] (by simp [ex13]) 2 (by simp) fun y hy hne => by
    simp at hy
    rcases hy with rfl | rfl
    · exact f1
    · exact absurd rfl hne
  have f3 : Fol ex13 [-1] 3 := Fol.closed [-2, 3] (by simp [ex13]) 3 (by simp) fun y hy hne => by
    simp at hy
    rcases hy with rfl | rfl
    · exact f2
    · exact absurd rfl hne
  refine told_yes (by simp) (fun x hx => ?_) ?_ (fun x h1 h2 => ?_) ?_
  · simp at hx
    rcases hx with rfl | rfl | rfl
    · exact f1
    · exact f2
    · exact f3
  · intro c hc x hx h
    simp [ex13] at hc
    rcases hc with rfl | rfl
    · simp at hx
      rcases hx with rfl | rfl
      · exact absurd (h 2 (by simp) (by decide)) (by decide)
      · decide
    · simp at hx
      rcases hx with rfl | rfl
      · exact absurd (h 3 (by simp) (by decide)) (by decide)
      · decide
  · simp at h1
    rcases h1 with rfl | rfl | rfl <;> revert h2 <;> decide
  · intro c hc h
    simp [ex13] at hc
    rcases hc with rfl | rfl
    · exact absurd (h 2 (by simp)) (by decide)
    · exact absurd (h 3 (by simp)) (by decide)
theorem ex13_at (x : Int) : at? (csOf ex13) x = if x = 0 then some (clOf [1, 2]) else if x = 5 then some (clOf [-2, 3]) else none := by
  show (if x = 0 then _ else if x - 5 = 0 then _ else none) = _
  by_cases h0 : x = 0
  · rw [if_pos h0, if_pos h0]; rfl
  · rw [if_neg h0, if_neg h0]
    by_cases h5 : x = 5
    · rw [if_pos (by omega), if_pos h5]; rfl
    · rw [if_neg (by omega), if_neg h5]
theorem ex13_why {t : TS} (hg : t.Good) {L : List Int} (h3 : (3 : Int) ∈ t.lits) (t0 : TS) (h0 : t0.lits = [-1]) (hw : Grw (csOf ex13) t0 t) : whyT t.recs 3 = 5 := by
  obtain ⟨r, hr, hrl⟩ := List.mem_map.1 h3
  obtain ⟨i, hi⟩ := List.getElem?_of_mem hr
  have hf := find_uniq hg.uniq hi (.inl hrl : r.of 3)
  unfold whyT
  rw [hf]
  show r.rs = 5
  obtain ⟨_, more, hm, hall⟩ := hw
  rw [hm] at hr
  rcases List.mem_append.1 hr with h | h
  · have : r.l ∈ t0.lits := List.mem_map_of_mem h
    rw [h0, hrl] at this
    simp at this
  · obtain ⟨c, h1, h2⟩ := hall r h
    rw [ex13_at] at h1
    rw [hrl] at h2
    split at h1
    · injection h1 with h1
      rw [← h1] at h2
      simp [clOf] at h2
    · split at h1
      · assumption
      · cases h1
theorem lits_len (t : TS) : t.lits.length = t.recs.length := by simp [TS.lits]
theorem nodup_same {a b : List Int} (ha : a.Nodup) (hb : b.Nodup) (h : ∀ x, x ∈ a ↔ x ∈ b) : a.length = b.length :=
  Nat.le_antisymm (nodup_len ha fun x hx => (h x).1 hx) (nodup_len hb fun x hx => (h x).2 hx)
theorem told_same {cs : List (List Int)} {L r r' : List Int} (h : Told cs L r true) (h' : Told cs L r' true) : ∀ x, x ∈ r ↔ x ∈ r' := fun x => ((h.yes rfl).2 x).trans ((h'.yes rfl).2 x).symm

end Go.Proofs.Ytbejjddkndcldaa

namespace Go.Proofs.Ytbejjddkndcldaa
open Go.RowKit
set_option linter.unusedVariables false
set_option linter.unusedSimpArgs false

/-- the law's struct with its propagator -/
structure Lv (w : World) (base N : Nat) (yss : List (List Int)) (gX ML : Nat) (px : Px) (G : Nat → Prop) (cs : List Cl) (t : TS) (s : WS) (hd : Nat → Value) : Prop where
  blk : Blk w gX 41 #[.pointer (some ⟨px.gA, 0, none⟩), .pointer (some ⟨px.gT, 0, none⟩), .pointer (some ⟨px.gW, 0, none⟩), .map (some ML)]
  ob : Ob w base px N G cs t s hd
  pi : PI N (csOf yss) cs t s
  nG : ¬ G gX
  fr : s.fresh.length ≤ 1000
section
variable {w w' w0 : World} {base N gX ML : Nat} {yss : List (List Int)} {px : Px} {G H : Nat → Prop} {cs : List Cl} {t : TS} {s : WS} {hd : Nat → Value}
theorem Lv.gr (h : Lv w base N yss gX ML px G cs t s hd) (hg : Gr w w') : Lv w' base N yss gX ML px G cs t s hd := ⟨h.blk.below hg.below h.blk.lt, h.ob.gr hg, h.pi, h.nG, h.fr⟩
theorem Lv.drewE (h : Lv w base N yss gX ML px G cs t s hd) (hd' : ∃ m, w' = w.drewN m) : Lv w' base N yss gX ML px G cs t s hd := h.gr ((Gr.refl w).drewE hd')
theorem Lv.below (h : Lv w base N yss gX ML px G cs t s hd) (hb : Below w.heap.size w w') : Lv w' base N yss gX ML px G cs t s hd := ⟨h.blk.below hb h.blk.lt, h.ob.below hb, h.pi, h.nG, h.fr⟩
theorem Lv.apart (h : Lv w base N yss gX ML px G cs t s hd) (hf : Ft H w w') (hd' : ∀ q, G q → H q → False) (hx : ¬ H gX) : Lv w' base N yss gX ML px G cs t s hd := ⟨hf.blk h.blk hx, h.ob.apart hf hd', h.pi, h.nG, h.fr⟩
theorem Begun.lv {vs : List Value} (h : Begun w0 w N yss vs gX ML px G s hd) (hn : yss.length ≤ 1000) : Lv w (w0.heap.size + 1) N yss gX ML px G (csOf yss) (TS.fresh N) s hd :=
  ⟨h.blk, h.ob, h.pi, fun e => (h.nG gX e).1 rfl, Nat.le_trans h.frl hn⟩
theorem Lv.tr (h : Lv w base N yss gX ML px G cs t s hd) : Tr w base px.gT px.P t := h.ob.tr h.pi.good
theorem Lv.bd (h : Lv w base N yss gX ML px G cs t s hd) {B : Nat} (hb : B ≤ base) : ∀ q, G q → B ≤ q := fun q hq => Nat.le_trans hb (h.ob.bd q hq).1
theorem lv_propagate (h : Lv w base N yss gX ML px G cs t s hd) (hB : base ≤ w.heap.size) (hN : N ≤ 1000) (ht : total (csOf yss) ≤ 480) (hvis : s.vis ≤ 274877906944) :
    Calls Try.prog 14 #[.pointer (some ⟨px.gW, 0, none⟩)] w fun e w' => ∃ G', St G G' w w' ∧ ((∃ r : Int, e = .returned (.tuple #[.int .i64 r, .bool false]) ∧ Clash yss t.lits ∧ Seen w' px s.vis) ∨
      (e = .returned (.tuple #[.int .i64 0, .bool true]) ∧ ∃ cs' t' s' hd', Lv w' base N yss gX ML px G' cs' t' s' hd' ∧ Told yss t.lits t'.lits true ∧ Grw (csOf yss) t t' ∧ s.vis ≤ s'.vis ∧ s'.vis ≤ s.vis + 1000000)) := by
  have hp := propagate_any h.ob hB hN (by omega) (fun c hc => csOf_alive hc) h.pi (by have := h.fr; omega) hvis
  refine hp.mono fun e w' ⟨G', hst, hE⟩ => ⟨G', hst, ?_⟩
  rw [csOf_lits] at hE
  rcases hE with hE | ⟨he, cs', t', s', hd', ho, hpi, hfr, hT, hg, h1, h2⟩
  · exact .inl hE
  · refine .inr ⟨he, cs', t', s', hd', ⟨hst.ft.blk h.blk h.nG, ho, hpi, fun e => ?_, by rw [hfr]; simp⟩, hT, hg, h1, ?_⟩
    · rcases hst.nw gX e with e | e
      · exact h.nG e
      · have := h.blk.lt; omega
    · have h3 : N * total (csOf yss) ≤ 1000 * 480 := Nat.mul_le_mul hN ht
      have := h.fr
      omega
theorem lv_decide (h : Lv w base N yss gX ML px G cs t s hd) (hB : base ≤ w.heap.size) (l : Int) (hl : l ≠ 0 ∧ l.natAbs ≤ N) (hN : N ≤ 1000) :
    Calls Try.prog 36 #[.pointer (some ⟨px.gT, 0, none⟩), .int .i64 l] w fun e w' => e = .returned (.bool (t.takes l)) ∧ ∃ G', Lv w' base N yss gX ML px G' cs (t.dec l) s hd ∧ St G G' w w' := by
  refine (ob_decide h.ob h.pi.good hB l (by omega)).mono fun e w' ⟨he, G', ho, hst⟩ => ⟨he, G', ⟨hst.ft.blk h.blk h.nG, ho, h.pi.dec hl, fun e => ?_, h.fr⟩, hst⟩
  rcases hst.nw gX e with e | e
  · exact h.nG e
  · have := h.blk.lt; omega
theorem lv_decided (h : Lv w base N yss gX ML px G cs t s hd) (hB : base ≤ w.heap.size) (hN : N ≤ 1000) (n : Int) (h0 : 0 ≤ n) (h1 : n ≤ 65535) :
    Calls Try.prog 17 #[.pointer (some ⟨gX, 0, none⟩), .int .u16 n, .int .i64 (N : Nat)] w fun e w' => e = .returned (.tuple #[]) ∧ ∃ G', Lv w' base N yss gX ML px G' cs (decN N n t) s hd ∧ St G G' w w' := by
  refine (decided_any h.ob hB hN h.pi.good h.blk n h0 h1).mono fun e w' ⟨he, G', ho, hst⟩ => ⟨he, G', ⟨hst.ft.blk h.blk h.nG, ho, h.pi.decN n, fun e => ?_, h.fr⟩, hst⟩
  rcases hst.nw gX e with e | e
  · exact h.nG e
  · have := h.blk.lt; omega
end

set_option maxRecDepth 100000 in
set_option maxHeartbeats 4000000 in
theorem fit13_any (w : World) : Calls Try.prog 10 #[] w fun e w' => e = .returned (.bool true) ∧ Below w.heap.size w w' := by
  obtain ⟨w1, hw1⟩ : ∃ w1, w1 = ((w.alloc (.cells #[.int .i64 1, .int .i64 2] 3)).alloc (.cells #[.int .i64 (-2), .int .i64 3] 3)).alloc (.cells #[.slice (some ⟨w.heap.size, 0, none⟩) 2 2, .slice (some ⟨w.heap.size + 1, 0, none⟩) 2 2] 32) := ⟨_, rfl⟩
  have hb1 : Below w.heap.size w w1 := by rw [hw1]; exact Below.tr (Below.tr (below_al _ _) (below_al _ _)) (below_al _ _)
  have hs1 : w1.heap.size = w.heap.size + 3 := by rw [hw1]; simp
  have k0 : Blk w1 w.heap.size 3 #[.int .i64 1, .int .i64 2] := by rw [hw1]; exact ((Blk.new w _ _).alloc _).alloc _
  have k1 : Blk w1 (w.heap.size + 1) 3 #[.int .i64 (-2), .int .i64 3] := by
    rw [hw1]
    have := (Blk.new (w.alloc (.cells #[.int .i64 1, .int .i64 2] 3)) 3 #[.int .i64 (-2), .int .i64 3]).alloc (.cells #[.slice (some ⟨w.heap.size, 0, none⟩) 2 2, .slice (some ⟨w.heap.size + 1, 0, none⟩) 2 2] 32)
    simpa using this
  have k2 : Blk w1 (w.heap.size + 2) 32 #[.slice (some ⟨w.heap.size, 0, none⟩) 2 2, .slice (some ⟨w.heap.size + 1, 0, none⟩) 2 2] := by
    rw [hw1]
    have := Blk.new ((w.alloc (.cells #[.int .i64 1, .int .i64 2] 3)).alloc (.cells #[.int .i64 (-2), .int .i64 3] 3)) 32 #[.slice (some ⟨w.heap.size, 0, none⟩) 2 2, .slice (some ⟨w.heap.size + 1, 0, none⟩) 2 2]
    simpa using this
  have hrows : Rows w1 w1.heap.size (some ⟨w.heap.size + 2, 0, none⟩) ex13 := fun _ => by
    refine ⟨w.heap.size + 2, 0, rfl, by omega, fun j hj => ?_⟩
    have hj : j < 2 := hj
    rcases (by omega : j = 0 ∨ j = 1) with rfl | rfl
    · refine ⟨some ⟨w.heap.size, 0, none⟩, 2, (k2.cell 0), fun _ => ⟨w.heap.size, 0, rfl, by omega, fun i hi => ?_⟩⟩
      have hi : i < 2 := hi
      rcases (by omega : i = 0 ∨ i = 1) with rfl | rfl
      · exact k0.cell 0
      · exact k0.cell 1
    · refine ⟨some ⟨w.heap.size + 1, 0, none⟩, 2, (k2.cell 1), fun _ => ⟨w.heap.size + 1, 0, rfl, by omega, fun i hi => ?_⟩⟩
      have hi : i < 2 := hi
      rcases (by omega : i = 0 ∨ i = 1) with rfl | rfl
      · exact k1.cell 0
      · exact k1.cell 1
  have CB := Lib.hid (begin_any 3 (by omega) ex13 ex13_light w1.heap.size (some ⟨w.heap.size + 2, 0, none⟩) 2 hrows (Nat.le_refl _))
  rw [ex13_norm] at CB
  have HW1 := Lib.hid hw1
  have HB1 := Lib.hid (And.intro hb1 hs1)
  have e3 : ((3 : Nat) : Int) = 3 := rfl
  have e2 : ex13.length = 2 := rfl
  rw [e3, e2] at CB
  clear hw1 hb1 hs1 k0 k1 k2 hrows e3 e2
  go_enter Try.func10, Try.ntmps10
  go_wp2_with fail
  rw [← HW1.out]
  refine CB.out.mono ?_
  rintro e w2 ⟨gX, ML, px, G, s, hd, vs, rfl, hbg⟩
  have L2 := Lib.hid (hbg.lv (by decide))
  have HV := Lib.hid hbg.vis
  have HB2 := Lib.hid (show Below w.heap.size w w2 from HB1.out.1.trans (hbg.below.mono HB1.out.1.size))
  have HBS := Lib.hid (show w1.heap.size + 1 ≤ w2.heap.size by have := hbg.hX; have := hbg.blk.lt; omega)
  have y2 := hbg.blk.cell 2
  simp at y2
  have hgl := hbg.blk.lt
  have CP := Lib.hid (lv_propagate L2.out HBS.out (by omega) (by decide) (by rw [HV.out]; omega))
  clear hbg CB
  go_wp2_with fail
  refine CP.out.mono ?_
  rintro e w3 ⟨G3, hs3, ⟨r, rfl, hcl⟩ | ⟨rfl, cs3, t3, s3, hd3, hL3, hT3, hg3, hv3, hv3'⟩⟩
  · exact absurd hcl.1 (ex13_told0.yes rfl).1
  have hl3 : t3.lits = [] := List.eq_nil_iff_forall_not_mem.2 fun x hx => by have := (told_same hT3 ex13_told0 x).1 hx; simp at this
  have hr3 : t3.recs.length = 0 := by rw [← lits_len, hl3]; rfl
  have hst3 : t3.starts = [] := hg3.1
  have L3 := Lib.hid hL3
  have HS3 := Lib.hid hs3
  have hB3 : w1.heap.size + 1 ≤ w3.heap.size := Nat.le_trans HBS.out hs3.size
  have CLn := Lib.hid (hr3 ▸ len_any hL3.tr)
  have hval : valT t3.recs (-1) = 0 := val_empty (List.eq_nil_of_length_eq_zero hr3)
  have htk : t3.takes (-1) = true := (TS.takes_val hL3.pi.good ⟨by omega, by rw [hL3.pi.ph]; decide⟩).2 hval
  have CD := Lib.hid (htk ▸ lv_decide hL3 hB3 (-1) ⟨by omega, by decide⟩ (by omega))
  have HD := Lib.hid (show (t3.dec (-1)).lits = [-1] by
    rcases dec_cases hL3.pi.good (l := -1) ⟨by omega, by rw [hL3.pi.ph]; decide⟩ with ⟨_, h1, _⟩ | ⟨h1, _⟩
    · rw [h1, hl3]; rfl
    · exact absurd hval h1)
  have y1 := hL3.blk.cell 1
  have y2 := hL3.blk.cell 2
  simp at y1 y2
  have hgl := hL3.blk.lt
  have HV3 := Lib.hid hv3'
  clear hs3 hL3 hT3 hg3 hv3 hv3' hl3 hr3 hst3 hval htk CP
  go_wp2_with fail
  refine CLn.out.mono ?_
  rintro e w4 ⟨rfl, rfl⟩
  go_wp2_with fail
  refine CD.out.mono ?_
  rintro e w5 ⟨rfl, G5, hL5, hs5⟩
  have L5 := Lib.hid hL5
  have HS5 := Lib.hid (HS3.out.trans hs5)
  have hB5 : w1.heap.size + 1 ≤ w5.heap.size := Nat.le_trans HBS.out HS5.out.size
  have CP5 := Lib.hid (lv_propagate hL5 hB5 (by omega) (by decide) (by have := HV3.out; rw [HV.out] at this; omega))
  have z2 := hL5.blk.cell 2
  simp at z2
  have hgl5 := hL5.blk.lt
  clear hL5 hs5 CD CLn y1 y2 hgl
  go_wp2_with fail
  refine CP5.out.mono ?_
  rintro e w6 ⟨G6, hs6, ⟨r, rfl, hcl⟩ | ⟨rfl, cs6, t6, s6, hd6, hL6, hT6, hg6, hv6, hv6'⟩⟩
  · rw [HD.out] at hcl
    exact absurd hcl.1 (ex13_told1.yes rfl).1
  rw [HD.out] at hT6
  have hsame := told_same hT6 ex13_told1
  have hlen : t6.recs.length = 3 := by
    rw [← lits_len]
    exact nodup_same (lits_nodup hL6.pi.good) (by decide) hsame
  have h3m : (3 : Int) ∈ t6.lits := (hsame 3).2 (by decide)
  have hval : valT t6.recs 3 = 1 := (val_one hL6.pi.good).2 h3m
  have hwhy := ex13_why hL6.pi.good (L := []) h3m (t3.dec (-1)) HD.out hg6
  have C1 := Lib.hid (hlen ▸ len_any hL6.tr)
  have C2 := Lib.hid (hval ▸ value_any hL6.tr 3 (by omega))
  have C3 := Lib.hid (fun w' (hd : ∃ m, w' = w6.drewN m) => hwhy ▸ reason_any (hL6.drewE hd).tr 3 (by omega))
  have hat : at? cs6 1 = none := by
    rcases hL6.pi.cls.perm 1 with ⟨h, _⟩ | ⟨cl, c0, _, h, _⟩
    · exact h
    · rw [ex13_at] at h; simp at h
  have C4 := Lib.hid (fun w' (hd : ∃ m, w' = w6.drewN m) => attach_no (hL6.drewE hd).ob hat (by omega))
  have y1 := hL6.blk.cell 1
  have y2 := hL6.blk.cell 2
  simp at y1 y2
  have hgl := hL6.blk.lt
  have HFI := Lib.hid (show Below w.heap.size w w6 from HB2.out.trans ((HS5.out.trans hs6).ft.below HB2.out.size (L2.out.bd (by have := HB1.out.2; omega))))
  clear hs6 hL6 hT6 hg6 hv6 hv6' hsame hlen h3m hval hwhy hat CP5 z2 hgl5
  go_wp2_with fail
  refine C1.out.mono ?_
  rintro e w7 ⟨rfl, rfl⟩
  go_wp2_with fail
  refine C2.out.mono ?_
  rintro e w8 ⟨rfl, m8, rfl⟩
  have C38 := Lib.hid (C3.out _ ⟨m8, rfl⟩)
  clear C1 C2 C3
  go_wp2_with fail
  refine C38.out.mono ?_
  rintro e w9 ⟨rfl, m9, rfl⟩
  have C49 := Lib.hid (C4.out (w6.drewN (m8 + m9)) ⟨m8 + m9, rfl⟩)
  clear C38 C4
  go_wp2_with fail
  refine C49.out.mono ?_
  rintro e w10 ⟨rfl, hg⟩
  have HG := Lib.hid (show Below w6.heap.size w6 w10 from (below_drewN (Below.refl _ w6) (m8 + m9)).trans hg.below)
  clear hg C49
  go_wp2
  go_ret
  exact ⟨rfl, HFI.out.trans (HG.out.mono HFI.out.size)⟩

end Go.Proofs.Ytbejjddkndcldaa

namespace Go.Proofs.Ytbejjddkndcldaa
open Go.RowKit

theorem lightForm_rawW {F W : Nat} (hW : W ≤ 9) {nss : List (List Int)} (h : light nss 40 = true) : LightForm F (rawForm F W nss) := by
  obtain ⟨h1, h2⟩ := light_iff.1 h
  refine ⟨by rw [rawForm_len]; exact h2, fun c hc => ?_, fun c hc l hl => ?_⟩
  · obtain ⟨d, _, rfl⟩ := List.mem_map.1 hc
    exact Nat.le_trans (rawClause_len F W d).2 hW
  · obtain ⟨d, _, rfl⟩ := List.mem_map.1 hc
    have := rawClause_bd hl
    exact this.2

theorem asgF_off {k : Nat} : ∀ {rs : List Rec} {a : List Bool}, (∀ r ∈ rs, r.l.natAbs - 1 ≠ k) → (rs.foldl (fun a r => a.set (r.l.natAbs - 1) (decide (0 < r.l))) a).getD k false = a.getD k false
  | [], _, _ => rfl
  | q :: rs, a, h => by
    rw [List.foldl_cons, asgF_off fun r hr => h r (List.mem_cons_of_mem _ hr)]
    have := h q (by simp)
    simp only [List.getD]
    rw [List.getElem?_set_ne this]
theorem asgF_len : ∀ (rs : List Rec) (a : List Bool), (rs.foldl (fun a r => a.set (r.l.natAbs - 1) (decide (0 < r.l))) a).length = a.length
  | [], _ => rfl
  | q :: rs, a => by rw [List.foldl_cons, asgF_len]; simp
theorem asgF_get : ∀ {rs : List Rec} {a : List Bool}, Uniq rs → (∀ r ∈ rs, r.l ≠ 0 ∧ r.l.natAbs ≤ a.length) → ∀ r ∈ rs, (rs.foldl (fun a r => a.set (r.l.natAbs - 1) (decide (0 < r.l))) a).getD (r.l.natAbs - 1) false = decide (0 < r.l)
  | [], _, _, _, r, hr => by cases hr
  | q :: rs, a, hu, hb, r, hr => by
    rw [List.foldl_cons]
    obtain ⟨h1, h2⟩ := List.pairwise_cons.1 hu
    rcases List.mem_cons.1 hr with rfl | hr
    · rw [asgF_off fun p hp => by have := h1 p hp; have := hb p (List.mem_cons_of_mem _ hp); have := hb r (by simp); omega]
      have := hb r (by simp)
      simp only [List.getD]
      rw [List.getElem?_set_self (by omega)]
      rfl
    · exact asgF_get h2 (fun p hp => by simpa using hb p (List.mem_cons_of_mem _ hp)) r hr
theorem TS.asg_len (t : TS) : t.asg.length = t.ph.length := asgF_len _ _
theorem asg_holds {t : TS} (h : t.Good) {l : Int} (hl : l ∈ t.lits) : litHolds l t.asg.length (fun j => t.asg.getD j false) = true := by
  obtain ⟨r, hr, rfl⟩ := List.mem_map.1 hl
  have hb := h.lit r hr
  have hg : t.asg.getD (r.l.natAbs - 1) false = decide (0 < r.l) := asgF_get h.uniq h.lit r hr
  have e : litVar r.l = (r.l.natAbs : Nat) := by unfold litVar; split <;> omega
  unfold litHolds
  rw [TS.asg_len, if_pos (by omega), e]
  have e2 : ((r.l.natAbs : Int) - 1).toNat = r.l.natAbs - 1 := by omega
  show (t.asg.getD ((r.l.natAbs : Int) - 1).toNat false == decide (0 < r.l)) = true
  rw [e2, hg]
  simp
/-- a variable that is on the trail -/
def Has (t : TS) (k : Nat) : Prop := ((k : Int) + 1) ∈ t.lits ∨ -((k : Int) + 1) ∈ t.lits
theorem Has.more {t t' : TS} {k : Nat} (h : Has t k) (hm : ∀ x, x ∈ t.lits → x ∈ t'.lits) : Has t' k := h.imp (hm _) (hm _)
theorem Has.dec {t : TS} (h : t.Good) {k : Nat} {l : Int} (hl : l = (k : Int) + 1 ∨ l = -((k : Int) + 1)) (hk : k < t.ph.length) : Has (t.dec l) k ∧ ∀ x, x ∈ t.lits → x ∈ (t.dec l).lits := by
  have hr : l ≠ 0 ∧ l.natAbs ≤ t.ph.length := by omega
  rcases dec_cases h hr with ⟨_, h1, _⟩ | ⟨h1, h2⟩
  · refine ⟨?_, fun x hx => by rw [h1]; simp [hx]⟩
    unfold Has
    rw [h1]
    rcases hl with e | e
    · left; simp [e]
    · right; simp [e]
  · have e : t.dec l = t := by first | exact h2 | exact h2.1
    rw [e]
    refine ⟨?_, fun x hx => hx⟩
    have h3 := valT_le t.recs l
    rcases (by omega : valT t.recs l = 1 ∨ valT t.recs l = -1) with h4 | h4
    · have := (val_one h).1 h4
      rcases hl with e | e
      · left; rw [← e]; exact this
      · right; rw [← e]; exact this
    · have := (val_neg1 h hr.1).1 h4
      rcases hl with e | e
      · right; rw [← e]; exact this
      · left; rw [e] at this; simpa using this
theorem full_len {t : TS} (h : t.Good) (ha : ∀ k, k < t.ph.length → Has t k) : t.recs.length = t.ph.length := by
  refine Nat.le_antisymm h.len ?_
  have h1 : ((List.range t.ph.length).map fun k : Nat => ((k : Int) + 1)).Nodup := by
    rw [List.nodup_iff_pairwise_ne, List.pairwise_map]
    exact List.nodup_range.imp fun hne e => hne (by omega)
  have h2 := nodup_len (b := t.lits.map fun l => ((l.natAbs : Nat) : Int)) h1 fun x hx => by
    obtain ⟨k, hk, rfl⟩ := List.mem_map.1 hx
    rcases ha k (List.mem_range.1 hk) with e | e
    · exact List.mem_map.2 ⟨_, e, by omega⟩
    · exact List.mem_map.2 ⟨_, e, by omega⟩
  simpa [TS.lits] using h2
theorem full_sat {t : TS} (h : t.Good) (ha : ∀ k, k < t.ph.length → Has t k) {yss : List (List Int)} (hl : ∀ c ∈ yss, ∀ l ∈ c, l ≠ 0 ∧ l.natAbs ≤ t.ph.length) {L : List Int} (hT : Told yss L t.lits true) : formSat t.asg yss = true := by
  unfold formSat
  rw [List.all_eq_true]
  intro c hc
  by_cases hx : ∃ y, y ∈ c ∧ y ∈ t.lits
  · obtain ⟨y, hy, hm⟩ := hx
    unfold clauseSat
    exact List.any_eq_true.2 ⟨y, hy, asg_holds h hm⟩
  · refine absurd ?_ (hT.yes rfl).1
    refine .inr ⟨c, hc, fun y hy => ((hT.yes rfl).2 _).1 ?_⟩
    have hb := hl c hc y hy
    have hn : y ∉ t.lits := fun e => hx ⟨y, hy, e⟩
    rcases ha (y.natAbs - 1) (by omega) with e | e
    · rcases (by omega : y = ((y.natAbs - 1 : Nat) : Int) + 1 ∨ -y = ((y.natAbs - 1 : Nat) : Int) + 1) with q | q
      · rw [← q] at e; exact absurd e hn
      · rw [← q] at e; exact e
    · rcases (by omega : y = -(((y.natAbs - 1 : Nat) : Int) + 1) ∨ -y = -(((y.natAbs - 1 : Nat) : Int) + 1)) with q | q
      · rw [← q] at e; exact absurd e hn
      · rw [← q] at e; exact e
theorem told_more {cs : List (List Int)} {L r : List Int} (h : Told cs L r true) : ∀ x, x ∈ L → x ∈ r := fun x hx => ((h.yes rfl).2 x).2 (.given hx)
theorem u8_nat13 {u : Int} (h : (Lit.int .u8 u).wf = true) : ∃ v : Nat, u = v ∧ v ≤ 255 := by
  have := bounds_u8 h
  exact ⟨u.toNat, by omega, by omega⟩
theorem bools_of_own {w : World} {base ei n : Nat} {A : Option Addr} {c : Nat} {xs : List Bool} (hn : xs.length = n) (h2 : w.ownsRow base ei 1 (.slice A n c) n (xs.map Value.bool)) : Bools w w.heap.size A xs := by
  subst hn
  refine (cells_of_own h2 (.bool false)).congr fun i hi => ?_
  simp [List.getD]

end Go.Proofs.Ytbejjddkndcldaa
