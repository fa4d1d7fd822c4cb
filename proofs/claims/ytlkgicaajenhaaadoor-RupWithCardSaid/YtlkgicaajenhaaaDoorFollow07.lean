/- Follow: what follows from literals, and the store at rest again. -/
import Derived.Test.YtlkgicaajenhaaaDoorForeign07
import Derived.Test.YtlkgicaajenhaaaDoorNorm
import Derived.Test.YtlkgicaajenhaaaDoorCnf3
namespace Go.Proofs.YtlkgicaajenhaaaDoor
open Go.RowKit
set_option linter.unusedVariables false
set_option linter.unusedSimpArgs false

theorem nodup_same7 {xs : List Int} (h : xs.Nodup) : ∀ {zs : List Int}, (∀ y, y ∈ zs ↔ y ∈ xs) → zs.length = xs.length → zs.Nodup := fun {zs} hm hl => by
  rw [List.nodup_iff_pairwise_ne, List.pairwise_iff_getElem]
  intro i j hi hj hij e
  have h1 := nodup_len (a := xs) (b := zs.eraseIdx j) h fun x hx => by
    obtain ⟨k, hk, rfl⟩ := List.mem_iff_getElem.1 ((hm x).2 hx)
    rw [List.mem_eraseIdx_iff_getElem]
    by_cases hkj : k = j
    · subst hkj; exact ⟨i, hi, by omega, e⟩
    · exact ⟨k, hk, hkj, rfl⟩
  rw [List.length_eraseIdx] at h1
  rw [if_pos hj] at h1
  omega

theorem rising_of7 {V : Nat} {zs : List Int} (h : zs.Pairwise fun x y => litIndex x ≤ litIndex y) (hn : zs.Nodup) (hl : ∀ x, x ∈ zs → Lt7 V x) : Rising zs := by
  unfold Rising
  rw [List.nodup_iff_pairwise_ne, List.pairwise_iff_getElem] at hn
  rw [List.pairwise_iff_getElem] at h ⊢
  intro i j hi hj hij
  have h1 := h i j hi hj hij
  have h2 := hn i j hi hj hij
  obtain ⟨a1, a2, a3⟩ := hl _ (List.getElem_mem hi)
  obtain ⟨b1, b2, b3⟩ := hl _ (List.getElem_mem hj)
  unfold litIndex at h1 ⊢
  split at h1 <;> split at h1 <;> rename_i c1 c2 <;> simp only [c1, c2, if_true, if_false] <;> omega

/-- the clauses by their numbers, in normal form, by their keys -/
structure Shelf7 (X : SX) : Prop where
  shnd : (X.pss.getD (2 * X.V + 1) []).Nodup
  all : X.pss.getD (2 * X.V) [] = X.ps
  nums : X.ps.Pairwise fun p q => (X.C p).num < (X.C q).num
  numlt : ∀ p, p ∈ X.ps → (X.C p).num < X.added
  ng : X.ng + X.live.length = X.ps.length
  norm : ∀ p, p ∈ X.ps → Rising (X.C p).lits
  keys : ∀ i k, X.ks[i]? = some k → (X.pss.getD (2 * X.V + 2 + i) []).drop (X.ko i) = X.live.filter (fun p => decide (keyOf (X.C p).lits = k)) ∧ X.ko i ≤ (X.pss.getD (2 * X.V + 2 + i) []).length
  keyed : ∀ p, p ∈ X.live → keyOf (X.C p).lits ∈ X.ks
  klen : ∀ i, i < X.ks.length → (X.pss.getD (2 * X.V + 2 + i) []).length ≤ X.tk
/-- a store between calls -/
structure Rest7 (W : World) (base : Nat) (X : SX) (fo : List Bool) : Prop where
  sto : Sto W base X fo
  wf : Wfs X
  fw : Fw X fo
  fd : X.fd = []
  short : Short X
  shelf : Shelf7 X
theorem Rest7.shn {W : World} {base : Nat} {X : SX} {fo : List Bool} (h : Rest7 W base X fo) : (X.pss.getD (2 * X.V + 1) []).length ≤ 1000000000 := Nat.le_trans (nodup_len7 h.shelf.shnd fun p hp => (h.short.1 p hp).1) h.wf.plen
theorem Rest7.below {W W' : World} {base : Nat} {X : SX} {fo : List Bool} (h : Rest7 W base X fo) (hb : Below W.heap.size W W') : Rest7 W' base X fo := ⟨h.sto.below hb, h.wf, h.fw, h.fd, h.short, h.shelf⟩
theorem Shelf7.same {X X' : SX} (h : Shelf7 X) (hs : Same7 X X') : Shelf7 X' := by
  have hlive := hs.live
  obtain ⟨m1, m2, m3, m4⟩ := hs.more
  have hi := fun j hj => (hs.high j hj).2
  refine ⟨?_, ?_, ?_, fun p hp => ?_, ?_, fun p hp => ?_, fun i k hk => ?_, fun p hp => ?_, fun i hik => ?_⟩
  · rw [hs.V, hi _ (by omega)]; exact h.shnd
  · rw [hs.V, hi _ (by omega), hs.ps]; exact h.all
  · rw [hs.ps]; exact h.nums.imp fun hlt => by rw [(hs.gn _).2, (hs.gn _).2]; exact hlt
  · rw [hs.ps] at hp; rw [(hs.gn p).2, m1]; exact h.numlt p hp
  · rw [m2, hlive, hs.ps]; exact h.ng
  · rw [hs.ps] at hp; rw [hs.lits]; exact h.norm p hp
  · rw [hs.ks] at hk
    rw [hs.V, hi _ (by omega), m3, hlive]
    obtain ⟨h1, h2⟩ := h.keys i k hk
    exact ⟨h1.trans (List.filter_congr fun p _ => by rw [hs.lits]), h2⟩
  · rw [hlive] at hp; rw [hs.lits, hs.ks]; exact h.keyed p hp
  · rw [hs.ks] at hik; rw [hs.V, hi _ (by omega), m4]; exact h.klen i hik
theorem Shelf7.clean {X : SX} (h : Shelf7 X) : Shelf7 X.clean := ⟨h.shnd, h.all, h.nums, h.numlt, h.ng, h.norm, h.keys, h.keyed, h.klen⟩
theorem Rest7.again {W W' : World} {base : Nat} {X X' : SX} {fo fo' : List Bool} (h : Rest7 W base X fo) (hs : Same7 X X') (hw : Wfs X') (hS : Sto W' base X'.clean fo') (hf : Fw X'.clean fo') : Rest7 W' base X'.clean fo' := by
  have hh := (hs.high (2 * X.V + 1) (by omega)).2
  refine ⟨hS, ⟨hw.cl, hw.plen, hw.pile⟩, hf, rfl, ⟨fun p => ?_, fun p => ?_⟩, (h.shelf.same hs).clean⟩
  · show p ∈ X'.pss.getD (2 * X'.V + 1) [] → p ∈ X'.ps ∧ (X'.C p).lits.length < 2
    rw [hs.V, hh, hs.ps, hs.lits]; exact h.short.1 p
  · show p ∈ X'.ps → (X'.C p).gone = false → (X'.C p).lits.length < 2 → p ∈ X'.pss.getD (2 * X'.V + 1) []
    rw [hs.V, hh, hs.ps, hs.lits, (hs.gn p).1]; exact h.short.2 p
/-- what no call but those that add turns -/
structure SameR (X X' : SX) : Prop where
  s : X'.s = X.s
  m : X'.m = X.m
  fb : X'.fb = X.fb
  V : X'.V = X.V
  ps : X'.ps = X.ps
  ks : X'.ks = X.ks
  lits : ∀ p, (X'.C p).lits = (X.C p).lits
  cs : X'.cs = X.cs
  gn : ∀ p, (X'.C p).gone = (X.C p).gone ∧ (X'.C p).num = (X.C p).num
  more : X'.added = X.added ∧ X'.ng = X.ng ∧ X'.ko = X.ko ∧ X'.tk = X.tk
theorem SameR.refl (X : SX) : SameR X X := ⟨rfl, rfl, rfl, rfl, rfl, rfl, fun _ => rfl, rfl, fun _ => ⟨rfl, rfl⟩, rfl, rfl, rfl, rfl⟩
theorem Same7.rest {X X' : SX} (h : Same7 X X') : SameR X X'.clean := ⟨h.s, h.m, h.fb, h.V, h.ps, h.ks, h.lits, h.cs, h.gn, h.more⟩
/-- Follow's answer -/
def FollowP (base : Nat) (X : SX) (L : List Int) (W : World) (e : Ending) (W' : World) : Prop :=
  ∃ (X' : SX) (fo' : List Bool) (ok : Bool) (r : List Int) (A : Option Addr) (c : Nat), e = .returned (.tuple #[.slice A r.length c, .bool ok]) ∧ Rest7 W' base X' fo' ∧ Tn base X W W' ∧ Later7 W X X' ∧ SameR X X' ∧ r.length ≤ 1000000000 ∧
    Apart W' X' W.heap.size A c r ∧ (foreign7 X.V L = true → ok = false ∧ r = []) ∧ (foreign7 X.V L = false → Told X.cs L r ok ∧ Rising r ∧ ∀ x, x ∈ r → Lt7 X.V x)
theorem apart_nil {W : World} {X : SX} {b0 : Nat} : Apart W X b0 none 0 [] := ⟨World.ownsRow_nil _ _ _ _, fun g hg => (by simp [Value.ownBlock] at hg)⟩
theorem Apart.ints {W : World} {X : SX} {b0 c : Nat} {A : Option Addr} {L : List Int} (h : Apart W X b0 A c L) : Ints W W.heap.size A L := by
  intro hn
  obtain ⟨b, off, e, hb, hc⟩ := cells_of_own h.own (.int .i64 0) hn
  refine ⟨b, off, e, hb, fun j hj => ?_⟩
  rw [hc j hj]
  simp [List.getD, hj]
theorem Apart.under {W W' : World} {X : SX} {b0 c : Nat} {A : Option Addr} {L : List Int} (h : Apart W X b0 A c L) (hb : Below W.heap.size W W') : Apart W' X b0 A c L := ⟨own_below h.own hb fun g hg => (h.own.lt g hg).2, h.ne⟩
theorem Later7.from_ {W W' : World} {X X' : SX} (h : Later7 W' X X') (hs : W.heap.size ≤ W'.heap.size) : Later7 W X X' := ⟨h.1, h.2.imp id fun e g hg => Nat.le_trans hs (e g hg)⟩
/-- what was found, in a row of its own, sorted -/
theorem sort_any7 {X : SX} {fo : List Bool} {w4 w5 : World} {A1 : Option Addr} {c1 : Nat} (hf : Fw X fo) (hown : w5.ownsRow w4.heap.size 3 1 (.slice A1 X.fd.length c1) X.fd.length (X.fd.map (Value.int .i64))) (hb : Below w4.heap.size w4 w5) (hv : X.V ≤ 100000) :
    Calls Tryd.prog 33 #[.slice A1 X.fd.length c1, .func (.func 34) #[] #[]] w5 fun e w6 => e = .returned (.tuple #[]) ∧
      ∃ zs : List Int, (∀ y, y ∈ zs ↔ y ∈ X.fd) ∧ zs.length = X.fd.length ∧ (zs.Pairwise fun x y => litIndex x ≤ litIndex y) ∧ w6.ownsRow w4.heap.size 3 1 (.slice A1 X.fd.length c1) X.fd.length (zs.map (Value.int .i64)) ∧ Below w4.heap.size w4 w6 := by
  have hl := hf.len
  rcases Nat.eq_zero_or_pos X.fd.length with h0 | h0
  · have hnil : X.fd = [] := List.length_eq_zero_iff.1 h0
    rw [hnil] at hown ⊢
    exact (Tryd.slices_SortFunc_none (α := Int) _ _ _ _).mono fun e w6 ⟨h1, h2⟩ => ⟨h1, [], fun _ => Iff.rfl, rfl, List.Pairwise.nil, by rw [h2]; exact hown, by rw [h2]; exact hb⟩
  · obtain ⟨g, rfl, hg1, hg2⟩ := own_addr hown h0
    refine (sort_own_any X.fd (fun x hx => by obtain ⟨a1, a2, a3⟩ := hf.lt x hx; omega) w4.heap.size g c1 w5 (by omega) hown).mono ?_
    rintro e w6 ⟨rfl, zs, hmem, hlen, hs, hown2, hbs⟩
    exact ⟨rfl, zs, hmem, hlen, hs, hown2, hbs _ _ hb hg1 (Nat.le_refl _)⟩
set_option maxRecDepth 100000 in
set_option maxHeartbeats 1000000 in
theorem follow_any7 {W : World} {base b0 c : Nat} {X : SX} {fo : List Bool} {L : List Int} {A : Option Addr} (h : Rest7 W base X fo) (hA : Apart W X b0 A c L) (hx : ∀ x, x ∈ L → -9223372036854775808 ≤ x ∧ x ≤ 9223372036854775807) (hn : L.length ≤ 1000000000) :
    Calls Tryd.prog 15 #[.pointer (some ⟨X.s, 0, none⟩), .slice A L.length c] W (FollowP base X L W) := by
  have hvb := h.sto.vb
  have hB : base ≤ W.heap.size := by have := h.sto.lo.1; have := h.sto.st.lt; omega
  have HF := Lib.hid (foreign_any h.sto L hx hn W.heap.size A c hA.ints (Nat.le_refl _))
  have H := Lib.hid h
  have HA := Lib.hid hA
  cases hfo : foreign7 X.V L with
  | true =>
    rw [hfo] at HF
    clear h hA hx
    go_enter_defers Tryd.func15, Tryd.ntmps15
    go_wp2_with (go_at_call 29; refine HF.out.mono ?_; rintro e3 w3 ⟨rfl, hb3⟩; have HB3 := Lib.hid hb3; clear hb3)
    refine ⟨_, results_tmp2 rfl _ _ _, ?_⟩
    exact ⟨X, fo, false, [], none, 0, rfl, H.out.below HB3.out, Tn.of_below HB3.out hB, Later7.refl _ _, SameR.refl _, by simp, apart_nil, fun _ => ⟨rfl, rfl⟩, fun e => (by cases e.symm.trans hfo)⟩
  | false =>
    rw [hfo] at HF
    have HL := Lib.hid (foreign7_no hvb hfo)
    clear h hA hx
    go_enter_defers Tryd.func15, Tryd.ntmps15
    go_wp2_with (go_at_call 29; refine HF.out.mono ?_; rintro e3 w3 ⟨rfl, hb3⟩; have HB2 := Lib.hid hb3; have HSP := Lib.hid (spread_any (H.out.below hb3).sto H.out.wf H.out.fw H.out.fd H.out.short H.out.shn (HA.out.under hb3) HL.out hn); clear hb3)
    refine HSP.out.mono ?_
    rintro e4 w4 ⟨Y, fy, b, rfl, hS, hT, hLat, hSame, hFw, hWf, hyes, hno⟩
    have HFG := Lib.hid (fun w5 (h5 : Below w4.heap.size w4 w5) => forget_d (u := .returning) (hS.below h5) hFw)
    rw [hSame.s] at HFG
    have HS := Lib.hid hS
    have HT := Lib.hid (show Tn base X W w4 from (Tn.of_below HB2.out hB).trans hT (Later7.refl _ _))
    have HLA := Lib.hid (show Later7 W X Y from hLat.from_ HB2.out.size)
    have HSA := Lib.hid hSame
    have HWF := Lib.hid hWf
    have HFW := Lib.hid hFw
    have HY := Lib.hid hyes
    have HN := Lib.hid hno
    have s8 : w4.cell? ⟨X.s, 8, none⟩ = some (.slice Y.Af Y.fd.length Y.cf) := by rw [← hSame.s]; exact hS.st.cell 8
    have hfl := hFw.len
    have hvb2 := hS.vb
    have hsz : W.heap.size ≤ w4.heap.size := Nat.le_trans HB2.out.size hT.below.size
    clear hS hT hLat hSame hFw hWf hyes hno
    cases b with
    | false =>
      go_wp2
      refine leaves_cons (f := 30) (args := #[.pointer (some ⟨X.s, 0, none⟩)]) (by simp) (by simp [go_sem]) ?_
      refine (HFG.out w4 (Below.refl _ _)).mono ?_
      rintro e5 u5 w5 ⟨rfl, hfg⟩
      obtain ⟨rfl, fo5, hS5, hF5, hT5, hL5⟩ := hfg
      refine ⟨_, results_tmp2 rfl _ _ _, ?_⟩
      refine ⟨Y.clean, fo5, false, [], none, 0, rfl, H.out.again HSA.out HWF.out hS5 hF5, HT.out.trans hT5 HLA.out, HLA.out.trans hL5 hsz, HSA.out.rest, by simp, apart_nil, fun e => (by cases e.symm.trans hfo), fun _ => ⟨?_, List.Pairwise.nil, fun x hx => (by simp at hx)⟩⟩
      rw [← HSA.out.cs]
      exact told_no (HN.out trivial)
    | true =>
      have hfn : w4.ownsRow base 3 1 (.slice Y.Af Y.fd.length Y.cf) Y.fd.length (Y.fd.map (Value.int .i64)) := HS.out.fnd
      have HCL := Lib.hid (clone_ints_any Y.fd.length (fun j => .int .i64 (Y.fd.getD j 0)) w4.heap.size Y.Af Y.cf w4 (by omega) (fun _ _ => rfl) (fun hn => by
        obtain ⟨b, off, e, hb, hc⟩ := cells_of_own hfn (.int .i64 0) hn
        refine ⟨b, off, e, hb, fun j hj => ?_⟩
        rw [hc j hj]
        simp [List.getD, hj]) (Nat.le_refl _))
      clear hfn
      go_wp2_with (go_at_call 32; refine HCL.out.mono ?_; rintro e5 w5 ⟨A1, c1, rfl, hown, hb⟩; rw [range_map_ints] at hown; have HSO := Lib.hid (sort_any7 HFW.out hown hb hvb2); clear hown hb)
      refine HSO.out.mono ?_
      rintro e6 w6 ⟨rfl, zs, hmem, hlen, hpw, ho6, hb6⟩
      have HEND := Lib.hid (⟨hmem, hlen, hpw, ho6, hb6⟩ : (∀ y, y ∈ zs ↔ y ∈ Y.fd) ∧ zs.length = Y.fd.length ∧ (zs.Pairwise fun x y => litIndex x ≤ litIndex y) ∧ w6.ownsRow w4.heap.size 3 1 (.slice A1 Y.fd.length c1) Y.fd.length (zs.map (Value.int .i64)) ∧ Below w4.heap.size w4 w6)
      clear hmem hlen hpw ho6 hb6
      go_wp2
      refine leaves_cons (f := 30) (args := #[.pointer (some ⟨X.s, 0, none⟩)]) (by simp) (by simp [go_sem]) ?_
      obtain ⟨hmem, hlen, hpw, ho6, hb6⟩ := HEND.out
      refine (HFG.out w6 hb6).mono ?_
      rintro e7 u7 w7 ⟨rfl, hfg⟩
      obtain ⟨rfl, fo7, hS7, hF7, hT7, hL7⟩ := hfg
      refine ⟨_, results_tmp2 rfl _ _ _, ?_⟩
      have hap : Apart w6 Y w4.heap.size A1 c1 zs := ⟨by rw [hlen]; exact ho6, fun g hg e => by
        rw [hlen] at hg
        have h1 := (ho6.lt g hg).1
        have h2 := (HS.out.fnd.lt g e).2
        omega⟩
      have hap7 := hap.turn (HS.out.below hb6) hT7 hL7
      have hlt : ∀ x, x ∈ zs → Lt7 X.V x := fun x hx => by rw [← HSA.out.V]; exact HFW.out.lt x ((hmem x).1 hx)
      have hT6 : Tn base X W w6 := HT.out.trans (Tn.of_below hb6 (by omega)) HLA.out
      refine ⟨Y.clean, fo7, true, zs, A1, c1, by rw [hlen]; rfl, H.out.again HSA.out HWF.out hS7 hF7, hT6.trans hT7 HLA.out, HLA.out.trans hL7 (Nat.le_trans hsz hb6.size), HSA.out.rest, by omega, ⟨own_more hap7.own hsz, hap7.ne⟩, fun e => (by cases e.symm.trans hfo), fun _ => ⟨?_, rising_of7 hpw (nodup_same7 HFW.out.nd hmem hlen) hlt, hlt⟩⟩
      obtain ⟨t1, t2⟩ := (HY.out trivial).yes rfl
      rw [← HSA.out.cs]
      exact ⟨fun _ => ⟨t1, fun x => (hmem x).trans (t2 x)⟩, fun e => (by cases e)⟩
end Go.Proofs.YtlkgicaajenhaaaDoor
