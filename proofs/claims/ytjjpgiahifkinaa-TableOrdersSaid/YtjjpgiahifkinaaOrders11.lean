/- The statement on places in another order. -/
import Derived.Test.YtjjpgiahifkinaaWhole11
namespace Go.Proofs.Ytjjpgiahifkinaa
open Go.RowKit
set_option linter.unusedVariables false
set_option linter.unusedSimpArgs false

def intV (xs : List Int) : List Value := xs.map (Value.int .i64)
theorem intV_length (xs : List Int) : (intV xs).length = xs.length := by simp [intV]
theorem intV_snoc (xs : List Int) (x : Int) : intV xs ++ [.int .i64 x] = intV (xs ++ [x]) := by simp [intV]
theorem ints_own11 {w : World} {base n c : Nat} {A : Option Addr} {xs : List Int} (h : w.ownsRow base 3 1 (.slice A n c) n (intV xs)) (hn : xs.length = n) : Ints w w.heap.size A xs := by
  have := cells_of_own h undef
  subst hn
  refine this.congr fun j hj => ?_
  simp [intV, List.getD, hj]
theorem take_snoc {xs : List Int} {k : Nat} (h : k < xs.length) : xs.take k ++ [xs.getD k 0] = xs.take (k + 1) := by
  rw [List.take_succ_eq_append_getElem h]
  simp [List.getD, h]
theorem rev_getD {xs : List Int} {k : Nat} (h : k < xs.length) : xs.reverse.getD k 0 = xs.getD (xs.length - 1 - k) 0 := by
  simp [List.getD, List.getElem?_reverse h]

theorem intV_range {xs : List Int} {k : Nat} (h : xs.length = k) : (List.range k).map (fun j => (intV xs)[j]?.getD undef) = intV xs := by
  subst h
  apply List.ext_getElem
  · simp [intV]
  · intro j h1 h2
    simp [intV] at h1 h2 ⊢
    simp [h1]
theorem two_step {w w' : World} {B : Nat} {u v v' : Value} {k m : Nat} {xs ys xs' : List Value} {e : Bool} {b : Nat} {g p : Nat} {cs : Array Value} (hu : w.ownsRow B 3 1 v k xs) (hm : w.ownsRow B 3 1 u m ys) (hne : ∀ g, v.ownBlock = some g → u.ownBlock = some g → False)
    (ht : Tab w g e b) (hp : Blk w p 33 cs) {w0 : World} (hb : Below B w0 w) (hB : B ≤ w.heap.size) {k' : Nat} (hown : w'.ownsRow B 3 1 v' k' xs') (hg : w.grownBy w' v.ownBlock) (hob : v'.ownBlock = v.ownBlock ∨ v'.ownBlock = some w.heap.size) :
    w'.ownsRow B 3 1 v' k' xs' ∧ w'.ownsRow B 3 1 u m ys ∧ (∀ g, v'.ownBlock = some g → u.ownBlock = some g → False) ∧ Tab w' g e b ∧ Blk w' p 33 cs ∧ Below B w0 w' := by
  refine ⟨hown, hm.kept hg ?_, fun g h1 h2 => ?_, Blk.grown ht hg (own_blk_ne hu ht (by decide)), Blk.grown hp hg (own_blk_ne hu hp (by decide)), hb.grown hg hB (fun k hk => (hu.lt k hk).1)⟩
  · rcases h : u.ownBlock with _ | g
    · exact .inl rfl
    · right
      intro he
      exact hne g he.symm h
  · rcases hob with h | h
    · exact hne g (h ▸ h1) h2
    · have := (hm.lt g h2).2
      rw [h] at h1
      injection h1 with h1
      omega
theorem orders_none (e : Bool) (a : Option Addr) (cap : Nat) (x0 x1 : Int) (w : World) :
    Calls Try.prog 7 #[.bool e, .slice a 0 cap, .agg #[.int .u64 x0, .int .u64 x1]] w fun v w' => v = .returned (.bool true) ∧ Below w.heap.size w w' := by
  go_enter Try.func7, Try.ntmps7
  go_wp2_with fail
  refine (fit_any _).mono ?_
  rintro v w1 ⟨rfl, hb⟩
  go_wp2
  go_ret
  exact ⟨rfl, ((Below.refl _ _).alloc (Nat.le_refl _) _).trans (hb.mono (by simp))⟩
theorem orders_out (e : Bool) (a : Option Addr) (len cap : Nat) (x0 x1 : Int) (w : World) (h : 60 < len) :
    Calls Try.prog 7 #[.bool e, .slice a len cap, .agg #[.int .u64 x0, .int .u64 x1]] w fun v w' => v = .returned (.bool true) ∧ Below w.heap.size w w' := by
  have hd : ((len : Int) == 0) = false := by simp; omega
  go_enter Try.func7, Try.ntmps7
  go_wp2_with fail
  refine (fit_any _).mono ?_
  rintro v w1 ⟨rfl, hb⟩
  go_wp2
  go_ret
  exact ⟨rfl, ((Below.refl _ _).alloc (Nat.le_refl _) _).trans (hb.mono (by simp))⟩

set_option maxHeartbeats 4000000 in
theorem orders_in (e : Bool) {A : Option Addr} (n c : Nat) {xs : List Int} (x0 x1 : Nat) (h0 : x0 < 2 ^ 64) (w : World) (hn : xs.length = n) (hl : n ≤ 60) (hn0 : 0 < n) (hx : KInts .u8 w w.heap.size A xs) (hw : ∀ y ∈ xs, 0 ≤ y ∧ y ≤ 255) :
    Calls Try.prog 7 #[.bool e, .slice A n c, .agg #[.int .u64 x0, .int .u64 x1]] w fun v w' => v = .returned (.bool true) ∧ Below w.heap.size w w' := by
  obtain ⟨i0, hi, hz0, hz1, hz2⟩ : ∃ i, Try.prog.info? 3 = some i ∧ i.zero = some (.int .i64 0) ∧ i.size = 1 ∧ i.bytes = 8 := by
    have h := infoI10
    rcases hi : Try.prog.info? 3 with _ | i
    · rw [hi] at h; simp at h
    · rw [hi] at h; simp at h; exact ⟨i, rfl, h.1, h.2.1, h.2.2⟩
  have HO := Lib.hid (baseN_ok e (x1 % 256))
  have HM := Lib.hid (fun w => made_mod e x1 w)
  obtain ⟨b, hb⟩ : ∃ b, baseN e (x1 % 256) = b := ⟨_, rfl⟩
  rw [hb] at HO HM
  clear hb
  have HNEW := Lib.hid (fun w => new_any HO.out w)
  obtain ⟨ab, off, rfl, hab, hcc0⟩ := hx (by omega)
  have HX := Lib.hid (fun (w' : World) (hb : Below w.heap.size w w') (j : Nat) (hj : j < n) => (show w'.cell? ⟨ab, off + j, none⟩ = some (.int .u8 (xs.getD j 0)) from (hb.cell (p := ⟨ab, off + j, none⟩) hab).trans (hcc0 j (by omega))))
  clear hcc0
  have HN := Lib.hid hn
  have HWI := Lib.hid (fun (j : Nat) (hj : j < n) => hw (xs.getD j 0) (by simp [List.getD, hn, hj]))
  obtain ⟨kd, hkd⟩ : ∃ kd, kindI e = kd := ⟨_, rfl⟩
  rw [hkd] at HM HNEW
  have hd0 : ((n : Int) == 0) = false := by simp; omega
  clear hkd hx hn hw
  go_enter Try.func7, Try.ntmps7
  go_wp2_with fail
  refine (fit_any _).mono ?_
  rintro v w1 ⟨rfl, hb⟩
  have HB := Lib.hid (((Below.refl w.heap.size w).alloc (Nat.le_refl _) _).trans (hb.mono (by simp)))
  have HP := Lib.hid (Blk.below (Blk.new w 33 #[.int .u64 x0, .int .u64 x1]) hb (by simp))
  have hsz := hb.size
  simp at hsz
  clear hb
  have c1 := HP.out.c1
  go_wp2_with fail
  with_reducible refine (HM.out _).mono ?_
  rintro v w2 ⟨rfl, rfl⟩
  go_wp2_with fail
  with_reducible refine (HNEW.out _).mono ?_
  rintro v w2 ⟨g, rfl, hg, ht, hb⟩
  have HT := Lib.hid ht
  have HB2 := Lib.hid (HB.out.trans (hb.mono HB.out.size))
  have HP2 := Lib.hid (HP.out.below hb (by omega))
  clear c1 ht hb hg HB
  go_wp2
  go_loopg [10, 11, 37] (n + 1) (fun G l m i wr => ∃ k : Nat, k ≤ n ∧ G = n + 1 - k ∧ i = .int .i64 (k : Int) ∧ Hid (wr.ownsRow w.heap.size 3 1 l k (intV (xs.take k))) ∧ Hid (wr.ownsRow w.heap.size 3 1 m k (intV (xs.reverse.take k))) ∧ Hid (∀ g, l.ownBlock = some g → m.ownBlock = some g → False) ∧
    Hid (Tab wr g e b) ∧ Hid (Blk wr w.heap.size 33 #[.int .u64 x0, .int .u64 x1]) ∧ Hid (Below w.heap.size w wr))
  case atStart => exact ⟨0, by omega, rfl, rfl, Lib.hid (World.ownsRow_nil _ _ _ _), Lib.hid (World.ownsRow_nil _ _ _ _), Lib.hid (fun g h => by simp [Value.ownBlock] at h), HT, HP2, HB2⟩
  case round =>
    clear HT HP2 HB2
    obtain ⟨k, hk, rfl, rfl, HOL, HOM, HNE, HT, HP2, HB2⟩ := hrel
    obtain ⟨Al, cl, rfl, hcl, hAl⟩ := own_slice HOL.out
    obtain ⟨Am, cm, rfl, hcm, hAm⟩ := own_slice HOM.out
    clear hAl hAm
    have HSZ := Lib.hid HB2.out.size
    by_cases hlt : k < n
    · have hcell := HX.out _ HB2.out k hlt
      have hy1 := HWI.out k hlt
      have hy2 := HWI.out (n - 1 - k) (by omega)
      have hsn1 := take_snoc (xs := xs) (k := k) (by have := HN.out; omega)
      have hsn2 := take_snoc (xs := xs.reverse) (k := k) (by have := HN.out; simp; omega)
      rw [rev_getD (by have := HN.out; omega), HN.out] at hsn2
      obtain ⟨y, hy⟩ : ∃ y, xs.getD k 0 = y := ⟨_, rfl⟩
      obtain ⟨z, hz⟩ : ∃ z, xs.getD (n - 1 - k) 0 = z := ⟨_, rfl⟩
      rw [hy] at hcell hy1 hsn1
      rw [hz] at hy2 hsn2
      have HS1 := Lib.hid hsn1
      have HS2 := Lib.hid hsn2
      have ei : (n : Int) - 1 - (k : Int) = ((n - 1 - k : Nat) : Int) := by omega
      have ew1 : IntKind.i64.wrap y = y := by simp [IntKind.wrap, IntKind.signed, IntKind.bits]; omega
      have ew2 : IntKind.i64.wrap z = z := by simp [IntKind.wrap, IntKind.signed, IntKind.bits]; omega
      obtain ⟨q, hq⟩ : ∃ q, n - 1 - k = q := ⟨_, rfl⟩
      rw [hq] at hz ei
      have hqn : q < n := by omega
      have HZ := Lib.hid hz
      clear hy hz hsn1 hsn2 hq
      go_wp2_with (at_builtin; refine wpList_append1 _ rfl _ _ 31 rfl w.heap.size 3 i0 (.int .i64 0) 8 Try.underlying31 hi hz0 hz1 hz2 rfl _ _ _ rfl (HOL.out.alloc _) (.int .i64 y) wr.heap.size rfl (by go_cell) rfl (by unfold maxLen; omega) (by omega) (by have := HSZ.out; simp; omega) ?_)
      intro v' w3 hown hg hob
      obtain ⟨hOL3, hOM3, hNE3, hT3, hP3, hB3⟩ := two_step (HOL.out.alloc _) (HOM.out.alloc _) HNE.out (HT.out.alloc _) (HP2.out.alloc _) (HB2.out.alloc HSZ.out _) (by rw [World.size_alloc]; have := HSZ.out; omega) hown hg (by rw [World.size_alloc]; exact hob)
      rw [intV_snoc, HS1.out] at hOL3
      have HOL3 := Lib.hid hOL3
      have HOM3 := Lib.hid hOM3
      have HNE3 := Lib.hid hNE3
      have HT3 := Lib.hid hT3
      have HP3 := Lib.hid hP3
      have HB3 := Lib.hid hB3
      have HSZ3 := Lib.hid hB3.size
      clear hown hg hob hOL3 hOM3 hNE3 hT3 hP3 hB3 hcell
      have hcell := HX.out _ HB3.out q hqn
      rw [HZ.out] at hcell
      go_wp2_with (at_builtin; refine wpList_append1 _ rfl _ _ 31 rfl w.heap.size 3 i0 (.int .i64 0) 8 Try.underlying31 hi hz0 hz1 hz2 rfl _ _ _ rfl (HOM3.out.alloc _) (.int .i64 z) w3.heap.size rfl (by go_cell) rfl (by unfold maxLen; omega) (by omega) (by have := HSZ3.out; simp; omega) ?_)
      intro v2 w4 hown hg hob
      obtain ⟨hOM4, hOL4, hNE4, hT4, hP4, hB4⟩ := two_step (HOM3.out.alloc _) (HOL3.out.alloc _) (fun g h1 h2 => HNE3.out g h2 h1) (HT3.out.alloc _) (HP3.out.alloc _) (HB3.out.alloc HSZ3.out _) (by rw [World.size_alloc]; have := HSZ3.out; omega) hown hg (by rw [World.size_alloc]; exact hob)
      rw [intV_snoc, HS2.out] at hOM4
      have HOL4 := Lib.hid hOL4
      have HOM4 := Lib.hid hOM4
      have HNE4 := Lib.hid (show ∀ g, v'.ownBlock = some g → v2.ownBlock = some g → False from fun g h1 h2 => hNE4 g h2 h1)
      have HT4 := Lib.hid hT4
      have HP4 := Lib.hid hP4
      have HB4 := Lib.hid hB4
      clear hown hg hob hOL4 hOM4 hNE4 hT4 hP4 hB4 hcell
      go_wp2
      go_roundg (n - k)
      case measure => omega
      case rel => exact ⟨k + 1, by omega, by omega, by go_num, HOL4, HOM4, HNE4, HT4, HP4, HB4⟩
    · obtain rfl : k = n := by omega
      have hfl : xs.take k = xs := List.take_of_length_le (by have := HN.out; omega)
      have hfm : xs.reverse.take k = xs.reverse := List.take_of_length_le (by have := HN.out; simp; omega)
      have hL := HOL.out
      have hM := HOM.out
      rw [hfl] at hL
      rw [hfm] at hM
      have HOL2 := Lib.hid hL
      have HOM2 := Lib.hid hM
      have hil := ints_own11 hL HN.out
      have him := ints_own11 hM (by simp; exact HN.out)
      have hs2 : sumW e b xs ≤ 4503599627370496 := by have := clip_sum HO.out (xs := xs) (by have := HN.out; omega) xs.length; rwa [List.take_of_length_le (Nat.le_refl _)] at this
      have hs1 := HN.out ▸ len_le_sumW e b xs
      have hrl : xs.reverse.length = k := by simp; exact HN.out
      have HTL := Lib.hid (fun q => HN.out ▸ total_any (w := wr.drewN q) (Blk.drewN HT.out q) HO.out (c := cl) (Cells.drewN hil q) (by have := HN.out; omega))
      have HTM := Lib.hid (fun q => hrl ▸ sumW_reverse e b xs ▸ total_any (w := wr.drewN q) (Blk.drewN HT.out q) HO.out (c := cm) (xs := xs.reverse) (Cells.drewN him q) (by have := HN.out; simp; omega))
      have HPL := Lib.hid (fun (q x : Nat) (hx : x < 2 ^ 64) (j : Nat) (hj : Falls e b xs (x % sumW e b xs) j) => HN.out ▸ pick_any (w := wr.drewN q) (Blk.drewN HT.out q) HO.out (c := cl) (Cells.drewN hil q) (by have := HN.out; omega) (by have := HN.out; omega) x hx hj)
      have HPM := Lib.hid (fun (q x : Nat) (hx : x < 2 ^ 64) (j : Nat) (hj : Falls e b xs.reverse (x % sumW e b xs) j) => hrl ▸ pick_any (w := wr.drewN q) (Blk.drewN HT.out q) HO.out (c := cm) (xs := xs.reverse) (Cells.drewN him q) (by rw [hrl]; omega) (by rw [hrl]; omega) x hx (by rw [sumW_reverse]; exact hj))
      obtain ⟨T, hT⟩ : ∃ T, sumW e b xs = T := ⟨_, rfl⟩
      have HTT := Lib.hid hT
      rw [hT] at HTL HTM hs2 hs1 HPL HPM
      obtain ⟨r, hr⟩ : ∃ r, x0 % T = r := ⟨_, rfl⟩
      have hrT : r < T := by rw [← hr]; exact Nat.mod_lt _ (by omega)
      obtain ⟨j, hj⟩ := Falls.any (e := e) (b := b) (xs := xs) (r := r) (by rw [HTT.out]; exact hrT)
      have hjn : j < k := by have := hj.1; have := HN.out; omega
      have HJ := Lib.hid hj
      have ec : IntKind.u64.wrap (T : Int) = (T : Int) := by simp [IntKind.wrap, IntKind.signed, IntKind.bits]; omega
      have er : Int.tmod (x0 : Int) (T : Int) = (r : Int) := by rw [← hr]; rfl
      have er2 : (x0 : Int) % (T : Int) = (r : Int) := by rw [← hr]; simp
      have hT0 : ((T : Int) == 0) = false := by simp; omega
      have c0 := HP2.out.c0
      clear hr hj hT hL hM hil him hrl hfl hfm
      go_wp2_with fail
      refine (HTL.out 0).mono ?_
      rintro x w3 ⟨rfl, rfl⟩
      go_wp2_with fail
      refine (HTM.out 0).mono ?_
      rintro x w3 ⟨rfl, rfl⟩
      go_wp2_with fail
      refine (HTL.out 0).mono ?_
      rintro x w3 ⟨rfl, rfl⟩
      go_wp2
      go_quiet ((go_at_call 14; exact quiet_left (HTL.out _)))
      go_wp2_with fail
      refine (HPL.out _ r (by omega) j (by rw [Nat.mod_eq_of_lt hrT]; exact HJ.out)).mono ?_
      rintro x w3 ⟨rfl, rfl⟩
      have hTq : Tab (wr.drewN nq) g e b := Blk.drewN HT.out nq
      have hLq : (wr.drewN nq).ownsRow w.heap.size 3 1 (.slice Al k cl) k (intV xs) := HOL2.out
      have hMq : (wr.drewN nq).ownsRow w.heap.size 3 1 (.slice Am k cm) k (intV xs.reverse) := HOM2.out
      have hBq : Below w.heap.size w (wr.drewN nq) := below_drewN HB2.out nq
      obtain ⟨wq, hwq⟩ : ∃ wq, wr.drewN nq = wq := ⟨_, rfl⟩
      rw [hwq] at hTq hLq hMq hBq ⊢
      have HTq := Lib.hid hTq
      have HLq := Lib.hid hLq
      have HMq := Lib.hid hMq
      have HBq := Lib.hid hBq
      have HCq := Lib.hid (cells_of_own hLq undef)
      clear hTq hLq hMq hBq hwq HTL HTM HPL HPM c0 HP2 HOL HOM HOL2 HOM2 HT
      go_wp2_with (at_builtin; refine wpList_append_cells _ rfl _ _ 31 rfl wq.heap.size 3 i0 (.int .i64 0) 8 Try.underlying31 hi hz0 hz1 hz2 rfl _ _ _ rfl (World.ownsRow_nil _ _ _ _) _ _ _ _ _ rfl HCq.out (fun j hj => by rw [show (intV xs).getD j undef = .int .i64 (xs.getD j 0) by (have := HN.out; simp [intV, List.getD, show j < xs.length by omega])]; rfl) (by unfold maxLen; omega) (by omega) (Nat.le_refl _) ?_)
      intro v4 w4 hown hg hob
      rw [intV_range HN.out] at hown
      have hL4 := HLq.out.kept hg (by rcases h : (Value.slice Al k cl).ownBlock with _ | z <;> simp [Value.ownBlock])
      have hM4 := HMq.out.kept hg (by rcases h : (Value.slice Am k cm).ownBlock with _ | z <;> simp [Value.ownBlock])
      have hT4 : Tab w4 g e b := Blk.grown HTq.out hg (by simp [Value.ownBlock])
      have hB4 := HBq.out.grown hg HBq.out.size (fun z hz => by simp [Value.ownBlock] at hz)
      have hs4 := hg.size
      have HN4 := Lib.hid hown
      have HL4 := Lib.hid hL4
      have HM4 := Lib.hid hM4
      have HT4 := Lib.hid hT4
      have HB4 := Lib.hid hB4
      have HS4 := Lib.hid hs4
      have HSq := Lib.hid HBq.out.size
      clear hown hg hob hL4 hM4 hT4 hB4 hs4 HCq
      go_wp2_with (at_builtin; refine wpList_append1 _ rfl _ _ 31 rfl wq.heap.size 3 i0 (.int .i64 0) 8 Try.underlying31 hi hz0 hz1 hz2 rfl _ _ _ rfl (HN4.out.alloc _) (.int .i64 3) w4.heap.size rfl (by go_cell) rfl (by unfold maxLen; omega) (by omega) (by have := HS4.out; simp; omega) ?_)
      intro v5 w5 hown hg hob
      rw [intV_snoc] at hown
      have hne : ∀ z, z < wq.heap.size → v4.ownBlock ≠ some z := fun z hz he => by
        have := (HN4.out.lt z he).1
        omega
      have hL5 := (HL4.out.alloc (.cells #[.int .i64 3] 3)).kept hg (by
        rcases h : (Value.slice Al k cl).ownBlock with _ | z
        · exact .inl rfl
        · exact .inr (fun he => hne z (HLq.out.lt z h).2 he.symm))
      have hM5 := (HM4.out.alloc (.cells #[.int .i64 3] 3)).kept hg (by
        rcases h : (Value.slice Am k cm).ownBlock with _ | z
        · exact .inl rfl
        · exact .inr (fun he => hne z (HMq.out.lt z h).2 he.symm))
      have hT5 : Tab w5 g e b := Blk.grown (HT4.out.alloc (.cells #[.int .i64 3] 3)) hg (fun he => hne g (Blk.lt HTq.out) he.symm)
      have hs5 : wq.heap.size ≤ w5.heap.size := by
        have h1 := hg.size
        rw [World.size_alloc] at h1
        have := HS4.out
        omega
      have hB5 : Below w.heap.size w w5 := (HB4.out.alloc (by have := HS4.out; have := HSq.out; omega) (.cells #[.int .i64 3] 3)).grown hg (by rw [World.size_alloc]; have := HS4.out; have := HSq.out; omega) (fun z hz => by have := (HN4.out.lt z hz).1; have := HSq.out; omega)
      obtain ⟨A5, c5, rfl, hc5, _⟩ := own_slice hown
      have hlen5 : (xs ++ [3]).length = k + 1 := by simp; exact HN.out
      have hrl : xs.reverse.length = k := by simp; exact HN.out
      have hi5 := ints_own11 hown hlen5
      have hiL := ints_own11 hL5 HN.out
      have hiM := ints_own11 hM5 hrl
      have HPN := Lib.hid (hlen5 ▸ pick_any hT5 HO.out (c := c5) hi5 (by rw [hlen5]; omega) (by rw [hlen5]; omega) r (by omega) (Falls.snoc (by
        rw [Nat.mod_eq_of_lt (by rw [sumW_append]; have := HTT.out; omega)]; exact HJ.out) 3))
      have HPL := Lib.hid (HN.out ▸ pick_any hT5 HO.out (c := cl) hiL (by have := HN.out; omega) (by have := HN.out; omega) r (by omega) (j := j) (by rw [HTT.out, Nat.mod_eq_of_lt hrT]; exact HJ.out))
      have HTL := Lib.hid (HTT.out ▸ HN.out ▸ total_any hT5 HO.out (c := cl) hiL (by have := HN.out; omega))
      have hback := HJ.out.back
      rw [HTT.out, HN.out] at hback
      have HPM := Lib.hid (hrl ▸ pick_any hT5 HO.out (c := cm) hiM (by rw [hrl]; omega) (by rw [hrl]; omega) (T - 1 - r) (by omega) (j := k - 1 - j) (by rw [sumW_reverse, HTT.out, Nat.mod_eq_of_lt (by omega)]; exact hback))
      have HB5 := Lib.hid hB5
      have em : IntKind.u64.wrap ((T : Int) - 1) = ((T - 1 : Nat) : Int) := by simp [IntKind.wrap, IntKind.signed, IntKind.bits]; omega
      have em2 : IntKind.u64.wrap (((T - 1 : Nat) : Int) - (r : Int)) = ((T - 1 - r : Nat) : Int) := by simp [IntKind.wrap, IntKind.signed, IntKind.bits]; omega
      clear hown hg hob hne hL5 hM5 hT5 hs5 hB5 hc5 hlen5 hrl hi5 hiL hiM hback
      have ej : (k : Int) - 1 - ((k - 1 - j : Nat) : Int) = (j : Int) := by omega
      go_wp2_with fail
      with_reducible refine HPN.out.mono ?_
      rintro x w3 ⟨rfl, rfl⟩
      go_wp2_with fail
      with_reducible refine HPL.out.mono ?_
      rintro x w3 ⟨rfl, rfl⟩
      go_wp2_with fail
      with_reducible refine HTL.out.mono ?_
      rintro x w3 ⟨rfl, rfl⟩
      go_wp2_with fail
      with_reducible refine HPM.out.mono ?_
      rintro x w3 ⟨rfl, rfl⟩
      go_wp2
      go_ret
      exact ⟨by simp, HB5.out⟩

theorem orders_any (e : Bool) (a : Option Addr) (len cap : Nat) (z : Nat → Int) (x0 x1 : Int) (w : World) (h : IsInts .u8 w a len cap z) (h0 : (Lit.int .u64 x0).wf = true) (h1 : (Lit.int .u64 x1).wf = true) :
    Calls Try.prog 7 #[.bool e, .slice a len cap, .agg #[.int .u64 x0, .int .u64 x1]] w fun v w' => v = .returned (.bool true) ∧ Below w.heap.size w w' := by
  rcases Nat.lt_or_ge 60 len with hl | hl
  · exact orders_out e a len cap x0 x1 w hl
  · rcases Nat.eq_zero_or_pos len with rfl | h0'
    · exact orders_none e a cap x0 x1 w
    · obtain ⟨xs, hn, hc, hx, hw⟩ := list_of h
      obtain ⟨n0, rfl, h0''⟩ := u64_of h0
      obtain ⟨n1, rfl, h1'⟩ := u64_of h1
      refine orders_in e len cap n0 n1 h0'' w hn hl h0' hx fun y hy => ?_
      have := hw y hy
      simp [Lit.wf, IntKind.min, IntKind.max, IntKind.signed, IntKind.bits] at this
      omega
end Go.Proofs.Ytjjpgiahifkinaa
