/- The statement on all that is drawn from a stream, walked. -/
import Derived.Test.YtkolhhahnkfnoaaRuns09
namespace Go.Proofs.Ytkolhhahnkfnoaa
open Go.RowKit
set_option linter.unusedVariables false
set_option linter.unusedSimpArgs false

/-- the stream and the law's own stream, side by side, after k numbers -/
structure Both (H : Nat) (A : Option Addr) (c : Nat) (ws : List Nat) (B b bw bx bk : Nat) (k : Nat) (wr : World) : Prop where
  ex : ∃ x : Nat, Strm wr B b (ws.drop k) x k ∧ Blk wr bx 23 #[.int .u64 x] ∧ Blk wr bk 3 #[.int .i64 k]
  box : Blk wr bw 22 #[.slice A ws.length c]
  words : Words wr H A c ws
  o1 : H ≤ bw
  o2 : bw < B
  o3 : B ≤ b
  o4 : b < bx
  o5 : bx < bk

section
variable {H : Nat} {A : Option Addr} {c : Nat} {ws : List Nat} {B b bw bx bk : Nat} {k : Nat} {wr : World}
theorem Both.drewN (h : Both H A c ws B b bw bx bk k wr) (n : Nat) : Both H A c ws B b bw bx bk k (wr.drewN n) := by
  obtain ⟨⟨x, h1, h2, h3⟩, h4, h5, o1, o2, o3, o4, o5⟩ := h
  exact ⟨⟨x, h1.below (B' := b + 1) (below_drewN (Below.refl _ _) n) (by omega), h2.drewN n, h3.drewN n⟩, h4.drewN n, h5.below (below_drewN (Below.refl H _) n) (Nat.le_refl _), o1, o2, o3, o4, o5⟩
/-- one number from each, the stream's first -/
theorem Both.first (h : Both H A c ws B b bw bx bk k wr) (hk : k ≤ 200) {P : Ending → World → Prop} {f : Nat} {args : Array Value}
    (hn : ∀ (us : List Nat) (x : Nat), Strm wr B b us x k → Calls Try.prog f args wr P) : Calls Try.prog f args wr P := by
  obtain ⟨⟨x, h1, _⟩, _⟩ := h
  exact hn _ x h1
end

/-- between the two calls: the one is a number ahead -/
structure Half (H : Nat) (A : Option Addr) (c : Nat) (ws : List Nat) (B b bw bx bk : Nat) (k x : Nat) (wr : World) : Prop where
  st : Strm wr B b (ws.drop (k + 1)) (lastOf (ws.drop k) x) (k + 1)
  xl : x < 2 ^ 64
  hx : Blk wr bx 23 #[.int .u64 x]
  hk : Blk wr bk 3 #[.int .i64 k]
  box : Blk wr bw 22 #[.slice A ws.length c]
  words : Words wr H A c ws
  o1 : H ≤ bw
  o2 : bw < B
  o3 : B ≤ b
  o4 : b < bx
  o5 : bx < bk
theorem half_of {H : Nat} {A : Option Addr} {c : Nat} {ws : List Nat} {B b bw bx bk k x : Nat} {w w' : World} (h1 : Strm w B b (ws.drop k) x k) (h2 : Blk w bx 23 #[.int .u64 x]) (h3 : Blk w bk 3 #[.int .i64 k]) (h4 : Blk w bw 22 #[.slice A ws.length c]) (h5 : Words w H A c ws)
    (o1 : H ≤ bw) (o2 : bw < B) (o3 : B ≤ b) (o4 : b < bx) (o5 : bx < bk) (hs : Strm w' B b (ws.drop k).tail (lastOf (ws.drop k) x) (k + 1)) (ho : Only b w w') : Half H A c ws B b bw bx bk k x w' :=
  ⟨by rw [List.tail_drop] at hs; exact hs, h1.last, ho.blk h2 (by omega), ho.blk h3 (by omega), ho.blk h4 (by omega), h5.below (ho.below (B := H) (by omega)) (Nat.le_refl _), o1, o2, o3, o4, o5⟩
theorem both_of {H : Nat} {A : Option Addr} {c : Nat} {ws : List Nat} {B b bw bx bk k x : Nat} {w w' : World} (h : Half H A c ws B b bw bx bk k x w) (hk : Blk w' bk 3 #[.int .i64 ((k + 1 : Nat) : Int)]) (hx : Blk w' bx 23 #[.int .u64 (lastOf (ws.drop k) x)]) (hb : Below bx w w') : Both H A c ws B b bw bx bk (k + 1) w' := by
  obtain ⟨st, xl, _, _, box, words, o1, o2, o3, o4, o5⟩ := h
  exact ⟨⟨_, st.below hb (by omega), hx, hk⟩, box.below hb (by omega), words.below hb (by omega), o1, o2, o3, o4, o5⟩
/-- the other way round: the law's own first -/
structure Half' (H : Nat) (A : Option Addr) (c : Nat) (ws : List Nat) (B b bw bx bk : Nat) (k x : Nat) (wr : World) : Prop where
  st : Strm wr B b (ws.drop k) x k
  hx : Blk wr bx 23 #[.int .u64 (lastOf (ws.drop k) x)]
  hk : Blk wr bk 3 #[.int .i64 ((k + 1 : Nat) : Int)]
  box : Blk wr bw 22 #[.slice A ws.length c]
  words : Words wr H A c ws
  o1 : H ≤ bw
  o2 : bw < B
  o3 : B ≤ b
  o4 : b < bx
  o5 : bx < bk
theorem both_of' {H : Nat} {A : Option Addr} {c : Nat} {ws : List Nat} {B b bw bx bk k x : Nat} {w w' : World} (h : Half' H A c ws B b bw bx bk k x w) (hs : Strm w' B b (ws.drop k).tail (lastOf (ws.drop k) x) (k + 1)) (ho : Only b w w') : Both H A c ws B b bw bx bk (k + 1) w' := by
  obtain ⟨st, hx, hk, box, words, o1, o2, o3, o4, o5⟩ := h
  rw [List.tail_drop] at hs
  exact ⟨⟨_, hs, ho.blk hx (by omega), ho.blk hk (by omega)⟩, ho.blk box (by omega), words.below (ho.below (B := H) (by omega)) (Nat.le_refl _), o1, o2, o3, o4, o5⟩

theorem runs_out (a a' : Option Addr) (len cap len' cap' : Nat) (s : Int) (w : World) (h : 60 < len ∨ 100 < len') :
    Calls Try.prog 3 #[.slice a len cap, .int .u64 s, .slice a' len' cap'] w fun e w' => e = .returned (.bool true) ∧ Below w.heap.size w w' := by
  have hbx := Lib.hid (show Below w.heap.size w (w.alloc (.cells #[.slice a len cap] 22)) from (Below.refl _ _).alloc (Nat.le_refl _) _)
  have hblk := Blk.new w 22 #[.slice a len cap]
  have HK := Lib.hid hblk
  clear hblk
  go_enter Try.func3, Try.ntmps3
  go_wp2_with fail
  refine (fit_any _).mono ?_
  rintro e w1 ⟨rfl, hb⟩
  have HB := Lib.hid (hbx.out.trans (hb.mono (by simp)))
  have c0 := (HK.out.below hb (by simp)).cell 0
  simp at c0
  clear hb
  by_cases h60 : 60 < len
  · go_wp2
    go_ret
    exact ⟨rfl, HB.out⟩
  · have h61 : ¬ (60 : Int) < (len : Int) := by omega
    have h100 : 100 < len' := by omega
    clear h
    go_wp2
    go_ret
    exact ⟨rfl, HB.out⟩

set_option maxHeartbeats 4000000 in
theorem runs_in (a a' : Option Addr) (cap len' cap' : Nat) (ws : List Nat) (z : Nat → Int) (s : Nat) (w : World) (hs : s < 2 ^ 64) (hl : ws.length ≤ 60) (h : Words w w.heap.size a cap ws) (hl' : len' ≤ 100)
    (hz : Cells w w.heap.size a' len' (fun j => .int .i64 (z j))) (hzr : ∀ j, j < len' → -9223372036854775808 ≤ z j ∧ z j ≤ 9223372036854775807) :
    Calls Try.prog 3 #[.slice a ws.length cap, .int .u64 s, .slice a' len' cap'] w fun e w' => e = .returned (.bool true) ∧ Below w.heap.size w w' := by
  obtain ⟨W0, hW0⟩ : ∃ W0, W0 = w.alloc (.cells #[.slice a ws.length cap] 22) := ⟨_, rfl⟩
  have hbx := Lib.hid (show Below w.heap.size w W0 from by rw [hW0]; exact (Below.refl _ _).alloc (Nat.le_refl _) _)
  have HK := Lib.hid (show Blk W0 w.heap.size 22 #[.slice a ws.length cap] from by rw [hW0]; exact Blk.new w _ _)
  have hs0 : W0.heap.size = w.heap.size + 1 := by rw [hW0]; simp
  have HW := Lib.hid h
  have HS := Lib.hid hs
  have HZ := Lib.hid hz
  have HR := Lib.hid hzr
  obtain ⟨L, hL⟩ : ∃ L, L = ws.length := ⟨_, rfl⟩
  have HN := Lib.hid (fun (w1 : World) (hb : Below w.heap.size w w1) => hL ▸ new_any (HW.out.below hb (Nat.le_refl _)) hb.size s hs)
  rw [← hL] at hl hW0 ⊢
  have HL := Lib.hid hL
  clear h hs hL hz hzr
  go_enter Try.func3, Try.ntmps3
  go_wp2_with fail
  rw [← hW0]
  clear hW0
  refine (fit_any _).mono ?_
  rintro e w1 ⟨rfl, hb⟩
  have HB := Lib.hid (hbx.out.trans (hb.mono (by omega)))
  have HK1 := Lib.hid (HK.out.below hb (by omega))
  have c0 := HK1.out.cell 0
  rw [← HL.out] at c0
  simp at c0
  have hs1 : w.heap.size + 1 ≤ w1.heap.size := by have := hb.size; omega
  clear hb
  go_wp2_with fail
  refine (HN.out _ HB.out).mono ?_
  rintro e w2 ⟨b, rfl, hst, hb⟩
  have HST := Lib.hid hst
  have HB2 := Lib.hid (HB.out.trans (hb.mono HB.out.size))
  have HK2 := Lib.hid (HK1.out.below hb (by omega))
  have hbl := hst.low
  have hb2 := hst.lt
  have c0 := HK2.out.cell 0
  rw [← HL.out] at c0
  simp at c0
  clear hst hb
  rcases Nat.eq_zero_or_pos s with h0 | h0
  · subst h0
    obtain ⟨W3, hW3⟩ : ∃ W3, W3 = (w2.alloc (.cells #[.int .u64 88172645463325252] 23)).alloc (.cells #[.int .i64 0] 3) := ⟨_, rfl⟩
    have hbw : Below w2.heap.size w2 W3 := by rw [hW3]; exact ((Below.refl _ _).alloc (Nat.le_refl _) _).alloc (by simp) _
    have hxb : Blk W3 w2.heap.size 23 #[.int .u64 88172645463325252] := by rw [hW3]; exact (Blk.new w2 _ _).alloc _
    have hkb : Blk W3 (w2.heap.size + 1) 3 #[.int .i64 0] := by rw [hW3]; simpa using Blk.new (w2.alloc (.cells #[.int .u64 88172645463325252] 23)) 3 #[.int .i64 0]
    have HB3 := Lib.hid (HB2.out.trans (hbw.mono (by omega)))
    have HBO := Lib.hid (show Both w.heap.size a cap ws w1.heap.size b w.heap.size w2.heap.size (w2.heap.size + 1) 0 W3 from ⟨⟨88172645463325252, HST.out.below hbw hb2, hxb, hkb⟩, HK2.out.below hbw (by omega), HW.out.below HB3.out (Nat.le_refl _), Nat.le_refl _, by omega, hbl, hb2, by omega⟩)
    clear hbw hxb hkb
    go_wp2
    rw [← hW3]
    clear hW3
    go_loopg [34] (len' + 1) (fun g i wr => ∃ j k : Nat, Hid (Both w.heap.size a cap ws w1.heap.size b w.heap.size w2.heap.size (w2.heap.size + 1) k wr) ∧ Hid (Below w.heap.size w wr) ∧ k ≤ j ∧ j ≤ len' ∧ g = len' + 1 - j ∧ i = .int .i64 j)
    case atStart => exact ⟨0, 0, HBO, HB3, by omega, by omega, by omega, rfl⟩
    case round =>
      obtain ⟨j, k, hbo, hb, hkj, hj, rfl, rfl⟩ := hrel
      by_cases hlt : j < len'
      · obtain ⟨bl, ol, rfl, hbl', hcl⟩ := HZ.out.at_ hlt
        have hcz := (hb.out.cell (p := ⟨bl, ol + j, none⟩) (by simpa using hbl')).trans hcl
        obtain ⟨hz1, hz2⟩ := HR.out j hlt
        obtain ⟨n, hn⟩ : ∃ n, n = z j := ⟨_, rfl⟩
        rw [← hn] at hcz hz1 hz2
        clear hn hcl
        obtain ⟨⟨x, g1, g2, g3⟩, g4, g5, o1, o2, o3, o4, o5⟩ := hbo.out
        have G1 := Lib.hid g1
        have G2 := Lib.hid g2
        have G3 := Lib.hid g3
        have G4 := Lib.hid g4
        have G5 := Lib.hid g5
        obtain ⟨v, hv⟩ : ∃ v, v = nextOf (ws.drop k) x := ⟨_, rfl⟩
        have hvl : v < 2 ^ 64 := by rw [hv]; exact next_lt g1
        have HV := Lib.hid hv
        clear g1 g2 g3 g4 g5 hv hbo
        rcases (by omega : j % 3 = 0 ∨ j % 3 = 1 ∨ j % 3 = 2) with h3 | h3 | h3
        · have h3' : (j : Int) % 3 = 0 := by omega
          go_wp2_with fail
          refine (next_any G1.out (by omega)).mono ?_
          rintro e wa ⟨rfl, hs4, ho4⟩
          rw [← HV.out]
          have HH := Lib.hid (half_of G1.out G2.out G3.out G4.out G5.out o1 o2 o3 o4 o5 hs4 ho4)
          have HBa := Lib.hid (hb.out.trans (ho4.below (B := w.heap.size) (by omega)))
          clear hs4 ho4
          go_wp2_with fail
          refine (gen_any HH.out.hk HH.out.box HH.out.hx HH.out.words HH.out.o1 (by omega) HH.out.o5 HH.out.xl (by omega)).mono ?_
          rintro e wb ⟨rfl, hk5, hx5, hb5⟩
          rw [← HV.out]
          have HBB := Lib.hid (both_of HH.out hk5 hx5 hb5)
          have HBb := Lib.hid (HBa.out.trans (hb5.mono (by omega)))
          clear hk5 hx5 hb5
          obtain ⟨kk, hkk⟩ : ∃ kk, kk = k + 1 := ⟨_, rfl⟩
          rw [← hkk] at HBB
          have HQ := Lib.hid (fun (i : Nat) => (HBB.out.drewN i).first (by omega) (P := fun e w' => e = .returned (.int .i64 kk) ∧ wb.drewN i = w') fun us x hs => drawn_any hs)
          obtain ⟨⟨x9, g1, g2, g3⟩, _⟩ := HBB.out
          have ck := g3.cell 0
          simp at ck
          clear g1 g2 g3
          go_wp2_with fail
          go_quiet ((go_at_call 14; exact Calls.quiet_of_same ((HQ.out _).mono fun _ _ ⟨he, hw⟩ => ⟨he, hw.symm⟩)))
          go_wp2
          go_roundg (len' - j)
          case measure => omega
          case rel => exact ⟨j + 1, kk, Lib.hid (HBB.out.drewN _), Lib.hid (below_drewN HBb.out _), by omega, by omega, by omega, by go_num⟩
        · have h3' : (j : Int) % 3 = 1 := by omega
          by_cases hn1 : n < 1
          · go_wp2_with fail
            refine (below_none _ hn1).mono ?_
            rintro e wb ⟨rfl, rfl⟩
            have HBB := Lib.hid (show Both w.heap.size a cap ws w1.heap.size b w.heap.size w2.heap.size (w2.heap.size + 1) k _ from ⟨⟨x, G1.out, G2.out, G3.out⟩, G4.out, G5.out, o1, o2, o3, o4, o5⟩)
            have HBb := hb
            obtain ⟨kk, hkk⟩ : ∃ kk, kk = k := ⟨_, rfl⟩
            rw [← hkk] at HBB
            have HQ := Lib.hid (fun (i : Nat) => (HBB.out.drewN i).first (by omega) (P := fun e w' => e = .returned (.int .i64 kk) ∧ wr.drewN i = w') fun us x hs => drawn_any hs)
            obtain ⟨⟨x9, g1, g2, g3⟩, _⟩ := HBB.out
            have ck := g3.cell 0
            simp at ck
            clear g1 g2 g3
            go_wp2_with fail
            go_quiet ((go_at_call 14; exact Calls.quiet_of_same ((HQ.out _).mono fun _ _ ⟨he, hw⟩ => ⟨he, hw.symm⟩)))
            go_wp2
            go_roundg (len' - j)
            case measure => omega
            case rel => exact ⟨j + 1, kk, Lib.hid (HBB.out.drewN _), Lib.hid (below_drewN HBb.out _), by omega, by omega, by omega, by go_num⟩
          · obtain ⟨m, rfl⟩ : ∃ m : Nat, n = (m : Int) := ⟨n.toNat, by omega⟩
            have hm0 : 0 < m := by omega
            have hm1 : m ≤ 9223372036854775807 := by omega
            obtain ⟨r, hr⟩ : ∃ r : Nat, r = v % m := ⟨_, rfl⟩
            have hrm : r < m := by rw [hr]; exact Nat.mod_lt _ hm0
            have e1 : (v : Int) % (m : Int) = (r : Int) := by rw [hr]; simp
            have e3 : IntKind.u64.wrap (m : Int) = (m : Int) := by rw [u64_wrap9, Nat.mod_eq_of_lt (by omega)]
            have e2 : IntKind.i64.wrap (r : Int) = (r : Int) := IntWalk.i64_in _ (by omega)
            have HRR := Lib.hid hr
            clear hr
            go_wp2_with fail
            refine (gen_any G3.out G4.out G2.out G5.out o1 (by omega) o5 G1.out.last (by omega)).mono ?_
            rintro e wa ⟨rfl, hk5, hx5, hb5⟩
            rw [← HV.out]
            have HH := Lib.hid (show Half' w.heap.size a cap ws w1.heap.size b w.heap.size w2.heap.size (w2.heap.size + 1) k x wa from ⟨G1.out.below hb5 (by omega), hx5, hk5, G4.out.below hb5 (by omega), G5.out.below hb5 (by omega), o1, o2, o3, o4, o5⟩)
            have HBa := Lib.hid (hb.out.trans (hb5.mono (by omega)))
            clear hk5 hx5 hb5
            go_wp2_with fail
            refine (below_any HH.out.st (by omega) m hm0 hm1).mono ?_
            rintro e wb ⟨rfl, hs4, ho4⟩
            rw [← HV.out, ← HRR.out]
            have HBB := Lib.hid (both_of' HH.out hs4 ho4)
            have HBb := Lib.hid (HBa.out.trans (ho4.below (B := w.heap.size) (by omega)))
            clear hs4 ho4
            obtain ⟨kk, hkk⟩ : ∃ kk, kk = k + 1 := ⟨_, rfl⟩
            rw [← hkk] at HBB
            have HQ := Lib.hid (fun (i : Nat) => (HBB.out.drewN i).first (by omega) (P := fun e w' => e = .returned (.int .i64 kk) ∧ wb.drewN i = w') fun us x hs => drawn_any hs)
            obtain ⟨⟨x9, g1, g2, g3⟩, _⟩ := HBB.out
            have ck := g3.cell 0
            simp at ck
            clear g1 g2 g3
            go_wp2_with fail
            go_quiet ((go_at_call 14; exact Calls.quiet_of_same ((HQ.out _).mono fun _ _ ⟨he, hw⟩ => ⟨he, hw.symm⟩)))
            go_wp2
            go_roundg (len' - j)
            case measure => omega
            case rel => exact ⟨j + 1, kk, Lib.hid (HBB.out.drewN _), Lib.hid (below_drewN HBb.out _), by omega, by omega, by omega, by go_num⟩
        · have h3' : (j : Int) % 3 = 2 := by omega
          by_cases hn1 : n < 1
          · go_wp2_with fail
            refine (chance_none _ _ hn1).mono ?_
            rintro e wb ⟨rfl, rfl⟩
            have HBB := Lib.hid (show Both w.heap.size a cap ws w1.heap.size b w.heap.size w2.heap.size (w2.heap.size + 1) k _ from ⟨⟨x, G1.out, G2.out, G3.out⟩, G4.out, G5.out, o1, o2, o3, o4, o5⟩)
            have HBb := hb
            obtain ⟨kk, hkk⟩ : ∃ kk, kk = k := ⟨_, rfl⟩
            rw [← hkk] at HBB
            have HQ := Lib.hid (fun (i : Nat) => (HBB.out.drewN i).first (by omega) (P := fun e w' => e = .returned (.int .i64 kk) ∧ wr.drewN i = w') fun us x hs => drawn_any hs)
            obtain ⟨⟨x9, g1, g2, g3⟩, _⟩ := HBB.out
            have ck := g3.cell 0
            simp at ck
            clear g1 g2 g3
            go_wp2_with fail
            go_quiet ((go_at_call 14; exact Calls.quiet_of_same ((HQ.out _).mono fun _ _ ⟨he, hw⟩ => ⟨he, hw.symm⟩)))
            go_wp2
            go_roundg (len' - j)
            case measure => omega
            case rel => exact ⟨j + 1, kk, Lib.hid (HBB.out.drewN _), Lib.hid (below_drewN HBb.out _), by omega, by omega, by omega, by go_num⟩
          · obtain ⟨m, rfl⟩ : ∃ m : Nat, n = (m : Int) := ⟨n.toNat, by omega⟩
            have hm0 : 0 < m := by omega
            have hm1 : m ≤ 9223372036854775807 := by omega
            obtain ⟨r, hr⟩ : ∃ r : Nat, r = v % m := ⟨_, rfl⟩
            have hrm : r < m := by rw [hr]; exact Nat.mod_lt _ hm0
            have e1 : (v : Int) % (m : Int) = (r : Int) := by rw [hr]; simp
            have e3 : IntKind.u64.wrap (m : Int) = (m : Int) := by rw [u64_wrap9, Nat.mod_eq_of_lt (by omega)]
            have e2 : IntKind.i64.wrap (r : Int) = (r : Int) := IntWalk.i64_in _ (by omega)
            have HRR := Lib.hid hr
            clear hr
            obtain ⟨lb, hlb⟩ : ∃ lb, decide (r < j) = lb := ⟨_, rfl⟩
            have HLB := Lib.hid (show decide ((r : Int) < (j : Int)) = lb by rw [← hlb]; exact decide_eq_decide.2 (by omega))
            go_wp2_with fail
            refine (gen_any G3.out G4.out G2.out G5.out o1 (by omega) o5 G1.out.last (by omega)).mono ?_
            rintro e wa ⟨rfl, hk5, hx5, hb5⟩
            rw [← HV.out]
            have HH := Lib.hid (show Half' w.heap.size a cap ws w1.heap.size b w.heap.size w2.heap.size (w2.heap.size + 1) k x wa from ⟨G1.out.below hb5 (by omega), hx5, hk5, G4.out.below hb5 (by omega), G5.out.below hb5 (by omega), o1, o2, o3, o4, o5⟩)
            have HBa := Lib.hid (hb.out.trans (hb5.mono (by omega)))
            clear hk5 hx5 hb5
            go_wp2_with fail
            refine (chance_any HH.out.st (by omega) _ m hm0 hm1).mono ?_
            rintro e wb ⟨rfl, hs4, ho4⟩
            rw [← HV.out, ← HRR.out, HLB.out]
            have HBB := Lib.hid (both_of' HH.out hs4 ho4)
            have HBb := Lib.hid (HBa.out.trans (ho4.below (B := w.heap.size) (by omega)))
            clear hs4 ho4
            obtain ⟨kk, hkk⟩ : ∃ kk, kk = k + 1 := ⟨_, rfl⟩
            rw [← hkk] at HBB
            have HQ := Lib.hid (fun (i : Nat) => (HBB.out.drewN i).first (by omega) (P := fun e w' => e = .returned (.int .i64 kk) ∧ wb.drewN i = w') fun us x hs => drawn_any hs)
            obtain ⟨⟨x9, g1, g2, g3⟩, _⟩ := HBB.out
            have ck := g3.cell 0
            simp at ck
            clear g1 g2 g3
            go_wp2_with fail
            go_quiet ((go_at_call 14; exact Calls.quiet_of_same ((HQ.out _).mono fun _ _ ⟨he, hw⟩ => ⟨he, hw.symm⟩)))
            go_wp2
            go_roundg (len' - j)
            case measure => omega
            case rel => exact ⟨j + 1, kk, Lib.hid (HBB.out.drewN _), Lib.hid (below_drewN HBb.out _), by omega, by omega, by omega, by go_num⟩
      · go_wp2
        go_ret
        exact ⟨rfl, hb.out⟩
  · have hs9 : ((s : Int) == 0) = false := by simp; omega
    rw [show seedOf s = s by unfold seedOf; rw [if_neg (by omega)]] at HST
    clear h0
    obtain ⟨W3, hW3⟩ : ∃ W3, W3 = (w2.alloc (.cells #[.int .u64 s] 23)).alloc (.cells #[.int .i64 0] 3) := ⟨_, rfl⟩
    have hbw : Below w2.heap.size w2 W3 := by rw [hW3]; exact ((Below.refl _ _).alloc (Nat.le_refl _) _).alloc (by simp) _
    have hxb : Blk W3 w2.heap.size 23 #[.int .u64 s] := by rw [hW3]; exact (Blk.new w2 _ _).alloc _
    have hkb : Blk W3 (w2.heap.size + 1) 3 #[.int .i64 0] := by rw [hW3]; simpa using Blk.new (w2.alloc (.cells #[.int .u64 s] 23)) 3 #[.int .i64 0]
    have HB3 := Lib.hid (HB2.out.trans (hbw.mono (by omega)))
    have HBO := Lib.hid (show Both w.heap.size a cap ws w1.heap.size b w.heap.size w2.heap.size (w2.heap.size + 1) 0 W3 from ⟨⟨s, HST.out.below hbw hb2, hxb, hkb⟩, HK2.out.below hbw (by omega), HW.out.below HB3.out (Nat.le_refl _), Nat.le_refl _, by omega, hbl, hb2, by omega⟩)
    clear hbw hxb hkb
    go_wp2
    rw [← hW3]
    clear hW3
    go_loopg [34] (len' + 1) (fun g i wr => ∃ j k : Nat, Hid (Both w.heap.size a cap ws w1.heap.size b w.heap.size w2.heap.size (w2.heap.size + 1) k wr) ∧ Hid (Below w.heap.size w wr) ∧ k ≤ j ∧ j ≤ len' ∧ g = len' + 1 - j ∧ i = .int .i64 j)
    case atStart => exact ⟨0, 0, HBO, HB3, by omega, by omega, by omega, rfl⟩
    case round =>
      obtain ⟨j, k, hbo, hb, hkj, hj, rfl, rfl⟩ := hrel
      by_cases hlt : j < len'
      · obtain ⟨bl, ol, rfl, hbl', hcl⟩ := HZ.out.at_ hlt
        have hcz := (hb.out.cell (p := ⟨bl, ol + j, none⟩) (by simpa using hbl')).trans hcl
        obtain ⟨hz1, hz2⟩ := HR.out j hlt
        obtain ⟨n, hn⟩ : ∃ n, n = z j := ⟨_, rfl⟩
        rw [← hn] at hcz hz1 hz2
        clear hn hcl
        obtain ⟨⟨x, g1, g2, g3⟩, g4, g5, o1, o2, o3, o4, o5⟩ := hbo.out
        have G1 := Lib.hid g1
        have G2 := Lib.hid g2
        have G3 := Lib.hid g3
        have G4 := Lib.hid g4
        have G5 := Lib.hid g5
        obtain ⟨v, hv⟩ : ∃ v, v = nextOf (ws.drop k) x := ⟨_, rfl⟩
        have hvl : v < 2 ^ 64 := by rw [hv]; exact next_lt g1
        have HV := Lib.hid hv
        clear g1 g2 g3 g4 g5 hv hbo
        rcases (by omega : j % 3 = 0 ∨ j % 3 = 1 ∨ j % 3 = 2) with h3 | h3 | h3
        · have h3' : (j : Int) % 3 = 0 := by omega
          go_wp2_with fail
          refine (next_any G1.out (by omega)).mono ?_
          rintro e wa ⟨rfl, hs4, ho4⟩
          rw [← HV.out]
          have HH := Lib.hid (half_of G1.out G2.out G3.out G4.out G5.out o1 o2 o3 o4 o5 hs4 ho4)
          have HBa := Lib.hid (hb.out.trans (ho4.below (B := w.heap.size) (by omega)))
          clear hs4 ho4
          go_wp2_with fail
          refine (gen_any HH.out.hk HH.out.box HH.out.hx HH.out.words HH.out.o1 (by omega) HH.out.o5 HH.out.xl (by omega)).mono ?_
          rintro e wb ⟨rfl, hk5, hx5, hb5⟩
          rw [← HV.out]
          have HBB := Lib.hid (both_of HH.out hk5 hx5 hb5)
          have HBb := Lib.hid (HBa.out.trans (hb5.mono (by omega)))
          clear hk5 hx5 hb5
          obtain ⟨kk, hkk⟩ : ∃ kk, kk = k + 1 := ⟨_, rfl⟩
          rw [← hkk] at HBB
          have HQ := Lib.hid (fun (i : Nat) => (HBB.out.drewN i).first (by omega) (P := fun e w' => e = .returned (.int .i64 kk) ∧ wb.drewN i = w') fun us x hs => drawn_any hs)
          obtain ⟨⟨x9, g1, g2, g3⟩, _⟩ := HBB.out
          have ck := g3.cell 0
          simp at ck
          clear g1 g2 g3
          go_wp2_with fail
          go_quiet ((go_at_call 14; exact Calls.quiet_of_same ((HQ.out _).mono fun _ _ ⟨he, hw⟩ => ⟨he, hw.symm⟩)))
          go_wp2
          go_roundg (len' - j)
          case measure => omega
          case rel => exact ⟨j + 1, kk, Lib.hid (HBB.out.drewN _), Lib.hid (below_drewN HBb.out _), by omega, by omega, by omega, by go_num⟩
        · have h3' : (j : Int) % 3 = 1 := by omega
          by_cases hn1 : n < 1
          · go_wp2_with fail
            refine (below_none _ hn1).mono ?_
            rintro e wb ⟨rfl, rfl⟩
            have HBB := Lib.hid (show Both w.heap.size a cap ws w1.heap.size b w.heap.size w2.heap.size (w2.heap.size + 1) k _ from ⟨⟨x, G1.out, G2.out, G3.out⟩, G4.out, G5.out, o1, o2, o3, o4, o5⟩)
            have HBb := hb
            obtain ⟨kk, hkk⟩ : ∃ kk, kk = k := ⟨_, rfl⟩
            rw [← hkk] at HBB
            have HQ := Lib.hid (fun (i : Nat) => (HBB.out.drewN i).first (by omega) (P := fun e w' => e = .returned (.int .i64 kk) ∧ wr.drewN i = w') fun us x hs => drawn_any hs)
            obtain ⟨⟨x9, g1, g2, g3⟩, _⟩ := HBB.out
            have ck := g3.cell 0
            simp at ck
            clear g1 g2 g3
            go_wp2_with fail
            go_quiet ((go_at_call 14; exact Calls.quiet_of_same ((HQ.out _).mono fun _ _ ⟨he, hw⟩ => ⟨he, hw.symm⟩)))
            go_wp2
            go_roundg (len' - j)
            case measure => omega
            case rel => exact ⟨j + 1, kk, Lib.hid (HBB.out.drewN _), Lib.hid (below_drewN HBb.out _), by omega, by omega, by omega, by go_num⟩
          · obtain ⟨m, rfl⟩ : ∃ m : Nat, n = (m : Int) := ⟨n.toNat, by omega⟩
            have hm0 : 0 < m := by omega
            have hm1 : m ≤ 9223372036854775807 := by omega
            obtain ⟨r, hr⟩ : ∃ r : Nat, r = v % m := ⟨_, rfl⟩
            have hrm : r < m := by rw [hr]; exact Nat.mod_lt _ hm0
            have e1 : (v : Int) % (m : Int) = (r : Int) := by rw [hr]; simp
            have e3 : IntKind.u64.wrap (m : Int) = (m : Int) := by rw [u64_wrap9, Nat.mod_eq_of_lt (by omega)]
            have e2 : IntKind.i64.wrap (r : Int) = (r : Int) := IntWalk.i64_in _ (by omega)
            have HRR := Lib.hid hr
            clear hr
            go_wp2_with fail
            refine (gen_any G3.out G4.out G2.out G5.out o1 (by omega) o5 G1.out.last (by omega)).mono ?_
            rintro e wa ⟨rfl, hk5, hx5, hb5⟩
            rw [← HV.out]
            have HH := Lib.hid (show Half' w.heap.size a cap ws w1.heap.size b w.heap.size w2.heap.size (w2.heap.size + 1) k x wa from ⟨G1.out.below hb5 (by omega), hx5, hk5, G4.out.below hb5 (by omega), G5.out.below hb5 (by omega), o1, o2, o3, o4, o5⟩)
            have HBa := Lib.hid (hb.out.trans (hb5.mono (by omega)))
            clear hk5 hx5 hb5
            go_wp2_with fail
            refine (below_any HH.out.st (by omega) m hm0 hm1).mono ?_
            rintro e wb ⟨rfl, hs4, ho4⟩
            rw [← HV.out, ← HRR.out]
            have HBB := Lib.hid (both_of' HH.out hs4 ho4)
            have HBb := Lib.hid (HBa.out.trans (ho4.below (B := w.heap.size) (by omega)))
            clear hs4 ho4
            obtain ⟨kk, hkk⟩ : ∃ kk, kk = k + 1 := ⟨_, rfl⟩
            rw [← hkk] at HBB
            have HQ := Lib.hid (fun (i : Nat) => (HBB.out.drewN i).first (by omega) (P := fun e w' => e = .returned (.int .i64 kk) ∧ wb.drewN i = w') fun us x hs => drawn_any hs)
            obtain ⟨⟨x9, g1, g2, g3⟩, _⟩ := HBB.out
            have ck := g3.cell 0
            simp at ck
            clear g1 g2 g3
            go_wp2_with fail
            go_quiet ((go_at_call 14; exact Calls.quiet_of_same ((HQ.out _).mono fun _ _ ⟨he, hw⟩ => ⟨he, hw.symm⟩)))
            go_wp2
            go_roundg (len' - j)
            case measure => omega
            case rel => exact ⟨j + 1, kk, Lib.hid (HBB.out.drewN _), Lib.hid (below_drewN HBb.out _), by omega, by omega, by omega, by go_num⟩
        · have h3' : (j : Int) % 3 = 2 := by omega
          by_cases hn1 : n < 1
          · go_wp2_with fail
            refine (chance_none _ _ hn1).mono ?_
            rintro e wb ⟨rfl, rfl⟩
            have HBB := Lib.hid (show Both w.heap.size a cap ws w1.heap.size b w.heap.size w2.heap.size (w2.heap.size + 1) k _ from ⟨⟨x, G1.out, G2.out, G3.out⟩, G4.out, G5.out, o1, o2, o3, o4, o5⟩)
            have HBb := hb
            obtain ⟨kk, hkk⟩ : ∃ kk, kk = k := ⟨_, rfl⟩
            rw [← hkk] at HBB
            have HQ := Lib.hid (fun (i : Nat) => (HBB.out.drewN i).first (by omega) (P := fun e w' => e = .returned (.int .i64 kk) ∧ wr.drewN i = w') fun us x hs => drawn_any hs)
            obtain ⟨⟨x9, g1, g2, g3⟩, _⟩ := HBB.out
            have ck := g3.cell 0
            simp at ck
            clear g1 g2 g3
            go_wp2_with fail
            go_quiet ((go_at_call 14; exact Calls.quiet_of_same ((HQ.out _).mono fun _ _ ⟨he, hw⟩ => ⟨he, hw.symm⟩)))
            go_wp2
            go_roundg (len' - j)
            case measure => omega
            case rel => exact ⟨j + 1, kk, Lib.hid (HBB.out.drewN _), Lib.hid (below_drewN HBb.out _), by omega, by omega, by omega, by go_num⟩
          · obtain ⟨m, rfl⟩ : ∃ m : Nat, n = (m : Int) := ⟨n.toNat, by omega⟩
            have hm0 : 0 < m := by omega
            have hm1 : m ≤ 9223372036854775807 := by omega
            obtain ⟨r, hr⟩ : ∃ r : Nat, r = v % m := ⟨_, rfl⟩
            have hrm : r < m := by rw [hr]; exact Nat.mod_lt _ hm0
            have e1 : (v : Int) % (m : Int) = (r : Int) := by rw [hr]; simp
            have e3 : IntKind.u64.wrap (m : Int) = (m : Int) := by rw [u64_wrap9, Nat.mod_eq_of_lt (by omega)]
            have e2 : IntKind.i64.wrap (r : Int) = (r : Int) := IntWalk.i64_in _ (by omega)
            have HRR := Lib.hid hr
            clear hr
            obtain ⟨lb, hlb⟩ : ∃ lb, decide (r < j) = lb := ⟨_, rfl⟩
            have HLB := Lib.hid (show decide ((r : Int) < (j : Int)) = lb by rw [← hlb]; exact decide_eq_decide.2 (by omega))
            go_wp2_with fail
            refine (gen_any G3.out G4.out G2.out G5.out o1 (by omega) o5 G1.out.last (by omega)).mono ?_
            rintro e wa ⟨rfl, hk5, hx5, hb5⟩
            rw [← HV.out]
            have HH := Lib.hid (show Half' w.heap.size a cap ws w1.heap.size b w.heap.size w2.heap.size (w2.heap.size + 1) k x wa from ⟨G1.out.below hb5 (by omega), hx5, hk5, G4.out.below hb5 (by omega), G5.out.below hb5 (by omega), o1, o2, o3, o4, o5⟩)
            have HBa := Lib.hid (hb.out.trans (hb5.mono (by omega)))
            clear hk5 hx5 hb5
            go_wp2_with fail
            refine (chance_any HH.out.st (by omega) _ m hm0 hm1).mono ?_
            rintro e wb ⟨rfl, hs4, ho4⟩
            rw [← HV.out, ← HRR.out, HLB.out]
            have HBB := Lib.hid (both_of' HH.out hs4 ho4)
            have HBb := Lib.hid (HBa.out.trans (ho4.below (B := w.heap.size) (by omega)))
            clear hs4 ho4
            obtain ⟨kk, hkk⟩ : ∃ kk, kk = k + 1 := ⟨_, rfl⟩
            rw [← hkk] at HBB
            have HQ := Lib.hid (fun (i : Nat) => (HBB.out.drewN i).first (by omega) (P := fun e w' => e = .returned (.int .i64 kk) ∧ wb.drewN i = w') fun us x hs => drawn_any hs)
            obtain ⟨⟨x9, g1, g2, g3⟩, _⟩ := HBB.out
            have ck := g3.cell 0
            simp at ck
            clear g1 g2 g3
            go_wp2_with fail
            go_quiet ((go_at_call 14; exact Calls.quiet_of_same ((HQ.out _).mono fun _ _ ⟨he, hw⟩ => ⟨he, hw.symm⟩)))
            go_wp2
            go_roundg (len' - j)
            case measure => omega
            case rel => exact ⟨j + 1, kk, Lib.hid (HBB.out.drewN _), Lib.hid (below_drewN HBb.out _), by omega, by omega, by omega, by go_num⟩
      · go_wp2
        go_ret
        exact ⟨rfl, hb.out⟩
end Go.Proofs.Ytkolhhahnkfnoaa
