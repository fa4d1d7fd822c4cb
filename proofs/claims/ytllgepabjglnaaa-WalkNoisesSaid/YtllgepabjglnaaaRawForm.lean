/- The formula that a law makes of raw numbers. -/
import Derived.Test.YtllgepabjglnaaaCnf3
import Derived.Test.YtllgepabjglnaaaRawMath
import Derived.Deep.CutBlock
import Derived.Test.YtllgepabjglnaaaBits
namespace Go.Proofs.Ytllgepabjglnaaa
open Go.RowKit

set_option maxRecDepth 100000 in
set_option maxHeartbeats 1600000 in
theorem formula_any (v : Nat) (nss : List (List Int)) (B : Nat) (A : Option Addr) (c vars width : Nat) (w : World) (hv : v ≤ 255) (h1 : vars ≤ 1000000) (h2 : width ≤ 1000000) (hx : nss.length ≤ 1099511627776)
    (hl : ∀ j, (nss.getD j []).length ≤ 1099511627776) (hn : ∀ j k, -32768 ≤ (nss.getD j []).getD k 0 ∧ (nss.getD j []).getD k 0 ≤ 32767) (h : KRows .i16 w B A nss) (hB : B ≤ w.heap.size) :
    Calls Try.prog 11 #[.agg #[.int .u8 v, .slice A nss.length c], .int .i64 vars, .int .i64 width] w (Copied (v % (vars + 1) : Nat) (rawForm (v % (vars + 1)) width nss) w) := by
  have H := Lib.hid h
  have HL := Lib.hid hl
  have HN := Lib.hid hn
  clear h hl hn
  obtain ⟨F, hF⟩ : ∃ F, F = v % (vars + 1) := ⟨_, rfl⟩
  have hFv : F ≤ vars := by have := Nat.mod_lt v (show 0 < vars + 1 by omega); omega
  have hFi : (v : Int) % ((vars : Int) + 1) = (F : Int) := by rw [hF]; simp
  rw [← hF]
  clear hF
  go_enter Try.func11, Try.ntmps11
  go_wp2
  obtain ⟨w1, hw1⟩ : ∃ w1, w1 = ((w.alloc (Obj.cells #[Value.int IntKind.u8 v, Value.slice A nss.length c] 24)).alloc (Obj.cells #[Value.int IntKind.i64 0, Value.slice none 0 0] 32)).alloc (Obj.cells #[Value.int IntKind.i64 F, Value.slice none 0 0] 32) := ⟨_, rfl⟩
  have hR : KRows .i16 w1 B A nss := by rw [hw1]; exact ((H.out.alloc hB _).alloc (by simp; omega) _).alloc (by simp; omega) _
  have hBel : Below w.heap.size w w1 := by rw [hw1]; exact (((Below.refl _ _).alloc (Nat.le_refl _) _).alloc (by simp) _).alloc (by simp; omega) _
  have hsz : w1.heap.size = w.heap.size + 3 := by rw [hw1]; simp
  have hres : Blk w1 (w.heap.size + 1) 32 #[Value.int IntKind.i64 0, Value.slice none 0 0] := by
    rw [hw1]; refine Blk.alloc ?_ _; have := Blk.new (w.alloc (Obj.cells #[Value.int IntKind.u8 v, Value.slice A nss.length c] 24)) 32 #[Value.int IntKind.i64 0, Value.slice none 0 0]; simpa using this
  have hfb : Blk w1 (w.heap.size + 1 + 1) 32 #[Value.int IntKind.i64 F, Value.slice none 0 0] := by
    rw [hw1]; have := Blk.new ((w.alloc (Obj.cells #[Value.int IntKind.u8 v, Value.slice A nss.length c] 24)).alloc (Obj.cells #[Value.int IntKind.i64 0, Value.slice none 0 0] 32)) 32 #[Value.int IntKind.i64 F, Value.slice none 0 0]; simpa using this
  rw [← hw1]
  clear hw1 hFi
  have HR := Lib.hid hR
  have HBel := Lib.hid hBel
  have HS := Lib.hid hsz
  have HRES := Lib.hid hres
  have HFB := Lib.hid hfb
  clear hR hBel hsz hres hfb
  obtain ⟨i0, hi, hz0, hz1, hz2⟩ := info_parts Try.infoInt3
  obtain ⟨i0', hi', hz0', hz1', hz2'⟩ := info_parts Try.infoInts
  go_loopg [24] (nss.length + 1) (fun gk i wr => ∃ (k : Nat) (Af : Option Addr) (cf : Nat) (vs : List Value), k ≤ nss.length ∧ gk = nss.length - k + 1 ∧ i = .int .i64 k ∧ Blk wr (w.heap.size + 1 + 1) 32 #[.int .i64 F, .slice Af k cf] ∧
      wr.ownsRow w1.heap.size 48 1 (.slice Af k cf) k vs ∧ OwnList wr w1.heap.size 3 vs (rawForm F width (nss.take k)) ∧ Below (w.heap.size + 2) w1 wr)
  case atStart => exact ⟨0, none, 0, [], by omega, by omega, rfl, HFB.out, World.ownsRow_nil _ _ _ _, OwnList.nil_, Below.refl _ _⟩
  case round =>
    obtain ⟨k, Af, cf, vs, hk, rfl, rfl, hblk, hown, hlist, hb2⟩ := hrel
    obtain ⟨wo, rfl⟩ : ∃ wo : World, wo = wr := ⟨_, rfl⟩
    have C0 := hblk.cell 0
    have C1 := hblk.cell 1
    have CF := hblk.frozen
    simp at C0 C1
    have HBKr := Lib.hid hblk
    have HOWr := Lib.hid hown
    have HB2r := Lib.hid hb2
    have HLI := Lib.hid hlist
    clear hblk hown hb2 hlist HFB
    by_cases hlt : k < nss.length
    · obtain ⟨b, off, Ak, ck, rfl, hbB, hck, hik⟩ := (HR.out.below (HB2r.out.mono (by omega))).at_ hlt
      have hlk := HL.out k
      have hnk := HN.out k
      have htk := List.take_succ_eq_append_getElem hlt
      obtain ⟨cs, hcs⟩ : ∃ cs, cs = nss.getD k [] := ⟨_, rfl⟩
      have hcs' : nss[k] = cs := by rw [hcs]; simp [List.getD, hlt]
      rw [hcs'] at htk
      rw [← hcs] at hck hik hlk hnk
      clear hcs hcs'
      have HTK := Lib.hid htk
      have HIK := Lib.hid hik
      have HNK := Lib.hid hnk
      clear htk hik hnk
      go_upto_block 2 with fail
      go_cut [10] (fun s10 wx => ∃ (Ad : Option Addr) (cd : Nat), s10 = .slice Ad (rawClause F width cs).length cd ∧ wx.ownsRow wo.heap.size 3 1 (.slice Ad (rawClause F width cs).length cd) (rawClause F width cs).length ((rawClause F width cs).map (Value.int .i64)) ∧ Below wo.heap.size wo wx)
      case first =>
        go_wp2
        go_loopg [10, 30] (cs.length + 1) (fun gk d i wx => ∃ (j : Nat) (Ad : Option Addr) (cd : Nat), j ≤ cs.length ∧ gk = cs.length - j + 1 ∧ i = .int .i64 j ∧ d = .slice Ad j cd ∧ j ≤ width ∧ (F = 0 → j = 0) ∧
          wx.ownsRow wo.heap.size 3 1 (.slice Ad j cd) j (((cs.take j).map (rawLit F)).map (Value.int .i64)) ∧ Below wo.heap.size wo wx)
        case atStart => exact ⟨0, none, 0, by omega, by omega, rfl, rfl, by omega, fun _ => rfl, World.ownsRow_nil _ _ _ _, Below.refl _ _⟩
        case round =>
          obtain ⟨j, Ad, cd, hj, rfl, rfl, rfl, hjw, hF0, hown, hb⟩ := hrel
          have HOWd := Lib.hid hown
          have HBd := Lib.hid hb
          have HF0 := Lib.hid hF0
          clear hown hb hF0
          have hsz1 : w.heap.size + 1 + 1 < wo.heap.size := HBKr.out.lt
          have hszd := HBd.out.size
          have D0 : wr.cell? ⟨w.heap.size + 1 + 1, 0, none⟩ = some (.int .i64 F) := (HBd.out.cell (p := ⟨w.heap.size + 1 + 1, 0, none⟩) hsz1).trans C0
          by_cases hjl : j < cs.length
          · obtain ⟨b', off', rfl, hb', hcj⟩ := (Cells.below HIK.out (HBd.out.mono (by omega))).at_ hjl
            obtain ⟨n1, n2⟩ := HNK.out j
            have htj : cs.take (j + 1) = cs.take j ++ [cs.getD j 0] := by rw [List.take_succ_eq_append_getElem hjl]; simp [List.getD, hjl]
            obtain ⟨n, hn⟩ : ∃ n, n = cs.getD j 0 := ⟨_, rfl⟩
            rw [← hn] at hcj n1 n2 htj
            clear hn
            have HTJ := Lib.hid htj
            clear htj
            by_cases hFz : F = 0
            · have hq : ((F : Int) == 0) = true := by simp; omega
              have HFz := Lib.hid hFz
              clear hFz
              go_wp2
              go_meet
              have hj0 : j = 0 := HF0.out HFz.out
              subst hj0
              refine ⟨Ad, cd, ?_, ?_, HBd.out⟩
              · unfold rawClause; rw [if_pos HFz.out]; rfl
              · have := HOWd.out; unfold rawClause; rw [if_pos HFz.out]; simpa using this
            · have hq : ((F : Int) == 0) = false := by simp; omega
              have hFp : 0 < F := by omega
              clear hFz
              by_cases hjw' : j = width
              · have hq2 : ((j : Int) == (width : Int)) = true := by simp; omega
                have HJW := Lib.hid hjw'
                clear hjw'
                go_wp2
                go_meet
                have hcl : rawClause F width cs = (cs.take j).map (rawLit F) := by unfold rawClause; rw [if_neg (by omega), HJW.out]
                have e : j = ((cs.take j).map (rawLit F)).length := by simp; omega
                refine ⟨Ad, cd, by rw [hcl, ← e], ?_, HBd.out⟩
                rw [hcl, ← e]; exact HOWd.out
              · have hq2 : ((j : Int) == (width : Int)) = false := by simp; omega
                have hu := u16_wrap n
                have hrl : rawLit F n = if n % 2 = 1 then -(1 + n % 65536 / 2 % F) else 1 + n % 65536 / 2 % F := rfl
                have hq0 : 0 ≤ n % 65536 / 2 % (F : Int) := Int.emod_nonneg _ (by omega)
                have hq1 : n % 65536 / 2 % (F : Int) < F := Int.emod_lt_of_pos _ (by omega)
                have ha := i16_and_1 n
                obtain ⟨m, hm⟩ : ∃ m, m = n % 65536 := ⟨_, rfl⟩
                have hm0 : 0 ≤ m := by omega
                have hm1 : m ≤ 65535 := by omega
                rw [← hm] at hu hrl hq0 hq1
                clear hm
                obtain ⟨q, hqq⟩ : ∃ q, q = m / 2 % (F : Int) := ⟨_, rfl⟩
                rw [← hqq] at hrl hq0 hq1
                have hqq' := hqq.symm
                clear hqq
                rcases Int.emod_two_eq n with hp | hp
                · rw [hp] at ha hrl
                  have HRL := Lib.hid hrl
                  clear hrl hp
                  go_wp2_with (at_builtin; refine wpList_append1 _ rfl _ _ 48 rfl wo.heap.size 3 i0 (.int .i64 0) 8 Try.underlying48 hi hz0 hz1 hz2 rfl _ _ _ rfl (HOWd.out.alloc _) (.int .i64 (1 + q)) wr.heap.size rfl (by go_cell) rfl (by unfold maxLen; omega) (by omega) (by simp; omega) ?_)
                  intro v' w3 hown3 hg3 hob3
                  obtain ⟨A3, c3, hv3, _⟩ := own_slice hown3
                  subst hv3
                  have HO3 := Lib.hid hown3
                  have HB3 := Lib.hid ((HBd.out.alloc (by omega) _).grown hg3 (by simp; omega) (fun g hg => (HOWd.out.lt g hg).1))
                  clear hown3 hg3 hob3
                  go_wp2
                  go_roundg (cs.length - j)
                  case measure => omega
                  case rel =>
                    refine ⟨j + 1, A3, c3, by omega, by omega, by go_num, rfl, by omega, fun h => by omega, ?_, HB3.out⟩
                    rw [HTJ.out, List.map_append, List.map_append]
                    have hr : rawLit F n = 1 + q := by rw [HRL.out]; rfl
                    simpa [hr] using HO3.out
                · rw [hp] at ha hrl
                  have HRL := Lib.hid hrl
                  clear hrl hp
                  go_wp2_with (at_builtin; refine wpList_append1 _ rfl _ _ 48 rfl wo.heap.size 3 i0 (.int .i64 0) 8 Try.underlying48 hi hz0 hz1 hz2 rfl _ _ _ rfl (HOWd.out.alloc _) (.int .i64 (-(1 + q))) wr.heap.size rfl (by go_cell) rfl (by unfold maxLen; omega) (by omega) (by simp; omega) ?_)
                  intro v' w3 hown3 hg3 hob3
                  obtain ⟨A3, c3, hv3, _⟩ := own_slice hown3
                  subst hv3
                  have HO3 := Lib.hid hown3
                  have HB3 := Lib.hid ((HBd.out.alloc (by omega) _).grown hg3 (by simp; omega) (fun g hg => (HOWd.out.lt g hg).1))
                  clear hown3 hg3 hob3
                  go_wp2
                  go_roundg (cs.length - j)
                  case measure => omega
                  case rel =>
                    refine ⟨j + 1, A3, c3, by omega, by omega, by go_num, rfl, by omega, fun h => by omega, ?_, HB3.out⟩
                    rw [HTJ.out, List.map_append, List.map_append]
                    have hr : rawLit F n = -(1 + q) := by rw [HRL.out]; rfl
                    simpa [hr] using HO3.out
          · go_wp2
            go_meet
            have hcl : rawClause F width cs = if F = 0 then [] else (cs.take width).map (rawLit F) := rfl
            by_cases hFz : F = 0
            · have hj0 : j = 0 := HF0.out hFz
              rw [if_pos hFz] at hcl
              subst hj0
              refine ⟨Ad, cd, by rw [hcl]; rfl, ?_, HBd.out⟩
              have := HOWd.out
              rw [hcl]; simpa using this
            · rw [if_neg hFz, List.take_of_length_le (by omega)] at hcl
              have e : j = ((cs.map (rawLit F))).length := by simp; omega
              have ho := HOWd.out
              rw [List.take_of_length_le (by omega)] at ho
              refine ⟨Ad, cd, by rw [hcl, ← e], ?_, HBd.out⟩
              rw [hcl, ← e]; exact ho
      case rest =>
        obtain ⟨Ad, cd, hs10, hown, hb⟩ := hcut
        have hl1 := (rawClause_len F width cs).1
        generalize hxs : rawClause F width cs = xs at hs10 hown hl1
        have HXS := Lib.hid hxs
        clear hxs
        subst hs10
        have HOWd := Lib.hid hown
        have HBd := Lib.hid hb
        have HBKc := Lib.hid (HBKr.out.below hb HBKr.out.lt)
        have HOWc := Lib.hid (own_below HOWr.out hb (fun g hg => (HOWr.out.lt g hg).2))
        have HLIc := Lib.hid (HLI.out.below hb (Nat.le_refl _))
        have hszc := hb.size
        have hsz1 : w.heap.size + 1 + 1 < wo.heap.size := HBKr.out.lt
        have hsz2 := HB2r.out.size
        have hgo : w1.heap.size ≤ wo.heap.size := hsz2
        clear hown hb C0 C1 CF
        have C1 := HBKc.out.cell 1
        simp at C1
        go_wp2_with (at_builtin; refine wpList_append1 _ rfl _ _ 30 rfl w1.heap.size 48 i0' (.slice none 0 0) 24 Try.underlying30 hi' hz0' hz1' hz2' rfl _ _ _ rfl (HOWc.out.alloc _) (.slice Ad xs.length cd) wc.heap.size rfl (by go_cell) rfl (by unfold maxLen; omega) (by omega) (by simp; omega) ?_)
        intro v' w3 hown3 hg3 hob3
        clear C1
        obtain ⟨A3, c3, hv3, _⟩ := own_slice hown3
        subst hv3
        have hbk3 := (HBKc.out.alloc (.cells #[.slice Ad xs.length cd] 48)).grown hg3 (own_blk_ne (w := wc.alloc (.cells #[.slice Ad xs.length cd] 48)) (HOWc.out.alloc _) (HBKc.out.alloc _) (by decide))
        have C1 := hbk3.cell 1
        have CF := hbk3.frozen
        simp at C1
        have HBK3 := Lib.hid hbk3
        have HO3 := Lib.hid hown3
        have HG3 := Lib.hid hg3
        clear hbk3 hown3 hg3 hob3
        go_wp2
        have hvl : vs.length = k := by have := HOWr.out.1; omega
        have hfl : (rawForm F width (nss.take k)).length = k := by rw [rawForm_len]; simp; omega
        have hla : OwnList (wc.alloc (.cells #[.slice Ad xs.length cd] 48)) w1.heap.size 3 vs (rawForm F width (nss.take k)) := HLIc.out.kept (World.grownBy_alloc _ _ none) (fun _ _ _ _ h => by cases h)
        have hl3 := hla.kept HG3.out (hla.ne_outer (HOWc.out.alloc _) (by decide))
        have hd3 := (HOWd.out.alloc (.cells #[.slice Ad xs.length cd] 48)).kept HG3.out (own_own_ne (w := wc.alloc (.cells #[.slice Ad xs.length cd] 48)) (HOWd.out.alloc _) (HOWc.out.alloc _) (by decide))
        have hl4 := hl3.snoc (by rw [hvl, hfl]) hd3 hgo (fun j g hj hg => (HLI.out.lt hj hg).2)
        have hl5 := hl4.kept (grown_setCell w3 ⟨w.heap.size + 1 + 1, 1, none⟩ (.slice A3 (k + 1) c3)) (hl4.ne_blk HBK3.out (by decide))
        have hb3 := ((HB2r.out.trans (HBd.out.mono (by omega))).alloc (by omega) (.cells #[.slice Ad xs.length cd] 48)).grown HG3.out (by simp; omega) (fun g hg => by have := (HOWc.out.lt g hg).1; have := HS.out; omega)
        go_roundg (nss.length - k)
        case measure => omega
        case rel =>
          refine ⟨k + 1, A3, c3, _, by omega, by omega, by go_num, ?_, own_setCell HO3.out _ (own_blk_ne HO3.out HBK3.out (by decide)), ?_, hb3.setCell (by simp) _⟩
          · have := HBK3.out.set_ 1 (.slice A3 (k + 1) c3); simpa using this
          · have e : rawForm F width (nss.take (k + 1)) = rawForm F width (nss.take k) ++ [xs] := by rw [HTK.out, ← HXS.out]; simp [rawForm]
            rw [e]; exact hl5
    · obtain rfl : k = nss.length := by omega
      have hres := HRES.out.below HB2r.out (by omega)
      have R0 := hres.cell 0
      have R1 := hres.cell 1
      have RF := hres.frozen
      simp at R0 R1
      have hd0 := (hres.set_ 0 (.int .i64 F)).cell 0
      have hd1 := ((hres.set_ 0 (.int .i64 F)).set_ 1 (.slice Af nss.length cf)).cell 1
      simp at hd0 hd1
      have HR' := Lib.hid hres
      clear hres
      go_wp2
      have hg1 : w.heap.size + 1 < wo.heap.size := HR'.out.lt
      refine bodyPost_ret (v := .agg #[.int .i64 F, .slice Af nss.length cf]) (by simp [results, Try.results11, go_sem, hd0, hd1]) rfl ?_
      have ho := HOWr.out
      have hne := own_blk_ne ho HR'.out (by decide)
      have hlist := HLI.out
      rw [List.take_length] at hlist
      have hs := HS.out
      have hl2 := (hlist.kept (grown_setCell _ ⟨w.heap.size + 1, 0, none⟩ (.int .i64 F)) (hlist.ne_blk HR'.out (by decide)))
      have hl3 := (hl2.kept (grown_setCell _ ⟨w.heap.size + 1, 1, none⟩ (.slice Af nss.length cf)) (hl2.ne_blk (HR'.out.set_ 0 (.int .i64 F)) (by decide)))
      have e : nss.length = (rawForm F width nss).length := (rawForm_len _ _ _).symm
      have hown := own_more (own_setCell (own_setCell ho (.int .i64 F) (p := ⟨w.heap.size + 1, 0, none⟩) hne) (.slice Af nss.length cf) (p := ⟨w.heap.size + 1, 1, none⟩) hne) (show w.heap.size ≤ w1.heap.size by omega)
      refine ⟨Af, cf, vs, by rw [← e], by rw [← e]; exact hown, ⟨fun j hj => ?_, hl3.ne⟩, (((HBel.out.trans (HB2r.out.mono (by omega)))).setCell (by simp) _).setCell (by simp) _⟩
      obtain ⟨Aj, cj, h1, h2⟩ := hl3.each j hj
      exact ⟨Aj, cj, h1, own_more h2 (by omega)⟩
end Go.Proofs.Ytllgepabjglnaaa
