/- The statement that a clause in one form stays so, and that its literals' order plays no part: the walk. -/
import Derived.Test.YtkncndddednipaaFit04
import Derived.Test.YtkncndddednipaaOpen04
namespace Go.Proofs.Ytkncndddednipaa
open Go.RowKit

/-- the literals, turned by t places -/
def rot (xs : List Int) (t k : Nat) : List Int := (List.range k).map fun i => xs.getD ((i + t) % xs.length) 0
theorem rot_succ (xs : List Int) (t k : Nat) : rot xs t (k + 1) = rot xs t k ++ [xs.getD ((k + t) % xs.length) 0] := by
  unfold rot; rw [List.range_succ, List.map_append]; rfl
theorem rot_len (xs : List Int) (t k : Nat) : (rot xs t k).length = k := by simp [rot]
theorem mem_rot {xs : List Int} {t : Nat} {y : Int} : y ∈ rot xs t xs.length ↔ y ∈ xs := by
  unfold rot
  rw [List.mem_map]
  constructor
  · rintro ⟨i, hi, rfl⟩
    have hi' : i < xs.length := by simpa using hi
    have hp : (i + t) % xs.length < xs.length := Nat.mod_lt _ (by omega)
    simp only [List.getD, List.getElem?_eq_getElem hp, Option.getD_some]
    exact List.getElem_mem hp
  · intro hm
    obtain ⟨p, hp, rfl⟩ := List.getElem_of_mem hm
    have hr := Nat.mod_lt t (show 0 < xs.length by omega)
    refine ⟨(p + (xs.length - t % xs.length)) % xs.length, by simpa using Nat.mod_lt _ (by omega), ?_⟩
    have e : ((p + (xs.length - t % xs.length)) % xs.length + t) % xs.length = p := by
      rw [Nat.mod_add_mod]
      have h := Nat.div_add_mod t xs.length
      rw [show p + (xs.length - t % xs.length) + t = p + xs.length + xs.length * (t / xs.length) by omega, Nat.add_mul_mod_self_left, Nat.add_mod_right]
      exact Nat.mod_eq_of_lt hp
    rw [e]
    simp [List.getD, hp]
theorem rot_norm (xs : List Int) (t : Nat) : normOf (rot xs t xs.length) = normOf xs := norm_eq_iff.2 fun _ => mem_rot
theorem rot_lits {xs : List Int} {t : Nat} (h : Lits xs) : Lits (rot xs t xs.length) := ⟨by rw [rot_len]; exact h.1, fun x hx => h.2 x (mem_rot.1 hx)⟩
theorem rot_taut (xs : List Int) (t : Nat) : tautOf (rot xs t xs.length) = tautOf xs := by rw [← tautOf_norm, rot_norm, tautOf_norm]

/-- the literals of small numbers -/
theorem clauseOf_lits {ns : List Int} (hn : ns.length ≤ 100) (hb : ∀ k, -128 ≤ ns.getD k 0 ∧ ns.getD k 0 ≤ 127) : Lits (clauseOf ns) := by
  refine ⟨by have := clauseOf_len ns; omega, fun x hx => ?_⟩
  have hm : x ∈ ns := (List.mem_filter.1 hx).1
  obtain ⟨k, hk, rfl⟩ := List.getElem_of_mem hm
  have := hb k
  simp only [List.getD, List.getElem?_eq_getElem hk, Option.getD_some] at this
  omega

set_option maxRecDepth 100000 in
set_option maxHeartbeats 800000 in
theorem twice_any (ns : List Int) (t : Nat) (B : Nat) (A : Option Addr) (c : Nat) (w : World) (hn : ns.length ≤ 9223372036854775807) (hb : ∀ k, -128 ≤ ns.getD k 0 ∧ ns.getD k 0 ≤ 127) (ht : t ≤ 255) (h : KInts .i8 w B A ns) (hB : B ≤ w.heap.size) :
    Calls Try.prog 7 #[.slice A ns.length c, .int .u8 t] w fun e w' => e = .returned (.bool true) ∧ Below w.heap.size w w' := by
  have H := Lib.hid h
  have HBD := Lib.hid hb
  clear h hb
  go_enter Try.func7, Try.ntmps7
  go_wp2_with fail
  refine (fit04_any _).mono ?_
  rintro e w1 ⟨rfl, hb1⟩
  have HB1 := Lib.hid hb1
  have hs1 := hb1.size
  clear hb1
  by_cases h60 : 60 < ns.length
  · go_wp2
    go_ret
    exact ⟨rfl, HB1.out⟩
  · go_wp2_with fail
    refine (clause_law_any ns B A c w1 (by omega) HBD.out (Cells.keep H.out fun p hp => HB1.out.cell (by omega)) (by omega)).mono ?_
    rintro e w2 ⟨Ac, cc, rfl, hown, hb⟩
    have hLx := clauseOf_lits (ns := ns) (by omega) HBD.out
    have hxl := clauseOf_len ns
    obtain ⟨xs, hxs⟩ : ∃ xs, xs = clauseOf ns := ⟨_, rfl⟩
    rw [← hxs] at hown hLx hxl ⊢
    have hx60 : xs.length ≤ 60 := by omega
    have HI2 : Hid (Ints w2 w2.heap.size Ac xs) := Lib.hid (ints_of_own hown)
    have HL := Lib.hid hLx
    have HB2 := Lib.hid (HB1.out.trans (hb.mono HB1.out.size))
    have hs2 := HB2.out.size
    clear hown hb hxs hLx hxl
    go_wp2_with fail
    refine (norm_clause_any xs w2.heap.size Ac cc w2 HL.out HI2.out (Nat.le_refl _)).mono ?_
    rintro e w3 ⟨Ax, cx, rfl, hown, hb⟩
    have hnl := norm_len xs
    have hLn := HL.out.norm
    obtain ⟨yn, hyn⟩ : ∃ yn, yn = normOf xs := ⟨_, rfl⟩
    rw [← hyn] at hown hnl hLn ⊢
    have HYN := Lib.hid hyn
    have HLN := Lib.hid hLn
    have HC3 : Hid (Ints w3 w2.heap.size Ac xs) := Lib.hid (Cells.below HI2.out hb)
    have HX3 : Hid (Ints w3 w3.heap.size Ax yn) := Lib.hid (ints_of_own hown)
    have HB3 := Lib.hid (HB2.out.trans (hb.mono HB2.out.size))
    have hs3 := hb.size
    clear hown hb hyn hLn
    obtain ⟨i0, hi, hz0, hz1, hz2⟩ := info_parts Try.infoInt3
    go_wp2
    go_loopw [7, 23] (fun v i wr => ∃ (k : Nat) (ds : List Int), k ≤ xs.length ∧ i = .int .i64 k ∧ Hid (ds = rot xs t k) ∧ ds.length = k ∧ wr.ownsRow w3.heap.size 3 1 v ds.length (ds.map (Value.int .i64)) ∧ Below w3.heap.size w3 wr) (fun _ i _ => xs.length - (intOf i).toNat)
    case atStart => exact ⟨0, [], by omega, rfl, Lib.hid rfl, rfl, World.ownsRow_nil _ _ _ _, Below.refl _ _⟩
    case round =>
      obtain ⟨k, ds, hk, rfl, HD, hdk, hown, hbel⟩ := hrel
      have HO := Lib.hid hown
      have HBel := Lib.hid hbel
      have hsz := hbel.size
      have HDK := Lib.hid hdk
      clear hown hbel
      by_cases hlt : k < xs.length
      · obtain ⟨p, hp⟩ : ∃ p, p = (k + t) % xs.length := ⟨_, rfl⟩
        have hpl : p < xs.length := by rw [hp]; exact Nat.mod_lt _ (by omega)
        have hpi : ((k : Int) + (t : Int)) % (xs.length : Int) = (p : Int) := by rw [hp]; simp
        obtain ⟨b, off, hAc, _, hcell⟩ := Cells.at_ (Cells.below HC3.out (HBel.out.mono hs3)) hpl
        have hrs := rot_succ xs t k
        rw [← hp, ← HD.out] at hrs
        obtain ⟨x, hx⟩ : ∃ x, x = xs.getD p 0 := ⟨_, rfl⟩
        rw [← hx] at hcell hrs
        have HRS := Lib.hid hrs
        have HAC := Lib.hid hAc
        subst hAc
        clear hx hp hrs hdk
        have hx0 : ¬ ((xs.length : Int) = 0) := by omega
        have hdl := HDK.out
        go_wp2_with (at_builtin; refine wpList_append1 _ rfl _ _ 24 rfl w3.heap.size 3 i0 (.int .i64 0) 8 Try.underlying24 hi hz0 hz1 hz2 rfl _ _ _ rfl (HO.out.alloc _) (.int .i64 x) wr.heap.size rfl (by go_cell) rfl (by unfold maxLen; omega) (by omega) (by simp; omega) ?_)
        intro v' w4 hown1 hg1 _
        have hb1 := (HBel.out.alloc (by omega) _).grown hg1 (by simp; omega) (fun k hk => (HO.out.lt k hk).1)
        have HO1 := Lib.hid hown1
        have HB1' := Lib.hid hb1
        clear hown1 hg1 hb1
        go_wp2
        go_roundw
        case rel =>
          refine ⟨k + 1, ds ++ [x], by omega, by go_num, Lib.hid HRS.out.symm, by simp; omega, ?_, HB1'.out⟩
          have := HO1.out
          rw [List.map_append, List.length_append, HDK.out]
          exact this
        case measure => simp [intOf]; omega
      · obtain rfl : k = xs.length := by omega
        obtain ⟨wo, rfl⟩ : ∃ wo : World, wo = wr := ⟨_, rfl⟩
        have hLd : Lits ds := by rw [HD.out]; exact rot_lits HL.out
        have hnd : normOf ds = yn := by rw [HD.out, rot_norm, HYN.out]
        have htd : tautOf ds = tautOf xs := by rw [HD.out, rot_taut]
        have hty : tautOf yn = tautOf xs := by rw [HYN.out, tautOf_norm]
        have hny : normOf yn = yn := by rw [HYN.out, norm_norm]
        have hsd : (normOf xs == normOf ds) = true := by rw [hnd, HYN.out]; simp
        obtain ⟨Ad, cd, hv, _⟩ := own_slice HO.out
        have ho := HO.out
        rw [hv] at ho ⊢
        have HId : Hid (Ints wo wo.heap.size Ad ds) := Lib.hid (ints_of_own ho)
        have HIc : Hid (Ints wo wo.heap.size Ac xs) := Lib.hid (Cells.more (Cells.below HC3.out (HBel.out.mono hs3)) (by omega))
        have HIx : Hid (Ints wo wo.heap.size Ax yn) := Lib.hid (Cells.more (Cells.below HX3.out HBel.out) (by omega))
        have HBr := Lib.hid (HB3.out.trans (HBel.out.mono HB3.out.size))
        have HLD := Lib.hid hLd
        have HND := Lib.hid hnd
        have HTD := Lib.hid htd
        have HTY := Lib.hid hty
        have HNY := Lib.hid hny
        have HSD := Lib.hid hsd
        have hdl := HDK.out
        clear hLd hnd htd hty hny hsd hv ho HO hdk HB1 HB2 HB3 HBel HD HDK
        go_wp2_with fail
        have hr := norm_clause_any ds wo.heap.size Ad cd wo HLD.out HId.out (Nat.le_refl _)
        rw [HND.out, hdl] at hr
        refine hr.mono ?_
        clear hr
        rintro e w5 ⟨Ay, cy, rfl, hown, hb⟩
        have HIy : Hid (Ints w5 w5.heap.size Ay yn) := Lib.hid (ints_of_own hown)
        have HIx5 : Hid (Ints w5 wo.heap.size Ax yn) := Lib.hid (Cells.below HIx.out hb)
        have HId5 : Hid (Ints w5 wo.heap.size Ad ds) := Lib.hid (Cells.below HId.out hb)
        have HIc5 : Hid (Ints w5 wo.heap.size Ac xs) := Lib.hid (Cells.below HIc.out hb)
        have HB5 := Lib.hid (HBr.out.trans (hb.mono HBr.out.size))
        have hs5 := hb.size
        clear hown hb HId HIc HIx HBr
        go_wp2_with fail
        have hr := norm_clause_any yn wo.heap.size Ax cx w5 HLN.out HIx5.out hs5
        rw [HNY.out] at hr
        refine hr.mono ?_
        clear hr
        rintro e w6 ⟨Az, cz, rfl, hown, hb⟩
        have HIz : Hid (Ints w6 w6.heap.size Az yn) := Lib.hid (ints_of_own hown)
        have HIy6 : Hid (Ints w6 w5.heap.size Ay yn) := Lib.hid (Cells.below HIy.out hb)
        have HIx6 : Hid (Ints w6 wo.heap.size Ax yn) := Lib.hid (Cells.below HIx5.out (hb.mono hs5))
        have HId6 : Hid (Ints w6 wo.heap.size Ad ds) := Lib.hid (Cells.below HId5.out (hb.mono hs5))
        have HIc6 : Hid (Ints w6 wo.heap.size Ac xs) := Lib.hid (Cells.below HIc5.out (hb.mono hs5))
        have HB6 := Lib.hid (HB5.out.trans (hb.mono HB5.out.size))
        have hs6 := hb.size
        clear hown hb HIy HIx5 HId5 HIc5 HB5
        go_wp2
        go_loopg [58] (yn.length + 1) (fun g i w' => ∃ k m : Nat, w' = w6.drewN m ∧ k ≤ yn.length ∧ g = yn.length - k + 1 ∧ i = .int .i64 k)
        case atStart => exact ⟨0, 0, rfl, by omega, by omega, rfl⟩
        case round =>
          obtain ⟨k, m, hw, hk, rfl, rfl⟩ := hrel
          by_cases hlt : k < yn.length
          · obtain ⟨b1, o1, hA1, _, hc1⟩ := Cells.at_ HIx6.out hlt
            obtain ⟨b2, o2, hA2, _, hc2⟩ := Cells.at_ HIy6.out hlt
            obtain ⟨b3, o3, hA3, _, hc3⟩ := Cells.at_ HIz.out hlt
            obtain ⟨y, hy⟩ : ∃ y, y = yn.getD k 0 := ⟨_, rfl⟩
            rw [← hy] at hc1 hc2 hc3
            have d1 : wr.cell? ⟨b1, o1 + k, none⟩ = some (.int .i64 y) := by rw [hw]; exact hc1
            have d2 : wr.cell? ⟨b2, o2 + k, none⟩ = some (.int .i64 y) := by rw [hw]; exact hc2
            have d3 : wr.cell? ⟨b3, o3 + k, none⟩ = some (.int .i64 y) := by rw [hw]; exact hc3
            have HW := Lib.hid hw
            subst hA1 hA2 hA3
            clear hw hy hc1 hc2 hc3
            go_wp2
            go_quiet (fail)
            go_wp2
            go_roundg (yn.length - k)
            case measure => omega
            case rel => exact ⟨k + 1, _, by rw [HW.out, World.drewN_drewN], by omega, by omega, by go_num⟩
          · have HIx7 : Hid (Ints wr wo.heap.size Ax yn) := Lib.hid (by rw [hw]; exact HIx6.out)
            have HId7 : Hid (Ints wr wo.heap.size Ad ds) := Lib.hid (by rw [hw]; exact HId6.out)
            have HIc7 : Hid (Ints wr wo.heap.size Ac xs) := Lib.hid (by rw [hw]; exact HIc6.out)
            have HB7 : Hid (Below w.heap.size w wr) := Lib.hid (by rw [hw]; exact below_drewN HB6.out _)
            have hs7 : wo.heap.size ≤ wr.heap.size := by rw [hw]; show _ ≤ w6.heap.size; omega
            clear hw HIx6 HId6 HIc6 HIy6 HIz HB6
            go_wp2_with fail
            refine (tautology_any xs _ Ac cc wr HL.out HIc7.out hs7).mono ?_
            rintro e w7 ⟨rfl, hb⟩
            have HIx8 : Hid (Ints w7 wo.heap.size Ax yn) := Lib.hid (Cells.below HIx7.out (hb.mono hs7))
            have HId8 : Hid (Ints w7 wo.heap.size Ad ds) := Lib.hid (Cells.below HId7.out (hb.mono hs7))
            have HIc8 : Hid (Ints w7 wo.heap.size Ac xs) := Lib.hid (Cells.below HIc7.out (hb.mono hs7))
            have HB8 := Lib.hid (HB7.out.trans (hb.mono HB7.out.size))
            have hs8 := hb.size
            clear hb HIx7 HId7 HIc7 HB7
            go_wp2_with fail
            have hr := tautology_any ds _ Ad cd w7 HLD.out HId8.out (by omega)
            rw [HTD.out, hdl] at hr
            refine hr.mono ?_
            clear hr
            rintro e w8 ⟨rfl, hb⟩
            have HIx9 : Hid (Ints w8 wo.heap.size Ax yn) := Lib.hid (Cells.below HIx8.out (hb.mono (by omega)))
            have HId9 : Hid (Ints w8 wo.heap.size Ad ds) := Lib.hid (Cells.below HId8.out (hb.mono (by omega)))
            have HIc9 : Hid (Ints w8 wo.heap.size Ac xs) := Lib.hid (Cells.below HIc8.out (hb.mono (by omega)))
            have HB9 := Lib.hid (HB8.out.trans (hb.mono HB8.out.size))
            have hs9 := hb.size
            clear hb HIx8 HId8 HIc8 HB8
            obtain ⟨tb, htb⟩ : ∃ tb, tb = tautOf xs := ⟨_, rfl⟩
            rw [← htb] at HTY ⊢
            go_wp2_with fail
            have hr := tautology_any yn _ Ax cx w8 HLN.out HIx9.out (by omega)
            rw [HTY.out] at hr
            refine hr.mono ?_
            clear hr
            rintro e w9 ⟨rfl, hb⟩
            have HId10 : Hid (Ints w9 wo.heap.size Ad ds) := Lib.hid (Cells.below HId9.out (hb.mono (by omega)))
            have HIc10 : Hid (Ints w9 wo.heap.size Ac xs) := Lib.hid (Cells.below HIc9.out (hb.mono (by omega)))
            have HB10 := Lib.hid (HB9.out.trans (hb.mono HB9.out.size))
            have hs10 := hb.size
            clear hb HIx9 HId9 HIc9 HB9
            go_wp2_with fail
            have hr := tautology_any xs _ Ac cc w9 HL.out HIc10.out (by omega)
            rw [← htb] at hr
            refine hr.mono ?_
            clear hr
            rintro e w10 ⟨rfl, hb⟩
            have HId11 : Hid (Ints w10 wo.heap.size Ad ds) := Lib.hid (Cells.below HId10.out (hb.mono (by omega)))
            have HIc11 : Hid (Ints w10 wo.heap.size Ac xs) := Lib.hid (Cells.below HIc10.out (hb.mono (by omega)))
            have HB11 := Lib.hid (HB10.out.trans (hb.mono HB10.out.size))
            have hs11 := hb.size
            clear hb HId10 HIc10 HB10
            go_wp2_with fail
            have hr := same_norm_any xs ds _ _ Ac Ad cc cd w10 HL.out HLD.out HIc11.out HId11.out (by omega) (by omega)
            rw [HSD.out, hdl] at hr
            refine hr.mono ?_
            clear hr
            rintro e w11 ⟨rfl, hb⟩
            have HB12 := Lib.hid (HB11.out.trans (hb.mono HB11.out.size))
            clear hb
            go_wp2
            go_ret
            exact ⟨rfl, HB12.out⟩

theorem u8_nat {u : Int} (h : (Lit.int .u8 u).wf = true) : ∃ v : Nat, u = v ∧ v ≤ 255 := by
  have := bounds_u8 h
  exact ⟨u.toNat, by omega, by omega⟩
theorem twice_raw (a : Option Addr) (len cap : Nat) (z : Nat → Int) (t : Int) (W : World) (h : IsInts .i8 W a len cap z) (ht : (Lit.int .u8 t).wf = true) :
    Calls Try.prog 7 #[.slice a len cap, .int .u8 t] W fun e w' => e = .returned (.bool true) ∧ Below W.heap.size W w' := by
  obtain ⟨ns, rfl, hl, hk, hw⟩ := kints_of h
  obtain ⟨v, rfl, hv⟩ := u8_nat ht
  exact twice_any ns v _ a cap W (by unfold maxLen at hl; omega) (i8_bounds hw) hv hk (Nat.le_refl _)
end Go.Proofs.Ytkncndddednipaa
