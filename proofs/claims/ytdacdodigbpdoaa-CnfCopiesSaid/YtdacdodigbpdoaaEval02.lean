/- The statement that an assignment satisfies a formula just if it satisfies each clause: walked. -/
import Derived.Test.YtdacdodigbpdoaaFit02
import Derived.Test.YtdacdodigbpdoaaRawForm
import Derived.OpenShut
namespace Go.Proofs.Ytdacdodigbpdoaa
open Go.RowKit

theorem unsUpto_get {z : List Bool} {xss : List (List Int)} {i : Nat} (hs : clauseSat z (xss.getD i []) = false) : ∀ n, i < n → (unsUpto z xss n)[(unsUpto z xss i).length]? = some i := by
  intro n
  induction n with
  | zero => intro h; omega
  | succ n ih =>
    intro h
    by_cases hin : i = n
    · subst hin
      rw [unsUpto_hit hs]; simp
    · have h1 := ih (by omega)
      have hl : (unsUpto z xss i).length < (unsUpto z xss n).length := (List.getElem?_eq_some_iff.1 h1).1
      rcases hc : clauseSat z (xss.getD n []) with _ | _
      · rw [unsUpto_hit hc, List.getElem?_append_left hl]; exact h1
      · rw [unsUpto_skip hc]; exact h1
theorem unsUpto_zero (z : List Bool) (xss : List (List Int)) : ((unsUpto z xss xss.length).length == 0) = formSat z xss := by
  have key : ∀ k, k ≤ xss.length → ((unsUpto z xss k).length == 0) = (xss.take k).all (clauseSat z) := by
    intro k
    induction k with
    | zero => intro _; simp [unsUpto]
    | succ k ih =>
      intro hk
      have e : xss.take (k + 1) = xss.take k ++ [xss.getD k []] := by rw [List.take_succ_eq_append_getElem (by omega)]; simp [List.getD, show k < xss.length by omega]
      rw [e, List.all_append, ← ih (by omega)]
      rcases hc : clauseSat z (xss.getD k []) with _ | _
      · rw [unsUpto_hit hc]; simp only [List.all_cons, List.all_nil, hc]; simp
      · rw [unsUpto_skip hc]; simp only [List.all_cons, List.all_nil, hc, Bool.and_true]
  have := key xss.length (Nat.le_refl _)
  rwa [List.take_length] at this

/-- what is known of a light raw formula -/
theorem raw_facts {F width k : Nat} {nss : List (List Int)} (hw : width ≤ 1000) (hF : F ≤ 1000) (hk : k ≤ 1000) (h : light nss k = true) :
    (rawForm F width nss).length ≤ k ∧ (∀ j, ((rawForm F width nss).getD j []).length ≤ width) ∧ (∀ j i, -(F : Int) ≤ ((rawForm F width nss).getD j []).getD i 0 ∧ ((rawForm F width nss).getD j []).getD i 0 ≤ F) ∧
      litCount (rawForm F width nss) ≤ 10 * k ∧ Wides (rawForm F width nss) := by
  obtain ⟨h1, h2⟩ := light_iff.1 h
  have hb : ∀ j, ∀ l ∈ (rawForm F width nss).getD j [], -(F : Int) ≤ l ∧ l ≤ F := by
    intro j l hl
    rw [rawForm_getD] at hl
    have := rawClause_bd hl
    exact ⟨this.2.2.1, this.2.2.2⟩
  have hlen : ∀ j, ((rawForm F width nss).getD j []).length ≤ width := fun j => by rw [rawForm_getD]; exact (rawClause_len F width _).2
  refine ⟨by rw [rawForm_len]; exact h2, hlen, fun j i => ?_, by have := rawForm_count F width nss; omega, wides_of (by rw [rawForm_len]; omega) fun xs hxs => ?_⟩
  · by_cases hi : i < ((rawForm F width nss).getD j []).length
    · have := hb j _ (List.getElem_mem hi)
      rw [show ((rawForm F width nss).getD j []).getD i 0 = ((rawForm F width nss).getD j [])[i] by rw [List.getD, List.getElem?_eq_getElem hi]; rfl]
      exact this
    · rw [show ((rawForm F width nss).getD j []).getD i 0 = 0 by rw [List.getD, List.getElem?_eq_none (by omega)]; rfl]
      omega
  · obtain ⟨j, hj, rfl⟩ := List.mem_iff_getElem.1 hxs
    have e : (rawForm F width nss).getD j [] = (rawForm F width nss)[j] := by simp [List.getD, hj]
    rw [← e]
    refine ⟨by have := hlen j; omega, fun x hx => ?_⟩
    have := hb j x hx
    omega
theorem light_small {nss : List (List Int)} {k : Nat} (h : light nss k = true) (hk : k ≤ 1000) : nss.length ≤ 1099511627776 ∧ ∀ j, (nss.getD j []).length ≤ 1099511627776 := by
  obtain ⟨h1, h2⟩ := light_iff.1 h
  refine ⟨by omega, fun j => ?_⟩
  by_cases hj : j < nss.length
  · have h3 := litCount_take hj
    have h4 := litCount_take_le nss (j + 1)
    omega
  · rw [List.getD, List.getElem?_eq_none (by omega)]; simp

/-- does it satisfy: both ways -/
theorem sat_yes (V : Nat) (xss : List (List Int)) (B B' : Nat) (A A' : Option Addr) (z : List Bool) (c c' : Nat) (w : World) (hxw : Wides xss) (hV : V ≤ 1000000) (hzl : z.length = V)
    (h : Rows w B A xss) (hz : Bools w B' A' z) (hB : B ≤ w.heap.size) (hB' : B' ≤ w.heap.size) :
    Calls Try.prog 14 #[.agg #[.int .i64 V, .slice A xss.length c], .slice A' V c'] w fun e w' => e = .returned (.bool (formSat z xss)) ∧ Below w.heap.size w w' := by
  subst hzl
  have := satisfies_any (z.length : Int) xss B B' A A' z c c' w hxw (by omega) h hz hB hB'
  rw [nextUns_all] at this
  simpa using this
theorem sat_no (V n : Nat) (xss : List (List Int)) (B B' : Nat) (A A' : Option Addr) (z : List Bool) (c c' : Nat) (w : World) (hxw : Wides xss) (hn : n ≤ 1000000) (hzl : z.length = n) (hne : n ≠ V)
    (h : Rows w B A xss) (hz : Bools w B' A' z) (hB : B ≤ w.heap.size) (hB' : B' ≤ w.heap.size) :
    Calls Try.prog 14 #[.agg #[.int .i64 V, .slice A xss.length c], .slice A' n c'] w fun e w' => e = .returned (.bool false) ∧ Below w.heap.size w w' := by
  subst hzl
  have := satisfies_any (V : Int) xss B B' A A' z c c' w hxw (by omega) h hz hB hB'
  have e : ((z.length : Int) == (V : Int)) = false := by simp; omega
  rw [e] at this
  simpa using this

theorem ints_at7 {w : World} {base c n : Nat} {A : Option Addr} {us : List Nat} {v : Value} (h : w.ownsRow base 3 1 v n (us.map fun j : Nat => .int .i64 j)) (hv : v = .slice A n c) : Cells w w.heap.size A n fun j => .int .i64 (us.getD j 0 : Nat) := by
  subst hv
  refine (cells_of_own h undef).congr fun j hj => ?_
  have hl := h.1
  simp at hl
  simp [List.getD, show j < us.length by omega]

set_option maxHeartbeats 800000 in
theorem evaluates_any (v : Nat) (nss : List (List Int)) (A : Option Addr) (c : Nat) (bits extra : Int) (w : World) (hv : v ≤ 255) (he0 : 0 ≤ extra) (he1 : extra ≤ 255)
    (hx : nss.length ≤ 140737488355328) (hl : ∀ j, (nss.getD j []).length ≤ 140737488355328) (hn : ∀ j k, -32768 ≤ (nss.getD j []).getD k 0 ∧ (nss.getD j []).getD k 0 ≤ 32767) (h : KRows .i16 w w.heap.size A nss) :
    Calls Try.prog 3 #[.agg #[.int .u8 v, .slice A nss.length c], .int .u16 bits, .int .u8 extra] w fun e w' => e = .returned (.bool true) ∧ Below w.heap.size w w' := by
  have H := Lib.hid h
  have HL := Lib.hid hl
  have HN := Lib.hid hn
  clear h hl hn
  go_enter Try.func3, Try.ntmps3
  go_wp2_with fail
  obtain ⟨w1, hw1⟩ : ∃ w1, w1 = w.alloc (Obj.cells #[Value.int IntKind.u8 v, Value.slice A nss.length c] 24) := ⟨_, rfl⟩
  have HR1 := Lib.hid (show KRows .i16 w1 w.heap.size A nss by rw [hw1]; exact H.out.alloc (Nat.le_refl _) _)
  have HB1 := Lib.hid (show Below w.heap.size w w1 by rw [hw1]; exact (Below.refl _ _).alloc (Nat.le_refl _) _)
  have HK1 := Lib.hid (show Blk w1 w.heap.size 24 #[Value.int IntKind.u8 v, Value.slice A nss.length c] by rw [hw1]; exact Blk.new w _ _)
  rw [← hw1]
  clear hw1
  refine (fit02_any w1).mono ?_
  rintro e w2 ⟨rfl, hb2⟩
  have HR2 := Lib.hid (HR1.out.below (hb2.mono HB1.out.size))
  have HB2 := Lib.hid (HB1.out.trans (hb2.mono HB1.out.size))
  have HK2 := Lib.hid (HK1.out.below hb2 HK1.out.lt)
  clear hb2 HR1 HB1 HK1
  have k0 := HK2.out.cell 0
  have k1 := HK2.out.cell 1
  simp at k0 k1
  go_wp2_with fail
  refine (light_any v nss _ A c 40 w2 (by omega) hx HL.out HR2.out HB2.out.size).mono ?_
  rintro e w3 ⟨rfl, hb3⟩
  have HR3 := Lib.hid (HR2.out.below (hb3.mono HB2.out.size))
  have HB3 := Lib.hid (HB2.out.trans (hb3.mono HB2.out.size))
  have HK3 := Lib.hid (HK2.out.below hb3 HK2.out.lt)
  clear hb3 HR2 HB2 HK2 k0 k1
  have k0 := HK3.out.cell 0
  have k1 := HK3.out.cell 1
  simp at k0 k1
  rcases hlt : light nss 40 with _ | _
  · go_wp2
    go_ret
    exact ⟨rfl, HB3.out⟩
  · have hls := light_small hlt (by omega)
    have HLT := Lib.hid hlt
    clear hlt
    go_wp2_with fail
    refine (formula_any v nss _ A c 12 9 w3 hv (by omega) (by omega) hls.1 hls.2 HN.out HR3.out HB3.out.size).mono ?_
    have hF : v % (12 + 1) ≤ 12 := by omega
    obtain ⟨F, hFF⟩ : ∃ F, F = v % (12 + 1) := ⟨_, rfl⟩
    rw [← hFF] at hF ⊢
    clear hFF
    have hrf := raw_facts (F := F) (width := 9) (by omega) (by omega) (by omega) HLT.out
    obtain ⟨xss, hxs⟩ : ∃ xss, xss = rawForm F 9 nss := ⟨_, rfl⟩
    rw [← hxs] at hrf ⊢
    clear hxs
    obtain ⟨hx1, hx2, hx3, hx4, hx5⟩ := hrf
    rintro e w4 ⟨A4, c4, vs, rfl, hown4, hlist4, hb4⟩
    have HX2 := Lib.hid hx2
    have HX3 := Lib.hid hx3
    have HX5 := Lib.hid hx5
    have HB4 := Lib.hid (HB3.out.trans (hb4.mono HB3.out.size))
    have HRO4 := Lib.hid (hlist4.rows hown4)
    clear hx2 hx3 hx5 hown4 hlist4 hb4 HR3 HB3 HK3 k0 k1 hls
    have hmk := run_make_row' (P := Try.prog) 32 4 (.bool false) 1 Try.underlying32 Try.infoBool rfl .i64 .i64 F (by omega) (by omega)
    go_wp2
    obtain ⟨w5, hw5⟩ : ∃ w5, w5 = (w4.alloc (Obj.cells #[Value.int IntKind.i64 F, Value.slice A4 xss.length c4] 30)).alloc (Obj.cells (madeCells #[Value.bool false] F) 4) := ⟨_, rfl⟩
    have HBK5 := Lib.hid (show BlkB w5 (w4.heap.size + 1) 4 (List.replicate F false) by
      rw [hw5, madeBools]
      have := Blk.new (w4.alloc (Obj.cells #[Value.int IntKind.i64 F, Value.slice A4 xss.length c4] 30)) 4 (boolCells (List.replicate F false))
      simp only [World.size_alloc] at this
      exact this)
    have HFB5 := Lib.hid (show Blk w5 w4.heap.size 30 #[Value.int IntKind.i64 F, Value.slice A4 xss.length c4] by rw [hw5]; exact (Blk.new w4 _ _).alloc _)
    have HRO5 := Lib.hid (show Rows w5 w4.heap.size A4 xss by rw [hw5]; exact (HRO4.out.alloc (Nat.le_refl _) _).alloc (by simp) _)
    have HB5 := Lib.hid (show Below w.heap.size w w5 by rw [hw5]; exact (HB4.out.alloc HB4.out.size _).alloc (by have := HB4.out.size; simp; omega) _)
    have HS5 := Lib.hid (show w5.heap.size = w4.heap.size + 2 by rw [hw5]; simp)
    have hs4 := HB4.out.size
    rw [← hw5]
    clear hw5 hmk HRO4 HB4
    go_loopg [28] (F + 1) (fun gk i wr => ∃ (j : Nat) (z : List Bool), j ≤ F ∧ gk = F - j + 1 ∧ i = .int .i64 j ∧ Hid (z.length = F) ∧ BlkB wr (w4.heap.size + 1) 4 z ∧ w5.grownBy wr (some (w4.heap.size + 1)))
    case atStart => exact ⟨0, _, by omega, by omega, rfl, Lib.hid (by simp), HBK5.out, World.grownBy.refl _ _⟩
    case round =>
      obtain ⟨j, z, hj, rfl, rfl, hz, hbk, hgr⟩ := hrel
      have HBKr := Lib.hid hbk
      have HGr := Lib.hid hgr
      clear hbk hgr HBK5
      by_cases hjl : j < F
      · have hc : wr.cell? ⟨w4.heap.size + 1, j, none⟩ = some (.bool (z.getD j false)) := HBKr.out.cell (by rw [hz.out]; omega)
        have hf : wr.frozen? ⟨w4.heap.size + 1, j, none⟩ = false := HBKr.out.frozen j
        obtain ⟨zj, hzj⟩ : ∃ zj, zj = z.getD j false := ⟨_, rfl⟩
        rw [← hzj] at hc
        clear hzj
        go_wp2
        go_roundg (F - j)
        case measure => omega
        case rel => exact ⟨j + 1, _, by omega, by omega, by go_num, Lib.hid (by simp [hz.out]), HBKr.out.set_ j _, grown_trans HGr.out (grown_setCell _ ⟨w4.heap.size + 1, j, none⟩ _)⟩
      · have hne : ∀ p : Addr, p.block < w4.heap.size + 1 → wr.cell? p = w5.cell? p := fun p hp => World.cell?_of_block (HGr.out.block p.block (by rw [HS5.out]; omega) (fun e => by injection e; omega))
        have HFB6 := Lib.hid (HFB5.out.grown HGr.out (fun e => by injection e; omega))
        have HRO6 := Lib.hid (HRO5.out.keep fun p hp => hne p (by omega))
        have HB6 := Lib.hid (HB5.out.trans (below_of_grown (B := w.heap.size) HGr.out (by rw [HS5.out]; omega) (by omega)))
        have HZ6 := Lib.hid HBKr.out.bools
        have f0 := HFB6.out.cell 0
        have f1 := HFB6.out.cell 1
        simp at f0 f1
        have hgl := HBKr.out.lt
        clear hne HFB5 HRO5 HB5 HGr
        obtain ⟨w6, rfl⟩ : ∃ w6 : World, w6 = wr := ⟨_, rfl⟩
        have hun := unsatisfied_any F xss w4.heap.size w6.heap.size A4 (some ⟨w4.heap.size + 1, 0, none⟩) z c4 F w6 HX5.out (by omega) (by rw [hz.out]; omega) HRO6.out HZ6.out (by omega) (Nat.le_refl _)
        rw [hz.out] at hun
        have HUN := Lib.hid hun
        clear hun
        have hjF : j = F := by omega
        clear hj hjl
        go_wp2_with fail
        refine HUN.out.mono ?_
        clear HUN f0 f1
        rintro e w7 ⟨l, rfl, hown7, hb7⟩
        obtain ⟨Al, cl, hl, _⟩ := own_slice hown7
        have HL7 := Lib.hid (ints_at7 hown7 hl)
        have HFB7 := Lib.hid (HFB6.out.below hb7 HFB6.out.lt)
        have HRO7 := Lib.hid (HRO6.out.below (hb7.mono (by omega)))
        have HB7 := Lib.hid (HB6.out.trans (hb7.mono HB6.out.size))
        have HZ7 := Lib.hid (HZ6.out.below hb7)
        have hs7 := hb7.size
        have hnl := unsUpto_len z xss xss.length
        subst hl
        clear hown7 hb7 HFB6 HRO6 HB6 HZ6 HBKr
        obtain ⟨nl, hnl'⟩ : ∃ nl, nl = (unsUpto z xss xss.length).length := ⟨_, rfl⟩
        rw [← hnl'] at hnl HL7 ⊢
        have HNL := Lib.hid hnl'
        clear hnl'
        have f1 := HFB7.out.cell 1
        simp at f1
        go_wp2
        clear f1
        go_loopg [11, 46] (xss.length + 1) (fun gk k i wr => ∃ j : Nat, j ≤ xss.length ∧ gk = xss.length - j + 1 ∧ i = .int .i64 j ∧ k = .int .i64 (unsUpto z xss j).length ∧ Below w7.heap.size w7 wr)
        case atStart => exact ⟨0, by omega, by omega, rfl, rfl, Below.refl _ _⟩
        case round =>
          obtain ⟨i, hi, rfl, rfl, rfl, hb⟩ := hrel
          have HBr := Lib.hid hb
          have hsr := hb.size
          have HFBr := Lib.hid (HFB7.out.below hb HFB7.out.lt)
          have HROr := Lib.hid (HRO7.out.below (hb.mono (by omega)))
          have HZr := Lib.hid (HZ7.out.below (hb.mono hs7))
          have HLr := Lib.hid (HL7.out.below hb)
          have HBw := Lib.hid (HB7.out.trans (hb.mono HB7.out.size))
          clear hb
          have hnk := unsUpto_len z xss i
          obtain ⟨k, hk⟩ : ∃ k, k = (unsUpto z xss i).length := ⟨_, rfl⟩
          rw [← hk] at hnk ⊢
          have HK := Lib.hid hk
          clear hk
          have f0 := HFBr.out.cell 0
          have f1 := HFBr.out.cell 1
          simp at f0 f1
          by_cases hil : i < xss.length
          · obtain ⟨b, off, Ai, ci, hA, hbB, hci, hii⟩ := HROr.out.at_ hil
            subst hA
            have hxi := HX2.out i
            have hxb := HX3.out i
            have hxw := HX5.out.2 i
            have hskip := unsUpto_skip (z := z) (xss := xss) (k := i)
            have hhit := unsUpto_hit (z := z) (xss := xss) (k := i)
            have hget := fun h => unsUpto_get (z := z) (xss := xss) (i := i) h xss.length hil
            obtain ⟨xs, hxs⟩ : ∃ xs, xs = xss.getD i [] := ⟨_, rfl⟩
            rw [← hxs] at hci hii hxi hxw hskip hhit hget
            simp only [← hxs] at hxb
            clear hxs
            have HII := Lib.hid hii
            have HXB := Lib.hid hxb
            have HXW := Lib.hid hxw
            have HSKIP := Lib.hid hskip
            have HHIT := Lib.hid hhit
            have HGET := Lib.hid hget
            clear hii hxb hxw hskip hhit hget
            go_wp2_with fail
            obtain ⟨w8, hw8⟩ : ∃ w8, w8 = wr.alloc (Obj.cells #[Value.slice Ai xs.length ci] 33) := ⟨_, rfl⟩
            have hdh := docholds_any F [xs] w8.heap.size w8.heap.size (some ⟨wr.heap.size, 0, none⟩) (some ⟨w4.heap.size + 1, 0, none⟩) z 1 F w8 (by simp) (fun j => by match j with | 0 => simpa using (by omega) | j + 1 => simp)
              (fun j k => by match j with | 0 => (have := HXB.out k; simpa [hz.out] using this) | j + 1 => simp) (by rw [hz.out]; omega)
              (by rw [hw8]; exact rows_blk (vs := [Value.slice Ai xs.length ci]) (Blk.new wr 33 _) (by simp) (fun j hj => by match j, hj with | 0, _ => exact ⟨Ai, ci, rfl, Cells.more (Cells.alloc HII.out (by omega) _) (by simp; omega)⟩))
              (by rw [hw8]; exact Cells.more (Cells.alloc HZr.out (by omega) _) (by simp; omega)) (Nat.le_refl _) (Nat.le_refl _)
            rw [hz.out] at hdh
            have HB8 := Lib.hid (show Below w7.heap.size w7 w8 by rw [hw8]; exact HBr.out.alloc hsr _)
            have HII8 := Lib.hid (show Ints w8 w4.heap.size Ai xs by rw [hw8]; exact Cells.alloc HII.out (by omega) _)
            rw [← hw8]
            have hs8 : w8.heap.size = wr.heap.size + 1 := by rw [hw8]; simp
            clear hw8
            have hfs : formSat z [xs] = clauseSat z xs := by simp [formSat]
            rw [hfs] at hdh
            clear hfs
            refine hdh.mono ?_
            clear hdh f0 f1
            rintro e w9 ⟨rfl, hb9⟩
            have HB9 := Lib.hid (HB8.out.trans (hb9.mono (by omega)))
            have HII9 := Lib.hid (Cells.below HII8.out (hb9.mono (by omega)))
            clear hb9
            have HZ9 := Lib.hid (HZ7.out.below (HB9.out.mono hs7))
            have HL9 := Lib.hid (HL7.out.below HB9.out)
            have hcl := clause_any xs _ _ Ai (some ⟨w4.heap.size + 1, 0, none⟩) z ci F w9 HXW.out (by rw [hz.out]; omega) HII9.out HZ9.out
            rw [hz.out] at hcl
            have HCL := Lib.hid hcl
            clear hcl
            rcases hok : clauseSat z xs with _ | _
            · rw [hok] at HCL
              have HHIT' := Lib.hid (HHIT.out hok)
              have hgk := HGET.out hok
              rw [← HK.out] at hgk
              have hkl := (List.getElem?_eq_some_iff.1 hgk).1
              rw [← HNL.out] at hkl
              obtain ⟨bl, ol, hAl, _, hcl⟩ := HL9.out.at_ hkl
              have hcl2 : w9.cell? ⟨bl, ol + k, none⟩ = some (.int .i64 i) := by rw [hcl]; simp [List.getD, hgk]
              subst hAl
              clear hok hgk hcl
              go_wp2_with (go_at_call 13; refine HCL.out.mono ?_; rintro e w' ⟨rfl, rfl⟩)
              go_roundg (xss.length - i)
              case measure => omega
              case rel => exact ⟨i + 1, by omega, by omega, by go_num, by rw [HHIT'.out, List.length_append, ← HK.out]; go_num, HB9.out⟩
            · rw [hok] at HCL
              have HSK' := Lib.hid (HSKIP.out hok)
              clear hok
              go_wp2_with (go_at_call 13; refine HCL.out.mono ?_; rintro e w' ⟨rfl, rfl⟩)
              go_roundg (xss.length - i)
              case measure => omega
              case rel => exact ⟨i + 1, by omega, by omega, by go_num, by rw [HSK'.out, ← HK.out], HB9.out⟩
          · have hil' : i = xss.length := by omega
            have hknl : k = nl := by rw [HK.out, HNL.out, hil']
            subst hknl
            clear hil' HK
            have hz0 := unsUpto_zero z xss
            rw [← HNL.out] at hz0
            have hq : ((k : Int) == 0) = formSat z xss := by rw [← hz0, Bool.eq_iff_iff]; simp
            have HQ := Lib.hid hq
            clear hz0 hq
            obtain ⟨n2, hn2⟩ : ∃ n2 : Nat, (n2 : Int) = (F : Int) + 1 + extra % 3 := ⟨((F : Int) + 1 + extra % 3).toNat, by omega⟩
            have hn2b : n2 ≤ 1000 := by omega
            have hn2n : n2 ≠ F := by omega
            have hmk2 := run_make_row' (P := Try.prog) 32 4 (.bool false) 1 Try.underlying32 Try.infoBool rfl .i64 .i64 n2 (by omega) (by omega)
            rw [hn2] at hmk2
            clear hn2
            have hsy := fun w' (h1 : Rows w' w4.heap.size A4 xss) (h2 : Bools w' w7.heap.size (some ⟨w4.heap.size + 1, 0, none⟩) z) (h3 : w7.heap.size ≤ w'.heap.size) => sat_yes F xss w4.heap.size w7.heap.size A4 (some ⟨w4.heap.size + 1, 0, none⟩) z c4 F w' HX5.out (by omega) hz.out h1 h2 (by omega) h3
            have hdh := fun w' (h1 : Rows w' w4.heap.size A4 xss) (h2 : Bools w' w7.heap.size (some ⟨w4.heap.size + 1, 0, none⟩) z) (h3 : w7.heap.size ≤ w'.heap.size) => docholds_any F xss w4.heap.size w7.heap.size A4 (some ⟨w4.heap.size + 1, 0, none⟩) z c4 F w' (by omega) (fun j => by have := HX2.out j; omega)
              (fun j i => by rw [hz.out]; exact HX3.out j i) (by rw [hz.out]; omega) h1 h2 (by omega) h3
            simp only [hz.out] at hdh
            have HSY := Lib.hid hsy
            have HDH := Lib.hid hdh
            clear hsy hdh
            have g0 := (HFBr.out.alloc (Obj.cells (madeCells #[Value.bool false] n2) 4)).cell 0
            have g1 := (HFBr.out.alloc (Obj.cells (madeCells #[Value.bool false] n2) 4)).cell 1
            simp only [List.size_toArray, List.length_cons, List.length_nil, Nat.reduceAdd, Nat.reduceLT, getElem?_pos, List.getElem_toArray, List.getElem_cons_zero, List.getElem_cons_succ] at g0 g1
            go_wp2_with fail
            obtain ⟨w8, hw8⟩ : ∃ w8, w8 = wr.alloc (Obj.cells (madeCells #[Value.bool false] n2) 4) := ⟨_, rfl⟩
            have HB8 := Lib.hid (show Below w7.heap.size w7 w8 by rw [hw8]; exact HBr.out.alloc hsr _)
            have hs8 : w8.heap.size = wr.heap.size + 1 := by rw [hw8]; simp
            have HO8 := Lib.hid (show BlkB w8 wr.heap.size 4 (List.replicate n2 false) by rw [hw8, madeBools]; exact Blk.new wr _ _)
            rw [← hw8]
            clear hw8 hmk2 f0 f1 g0 g1
            refine (HSY.out _ (HRO7.out.below (HB8.out.mono (by omega))) (Cells.more (HZ7.out.below (HB8.out.mono hs7)) (by omega)) (by omega)).mono ?_
            rintro e w9 ⟨rfl, hb9⟩
            have HB9 := Lib.hid (HB8.out.trans (hb9.mono (by omega)))
            have HO9 := Lib.hid (HO8.out.below hb9 HO8.out.lt)
            have hs9 := hb9.size
            clear hb9
            have HFB9 := Lib.hid (HFB7.out.below HB9.out HFB7.out.lt)
            have f0 := HFB9.out.cell 0
            have f1 := HFB9.out.cell 1
            simp at f0 f1
            rcases hfv : formSat z xss with _ | _
            all_goals
              rw [hfv] at HQ
              have hq := HQ.out
              simp only [hfv] at HDH
              have HFV := Lib.hid hfv
              clear hfv
              go_wp2_with fail
              refine (HDH.out _ (HRO7.out.below (HB9.out.mono (by omega))) (Cells.more (HZ7.out.below (HB9.out.mono hs7)) (by omega)) (by omega)).mono ?_
              clear f0 f1
              rintro e w10 ⟨rfl, hb10⟩
              have HB10 := Lib.hid (HB9.out.trans (hb10.mono (by omega)))
              have HO10 := Lib.hid (HO9.out.below hb10 HO9.out.lt)
              have hs10 := hb10.size
              clear hb10
              have HFB10 := Lib.hid (HFB7.out.below HB10.out HFB7.out.lt)
              have f0 := HFB10.out.cell 0
              have f1 := HFB10.out.cell 1
              simp at f0 f1
              go_wp2_with fail
              have hno := sat_no F n2 xss w4.heap.size w10.heap.size A4 (some ⟨wr.heap.size, 0, none⟩) (List.replicate n2 false) c4 n2 w10 HX5.out (by omega) (by simp) hn2n (HRO7.out.below (HB10.out.mono (by omega))) (BlkB.bools HO10.out) (by omega) (Nat.le_refl _)
              refine hno.mono ?_
              clear hno f0 f1
              rintro e w11 ⟨rfl, hb11⟩
              have HB11 := Lib.hid (HB10.out.trans (hb11.mono (by omega)))
              clear hb11
              go_wp2
              go_ret
              exact ⟨rfl, HB7.out.trans (HB11.out.mono HB7.out.size)⟩

/-- the raw numbers' own bounds -/
theorem raw_nat {u : Int} (h : (Lit.int .u8 u).wf = true) : ∃ v : Nat, u = v ∧ v ≤ 255 := by
  have := bounds_u8 h
  exact ⟨u.toNat, by omega, by omega⟩
theorem raw_rows {nss : List (List Int)} (m : ∀ j, (nss.getD j []).length * 2 ≤ 140737488351232) (h : ∀ j i, (Lit.int .i16 ((nss.getD j []).getD i 0)).wf = true) :
    (∀ j, (nss.getD j []).length ≤ 140737488355328) ∧ ∀ j k, -32768 ≤ (nss.getD j []).getD k 0 ∧ (nss.getD j []).getD k 0 ≤ 32767 :=
  ⟨fun j => by have := m j; omega, fun j k => by have := bounds_i16 (h j k); omega⟩
theorem evaluates_raw (u : Int) (nss : List (List Int)) (A : Option Addr) (c : Nat) (bits extra : Int) (w : World) (hu : (Lit.int .u8 u).wf = true) (he : (Lit.int .u8 extra).wf = true)
    (hx : nss.length ≤ 5864062014805) (m : ∀ j, (nss.getD j []).length * 2 ≤ 140737488351232) (hn : ∀ j i, (Lit.int .i16 ((nss.getD j []).getD i 0)).wf = true) (h : KRows .i16 w w.heap.size A nss) :
    Calls Try.prog 3 #[.agg #[.int .u8 u, .slice A nss.length c], .int .u16 bits, .int .u8 extra] w fun e w' => e = .returned (.bool true) ∧ Below w.heap.size w w' := by
  obtain ⟨v, rfl, hv⟩ := raw_nat hu
  have := bounds_u8 he
  exact evaluates_any v nss A c bits extra w hv (by omega) (by omega) (by omega) (raw_rows m hn).1 (raw_rows m hn).2 h
end Go.Proofs.Ytdacdodigbpdoaa
