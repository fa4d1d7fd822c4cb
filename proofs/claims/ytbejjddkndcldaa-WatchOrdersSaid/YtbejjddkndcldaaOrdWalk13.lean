/- The law on the order in which clauses are attached: the walk. -/
import Derived.Test.YtbejjddkndcldaaTwo13
import Derived.Test.YtbejjddkndcldaaCells2
import Derived.Test.YtbejjddkndcldaaOpen
import Derived.Test.YtbejjddkndcldaaRef07
import Derived.Deep.DeepCutAuto
import Derived.Deep.RegionLaw
import Derived.Deep.RegionHeld3
namespace Go.Proofs.Ytbejjddkndcldaa
open Go.RowKit
set_option linter.unusedVariables false
set_option linter.unusedSimpArgs false

theorem mem_normForm {xss : List (List Int)} {y : List Int} : y ∈ normForm xss ↔ ∃ c, c ∈ xss ∧ tautOf c = false ∧ normOf c = y := by
  unfold normForm
  constructor
  · intro h
    obtain ⟨c, hc, rfl⟩ := List.mem_map.1 h
    obtain ⟨h1, h2⟩ := List.mem_filter.1 hc
    exact ⟨c, h1, by simpa using h2, rfl⟩
  · rintro ⟨c, h1, h2, rfl⟩
    exact List.mem_map.2 ⟨c, List.mem_filter.2 ⟨h1, by simp [h2]⟩, rfl⟩
theorem alike_norm {xss zss : List (List Int)} (h : ∀ c, c ∈ xss ↔ c ∈ zss) : Alike (normForm xss) (normForm zss) := by
  have hm : ∀ y, y ∈ normForm xss ↔ y ∈ normForm zss := fun y => by
    rw [mem_normForm, mem_normForm]
    constructor
    · rintro ⟨c, h1, h2⟩; exact ⟨c, (h c).1 h1, h2⟩
    · rintro ⟨c, h1, h2⟩; exact ⟨c, (h c).2 h1, h2⟩
  exact ⟨fun c hc => ⟨c, (hm c).1 hc, fun _ => Iff.rfl⟩, fun c hc => ⟨c, (hm c).2 hc, fun _ => Iff.rfl⟩⟩
/-- clauses turned round -/
def rotL (xss : List (List Int)) (k : Nat) : List (List Int) := (List.range xss.length).map fun i => xss.getD ((i + k) % xss.length) []
theorem rotL_len (xss : List (List Int)) (k : Nat) : (rotL xss k).length = xss.length := by simp [rotL]
theorem rotL_at {xss : List (List Int)} {k i : Nat} (h : i < xss.length) : (rotL xss k).getD i [] = xss.getD ((i + k) % xss.length) [] := by
  simp [rotL, List.getD, h]
theorem mem_rotL {xss : List (List Int)} {k : Nat} {c : List Int} : c ∈ rotL xss k ↔ c ∈ xss := by
  unfold rotL
  constructor
  · intro h
    obtain ⟨i, hi, rfl⟩ := List.mem_map.1 h
    have hi := List.mem_range.1 hi
    have hj : (i + k) % xss.length < xss.length := Nat.mod_lt _ (by omega)
    simp only [List.getD, List.getElem?_eq_getElem hj, Option.getD_some]
    exact List.getElem_mem hj
  · intro h
    obtain ⟨j, hj, rfl⟩ := List.mem_iff_getElem.1 h
    obtain ⟨n, hn⟩ : ∃ n, xss.length = n := ⟨_, rfl⟩
    have hk : k % n < n := Nat.mod_lt _ (by omega)
    refine List.mem_map.2 ⟨(j + (n - k % n)) % n, List.mem_range.2 (by rw [hn]; exact Nat.mod_lt _ (by omega)), ?_⟩
    have e : ((j + (n - k % n)) % n + k) % n = j := by
      rw [Nat.mod_add_mod, Nat.add_mod, ← Nat.mod_add_mod]
      have h1 : ((j + (n - k % n)) % n + k % n) % n = (j + (n - k % n) + k % n) % n := Nat.mod_add_mod _ _ _
      have h2 : j + (n - k % n) + k % n = j + n := by omega
      have h3 : (j + n) % n = j := by rw [Nat.add_mod_right]; exact Nat.mod_eq_of_lt (by omega)
      rw [Nat.mod_mod] at *
      rw [h1, h2, h3]
    rw [hn, e]
    simp [List.getD, hj]
theorem LightForm.rot {F : Nat} {xss : List (List Int)} (h : LightForm F xss) (k : Nat) : LightForm F (rotL xss k) :=
  ⟨by rw [rotL_len]; exact h.few, fun c hc => h.short c (mem_rotL.1 hc), fun c hc => h.lits c (mem_rotL.1 hc)⟩
theorem dec_same {t t' : TS} (h : t.Good) (h' : t'.Good) {F : Nat} (hp : t.ph.length = F) (hp' : t'.ph.length = F) (hl : ∀ x, x ∈ t.lits ↔ x ∈ t'.lits) (n : Int) : ∀ x, x ∈ (decN F n t).lits ↔ x ∈ (decN F n t').lits := by
  unfold Proofs.Ytbejjddkndcldaa.decN
  by_cases hz : F = 0
  · rw [if_pos hz, if_pos hz]; exact hl
  · rw [if_neg hz, if_neg hz]
    by_cases hr : rawLit F n ≠ 0 ∧ (rawLit F n).natAbs ≤ F
    · have hv : valT t.recs (rawLit F n) = 0 ↔ valT t'.recs (rawLit F n) = 0 := by
        have a := valT_le t.recs (rawLit F n)
        have b := valT_le t'.recs (rawLit F n)
        have c1 := (val_one h (l := rawLit F n)).trans ((hl _).trans (val_one h').symm)
        have c2 := (val_neg1 h hr.1).trans ((hl _).trans (val_neg1 h' hr.1).symm)
        omega
      rcases dec_cases h (l := rawLit F n) (by rw [hp]; exact hr) with ⟨a1, a2, _⟩ | ⟨a1, a2⟩ <;> rcases dec_cases h' (l := rawLit F n) (by rw [hp']; exact hr) with ⟨b1, b2, _⟩ | ⟨b1, b2⟩
      · intro x; rw [a2, b2]; simp [hl x]
      · exact absurd (hv.1 a1) b1
      · exact absurd (hv.2 b1) a1
      · have e1 : t.dec (rawLit F n) = t := by first | exact a2 | exact a2.1
        have e2 : t'.dec (rawLit F n) = t' := by first | exact b2 | exact b2.1
        rw [e1, e2]; exact hl
    · have e1 : t.dec (rawLit F n) = t := by
        unfold TS.dec TS.takes
        rw [if_neg]
        intro e
        rw [Bool.and_eq_true] at e
        have := (right_abs (n := t.ph.length) h.few).1 e.1
        rw [hp] at this
        exact hr this
      have e2 : t'.dec (rawLit F n) = t' := by
        unfold TS.dec TS.takes
        rw [if_neg]
        intro e
        rw [Bool.and_eq_true] at e
        have := (right_abs (n := t'.ph.length) h'.few).1 e.1
        rw [hp'] at this
        exact hr this
      rw [e1, e2]; exact hl
end Go.Proofs.Ytbejjddkndcldaa

namespace Go.Proofs.Ytbejjddkndcldaa
open Go.RowKit
set_option linter.unusedVariables false
set_option linter.unusedSimpArgs false

/-- two propagators beside each other -/
structure PR (w : World) (F bX : Nat) (yss : List (List Int)) (gX ML : Nat) (px : Px) (G : Nat → Prop) (cs : List Cl) (t : TS) (s : WS) (hd : Nat → Value) (bY : Nat) (zss : List (List Int)) (gY MY : Nat) (py : Px) (H : Nat → Prop) (cs' : List Cl) (t' : TS) (s' : WS) (hd' : Nat → Value) : Prop where
  x : Lv w bX F yss gX ML px G cs t s hd
  y : Lv w bY F zss gY MY py H cs' t' s' hd'
  dj : ∀ q, G q → H q → False
  nx : ¬ H gX
  ny : ¬ G gY
  sx : bX ≤ w.heap.size
  sy : bY ≤ w.heap.size
section
variable {w w1 w7 : World} {F bX : Nat} {yss : List (List Int)} {gX ML : Nat} {px : Px} {G G1 : Nat → Prop} {cs cs1 : List Cl} {t t1 : TS} {s s1 : WS} {hd hd1 : Nat → Value} {bY : Nat} {zss : List (List Int)} {gY MY : Nat} {py : Px} {H H1 : Nat → Prop} {cs' : List Cl} {t' : TS} {s' : WS} {hd' : Nat → Value}
theorem PR.symm (h : PR w F bX yss gX ML px G cs t s hd bY zss gY MY py H cs' t' s' hd') : PR w F bY zss gY MY py H cs' t' s' hd' bX yss gX ML px G cs t s hd :=
  ⟨h.y, h.x, fun q h1 h2 => h.dj q h2 h1, h.ny, h.nx, h.sy, h.sx⟩
theorem PR.yAt (h : PR w F bX yss gX ML px G cs t s hd bY zss gY MY py H cs' t' s' hd') (hs : St G G1 w w1) : Lv w1 bY F zss gY MY py H cs' t' s' hd' := h.y.apart hs.ft (fun q h1 h2 => h.dj q h2 h1) h.ny
theorem PR.step (h : PR w F bX yss gX ML px G cs t s hd bY zss gY MY py H cs' t' s' hd') (hs : St G G1 w w1) (hx : Lv w1 bX F yss gX ML px G1 cs1 t1 s1 hd1) : PR w1 F bX yss gX ML px G1 cs1 t1 s1 hd1 bY zss gY MY py H cs' t' s' hd' :=
  ⟨hx, h.yAt hs, dj_new hs h.dj fun q hq => (h.y.ob.bd q hq).2, h.nx, n_new hs h.ny h.y.blk.lt, Nat.le_trans h.sx hs.size, Nat.le_trans h.sy hs.size⟩
theorem PR.below (h : PR w F bX yss gX ML px G cs t s hd bY zss gY MY py H cs' t' s' hd') (hb : Below w.heap.size w w1) : PR w1 F bX yss gX ML px G cs t s hd bY zss gY MY py H cs' t' s' hd' :=
  ⟨h.x.below hb, h.y.below hb, h.dj, h.nx, h.ny, Nat.le_trans h.sx hb.size, Nat.le_trans h.sy hb.size⟩
theorem PR.bel {B : Nat} (h : PR w F bX yss gX ML px G cs t s hd bY zss gY MY py H cs' t' s' hd') (hs : St G G1 w w1) (hB : B ≤ bX) : Below B w w1 := hs.ft.below (Nat.le_trans hB h.sx) (h.x.bd hB)
/-- between two rounds -/
structure OV (w7 w : World) (F bX : Nat) (yss : List (List Int)) (gX ML : Nat) (px : Px) (bY : Nat) (zss : List (List Int)) (gY MY : Nat) (py : Px) (hi : Nat) (b : Bool) : Prop where
  st : b = true → ∃ G cs t s hd H cs' t' s' hd', PR w F bX yss gX ML px G cs t s hd bY zss gY MY py H cs' t' s' hd' ∧ s.vis ≤ hi ∧ s'.vis ≤ hi ∧ ∀ x, x ∈ t.lits ↔ x ∈ t'.lits
  bel : Below w7.heap.size w7 w
theorem two_pr {w5 : World} (h : Two w5 w F yss zss gX ML px G s hd gY MY py H s' hd') : ∃ bX bY, w5.heap.size < bX ∧ w5.heap.size < bY ∧ PR w F bX yss gX ML px G (csOf yss) (TS.fresh F) s hd bY zss gY MY py H (csOf zss) (TS.fresh F) s' hd' := by
  obtain ⟨bX, h1, h2, h3⟩ := h.x
  obtain ⟨bY, k1, k2, k3⟩ := h.y
  exact ⟨bX, bY, h1, k1, h3, k3, h.dj, h.nx, h.ny, h2, k2⟩
theorem prop_end {e : Ending} (h : (∃ r : Int, e = .returned (.tuple #[.int .i64 r, .bool false]) ∧ Clash yss t.lits ∧ Seen w1 px s.vis) ∨ (e = .returned (.tuple #[.int .i64 0, .bool true]) ∧ ∃ cs' t' s' hd', Lv w1 bX F yss gX ML px G1 cs' t' s' hd' ∧ Told yss t.lits t'.lits true ∧ Grw (csOf yss) t t' ∧ s.vis ≤ s'.vis ∧ s'.vis ≤ s.vis + 1000000)) :
    ∃ (r : Int) (b : Bool), e = .returned (.tuple #[.int .i64 r, .bool b]) ∧ (b = false → Clash yss t.lits) ∧ (b = true → ∃ cs' t' s' hd', Lv w1 bX F yss gX ML px G1 cs' t' s' hd' ∧ Told yss t.lits t'.lits true ∧ s'.vis ≤ s.vis + 1000000) := by
  rcases h with ⟨r, rfl, hc, _⟩ | ⟨rfl, cs', t', s', hd', h1, h2, _, _, h3⟩
  · exact ⟨r, false, rfl, fun _ => hc, fun e => by cases e⟩
  · exact ⟨0, true, rfl, (fun e => by cases e), fun _ => ⟨cs', t', s', hd', h1, h2, h3⟩⟩
theorem ov_done {w2 : World} {hi : Nat} {b1 b2 : Bool} (h : PR w F bX yss gX ML px G cs t s hd bY zss gY MY py H cs' t' s' hd') (hvx : s.vis ≤ hi) (hvy : s'.vis ≤ hi) (hts : ∀ x, x ∈ t.lits ↔ x ∈ t'.lits) (hal : Alike yss zss) (hbel : Below w7.heap.size w7 w) (hbx : w7.heap.size < bX) (hby : w7.heap.size < bY)
    (hs1 : St G G1 w w1) (hF1 : b1 = false → Clash yss t.lits) (hT1 : b1 = true → ∃ cs1 t1 s1 hd1, Lv w1 bX F yss gX ML px G1 cs1 t1 s1 hd1 ∧ Told yss t.lits t1.lits true ∧ s1.vis ≤ s.vis + 1000000)
    (hs2 : St H H1 w1 w2) (hF2 : b2 = false → Clash zss t'.lits) (hT2 : b2 = true → ∃ cs1 t1 s1 hd1, Lv w2 bY F zss gY MY py H1 cs1 t1 s1 hd1 ∧ Told zss t'.lits t1.lits true ∧ s1.vis ≤ s'.vis + 1000000) :
    b2 = b1 ∧ OV w7 w2 F bX yss gX ML px bY zss gY MY py (hi + 1000000) b1 := by
  have hb1 : Below w7.heap.size w7 w1 := hbel.trans (h.bel hs1 (by omega))
  have hy1 := h.yAt hs1
  have hb2 : Below w7.heap.size w7 w2 := hb1.trans (hs2.ft.below hb1.size (hy1.bd (by omega)))
  have hcc := clash_congr hal hts
  rcases b1 with _ | _ <;> rcases b2 with _ | _
  · exact ⟨rfl, fun e => (by cases e), hb2⟩
  · obtain ⟨_, _, _, _, _, hT, _⟩ := hT2 rfl
    exact absurd (hcc.1 (hF1 rfl)) (hT.yes rfl).1
  · obtain ⟨_, _, _, _, _, hT, _⟩ := hT1 rfl
    exact absurd (hcc.2 (hF2 rfl)) (hT.yes rfl).1
  · obtain ⟨c1, t1, s1, d1, hL1, hTx, hv1⟩ := hT1 rfl
    obtain ⟨c2, t2, s2, d2, hL2, hTy, hv2⟩ := hT2 rfl
    refine ⟨rfl, fun _ => ⟨_, _, _, _, _, _, _, _, _, _, ((h.step hs1 hL1).symm.step hs2 hL2).symm, by omega, by omega, fun x => ?_⟩, hb2⟩
    exact ((hTx.yes rfl).2 x).trans ((fol_congr hal hts).trans ((hTy.yes rfl).2 x).symm)
theorem OV.below {w' : World} {hi : Nat} {b : Bool} (h : OV w7 w F bX yss gX ML px bY zss gY MY py hi b) (hb : Below w.heap.size w w') : OV w7 w' F bX yss gX ML px bY zss gY MY py hi b :=
  ⟨fun e => by
    obtain ⟨G, cs, t, s, hd, H, cs', t', s', hd', h1, h2⟩ := h.st e
    exact ⟨G, cs, t, s, hd, H, cs', t', s', hd', h1.below hb, h2⟩, h.bel.trans (hb.mono h.bel.size)⟩
end
theorem OwnList.ft {w w' : World} {base : Nat} {ei : TypeId} {vs : List Value} {xss : List (List Int)} {K : Nat → Prop} (h : OwnList w base ei vs xss) (hf : Ft K w w') (hd : ∀ j q, j < xss.length → ((vs[j]?).getD undef).ownBlock = some q → ¬ K q) : OwnList w' base ei vs xss := by
  refine ⟨fun j hj => ?_, h.ne⟩
  obtain ⟨Aj, cj, h1, h2⟩ := h.each j hj
  exact ⟨Aj, cj, h1, hf.own h2 fun q hq => hd j q hj (by rw [h1]; exact hq)⟩
theorem rot_rows {w : World} {base b1 k : Nat} {ei eo : TypeId} {us ws : List Value} {xss : List (List Int)} {A : Option Addr} {c : Nat} (ho : w.ownsRow b1 eo 1 (.slice A xss.length c) xss.length ws) (hl : OwnList w base ei us xss) (hw : ∀ j, j < xss.length → ws[j]? = us[(j + k) % xss.length]?) : Rows w w.heap.size A (rotL xss k) := by
  intro hn
  rw [rotL_len] at hn
  obtain ⟨g, hA, _, hg⟩ := own_addr ho hn
  refine ⟨g, 0, hA, hg, fun j hj => ?_⟩
  rw [rotL_len] at hj
  have hm : (j + k) % xss.length < xss.length := Nat.mod_lt _ (by omega)
  obtain ⟨Aj, cj, h1, h2⟩ := hl.each _ hm
  refine ⟨Aj, cj, ?_, ?_⟩
  · rw [hA] at ho
    rw [Nat.zero_add, World.ownsRow.cellAt ho j (by omega), hw j hj, h1, rotL_at hj]
  · rw [rotL_at hj]
    exact ints_of_own h2
end Go.Proofs.Ytbejjddkndcldaa

namespace Go.Proofs.Ytbejjddkndcldaa
open Go.RowKit
set_option linter.unusedVariables false
set_option linter.unusedSimpArgs false

set_option maxRecDepth 100000 in
set_option maxHeartbeats 4000000 in
theorem ord13_any (v : Nat) (nss : List (List Int)) (A : Option Addr) (c : Nat) (w : World) (Al : Option Addr) (len cap : Nat) (z : Nat → Int) (k : Nat) (hk : k ≤ 255) (hlc : len ≤ cap) (hcm : cap ≤ maxLen) (hz : ∀ j, j < cap → 0 ≤ z j ∧ z j ≤ 65535) (hce : 0 < cap → ∃ b off, Al = some ⟨b, off, none⟩ ∧ b < w.heap.size ∧ ∀ j, j < cap → w.cell? ⟨b, off + j, none⟩ = some (.int .u16 (z j)))  (hv : v ≤ 255)
    (hx : nss.length ≤ 140737488355328) (hl : ∀ j, (nss.getD j []).length ≤ 140737488355328) (hn : ∀ j k, -32768 ≤ (nss.getD j []).getD k 0 ∧ (nss.getD j []).getD k 0 ≤ 32767) (h : KRows .i16 w w.heap.size A nss) :
    Calls Try.prog 3 #[.agg #[.int .u8 v, .slice A nss.length c], .slice Al len cap, .int .u8 (k : Nat)] w fun e w' => e = .returned (.bool true) ∧ Below w.heap.size w w' := by
  have HZ := Lib.hid (And.intro hz hce)
  unfold maxLen at hcm
  clear hz hce
  have H := Lib.hid h
  have HL := Lib.hid hl
  have HN := Lib.hid hn
  clear h hl hn
  go_enter Try.func3, Try.ntmps3
  go_wp2_with fail
  obtain ⟨w1, hw1⟩ : ∃ w1, w1 = w.alloc (Obj.cells #[Value.int IntKind.u8 v, Value.slice A nss.length c] 24) := ⟨_, rfl⟩
  have HR1 := Lib.hid (show KRows .i16 w1 w.heap.size A nss by rw [hw1]; exact H.out.alloc (Nat.le_refl _) _)
  have HB1 := Lib.hid (show Below w.heap.size w w1 by rw [hw1]; exact (Below.refl _ _).alloc (Nat.le_refl _) _)
  have HK1 := Lib.hid (show Blk w1 w.heap.size 24 #[Value.int IntKind.u8 v, Value.slice A nss.length c] by rw [hw1]; exact Blk.new w _ _)
  rw [← hw1]
  clear hw1
  refine (fit13_any w1).mono ?_
  rintro e w2 ⟨rfl, hb2⟩
  have HR2 := Lib.hid (HR1.out.below (hb2.mono HB1.out.size))
  have HB2 := Lib.hid (HB1.out.trans (hb2.mono HB1.out.size))
  have HK2 := Lib.hid (HK1.out.below hb2 HK1.out.lt)
  clear hb2 HR1 HB1 HK1
  have k0 := HK2.out.cell 0
  have k1 := HK2.out.cell 1
  simp at k0 k1
  go_wp2_with fail
  refine (light_any v nss _ A c 40 w2 (by omega) hx HL.out HR2.out HB2.out.size).mono ?_
  rintro e w3 ⟨rfl, hb3⟩
  have HR3 := Lib.hid (HR2.out.below (hb3.mono HB2.out.size))
  have HB3 := Lib.hid (HB2.out.trans (hb3.mono HB2.out.size))
  have HK3 := Lib.hid (HK2.out.below hb3 HK2.out.lt)
  clear hb3 HR2 HB2 HK2 k0 k1
  have k0 := HK3.out.cell 0
  have k1 := HK3.out.cell 1
  simp at k0 k1
  rcases hlt : light nss 40 with _ | _
  · go_wp2
    go_ret
    exact ⟨rfl, HB3.out⟩
  · have hls := light_rows hlt
    have hF : v % (12 + 1) ≤ 12 := by omega
    have hFM := lightForm_rawW (F := v % (12 + 1)) (W := 6) (by omega) hlt
    clear hlt
    by_cases hlen : 20 < len
    · go_wp2
      go_ret
      exact ⟨rfl, HB3.out⟩
    obtain ⟨F, hFF⟩ : ∃ F, v % (12 + 1) = F := ⟨_, rfl⟩
    have hfo := fun (X : World) (h1 : KRows .i16 X w.heap.size A nss) (h2 : w.heap.size ≤ X.heap.size) => formula_any v nss _ A c 12 6 X hv (by omega) (by omega) hls.1 hls.2 HN.out h1 h2
    rw [hFF] at hF hFM hfo
    obtain ⟨xss, hxs⟩ : ∃ xss, rawForm F 6 nss = xss := ⟨_, rfl⟩
    rw [hxs] at hFM
    simp only [hxs] at hfo
    have HFM := Lib.hid hFM
    have hx1 := hFM.few
    have HFO := Lib.hid hfo
    have hs03 := HB3.out.size
    have hlt0 : w.heap.size < w3.heap.size := HK3.out.lt
    clear hFF hxs hFM hfo hls
    have HKR := Lib.hid (show ∀ X, Below w3.heap.size w3 X → KRows .i16 X w.heap.size A nss ∧ w.heap.size ≤ X.heap.size from fun X h => ⟨HR3.out.below (h.mono hs03), Nat.le_trans hs03 h.size⟩)
    have HKE := Lib.hid (show ∀ X, Below w3.heap.size w3 X → X.cell? ⟨w.heap.size, 0, none⟩ = some (.int .u8 v) ∧ X.cell? ⟨w.heap.size, 1, none⟩ = some (.slice A nss.length c) from
      fun X h => ⟨(h.cell (p := ⟨w.heap.size, 0, none⟩) hlt0).trans k0, (h.cell (p := ⟨w.heap.size, 1, none⟩) hlt0).trans k1⟩)
    go_wp2_with fail
    go_cut [7, 8] (fun p q w' => ∃ (gf gg B : Nat) (A1 A2 : Option Addr) (c1 c2 : Nat) (us vs : List Value), p = .pointer (some ⟨gf, 0, none⟩) ∧ q = .pointer (some ⟨gg, 0, none⟩) ∧ w3.heap.size ≤ gf ∧ w3.heap.size ≤ gg ∧
      Blk w' gf 30 #[.int .i64 F, .slice A1 xss.length c1] ∧ Blk w' gg 30 #[.int .i64 F, .slice A2 xss.length c2] ∧ B ≤ w'.heap.size ∧ gf ≠ gg ∧ w3.heap.size ≤ B ∧
      w'.ownsRow w3.heap.size 32 1 (.slice A1 xss.length c1) xss.length us ∧ OwnList w' w3.heap.size 3 us xss ∧ (∀ q, (Value.slice A1 xss.length c1).ownBlock = some q → q < B) ∧ (∀ j q, j < xss.length → ((us[j]?).getD undef).ownBlock = some q → q < B) ∧
      w'.ownsRow B 32 1 (.slice A2 xss.length c2) xss.length vs ∧ OwnList w' B 3 vs xss ∧ Below w3.heap.size w3 w')
    case first =>
      have firstCall : Hid True := Lib.hid trivial
      go_region_held3 (fun w' => w'.cell? ⟨w.heap.size, 0, none⟩ = some (.int .u8 v) ∧ w'.cell? ⟨w.heap.size, 1, none⟩ = some (.slice A nss.length c))
        (first
          | (refine HKE.out _ ?_; repeat (first | exact HB.out | exact HA.out | exact Below.refl _ _ | refine Below.drew ?_ | refine Below.alloc ?_ (by first | exact Nat.le_refl _ | omega | (simp <;> omega)) _ | refine Below.setCell ?_ (by first | exact Nat.le_refl _ | omega | (simp <;> omega)) _))
          | go_keep)
        (first
          | (go_at_call 12; clear firstCall; refine (HFO.out _ (HKR.out _ ?_).1 (HKR.out _ ?_).2).mono ?_; (repeat (first | exact Below.refl _ _ | refine Below.drew ?_ | refine Below.alloc ?_ (by first | exact Nat.le_refl _ | omega | (simp <;> omega)) _)); (repeat (first | exact Below.refl _ _ | refine Below.drew ?_ | refine Below.alloc ?_ (by first | exact Nat.le_refl _ | omega | (simp <;> omega)) _)); rintro e wA ⟨A1, c1, vs1, rfl, ho1, hl1, hb1⟩; have hA : Below w3.heap.size w3 wA := (by refine Below.trans ?_ (hb1.mono ?_); (repeat (first | exact Below.refl _ _ | refine Below.drew ?_ | refine Below.alloc ?_ (by first | exact Nat.le_refl _ | omega | (simp <;> omega)) _)); (first | exact Nat.le_refl _ | (simp; done) | (simp; omega))); have HA := Lib.hid hA; clear hA; have hzA : w3.heap.size ≤ wA.heap.size := HA.out.size; have hzA2 := hb1.size; (try simp at hzA2); have HO1 := Lib.hid ho1; have HL1 := Lib.hid hl1; (try simp at HO1); (try simp at HL1); (try (have BZ0 := Lib.hid (show Blk wA w3.heap.size 30 #[Value.int IntKind.i64 0, Value.slice none 0 0] from Blk.below (by first | exact Blk.new w3 _ _ | exact (Blk.new w3 _ _).alloc _ | exact (Blk.new w3 _ _).drew_ | exact ((Blk.new w3 _ _).alloc _).drew_) hb1 (by first | omega | (simp <;> omega))))); (try (have BZ1 := Lib.hid (show Blk wA (w3.heap.size + 1) 30 #[Value.int IntKind.i64 0, Value.slice none 0 0] from Blk.below (by have hq := Blk.new (w3.alloc (Obj.cells #[Value.int IntKind.i64 0, Value.slice none 0 0] 30)) 30 #[Value.int IntKind.i64 0, Value.slice none 0 0]; simp only [World.size_alloc] at hq; first | exact hq | exact hq.drew_) hb1 (by first | omega | (simp <;> omega))))); clear ho1 hl1 hb1)
          | (go_at_call 12; have tok := HA.out; clear tok; refine (HFO.out _ (HKR.out _ ?_).1 (HKR.out _ ?_).2).mono ?_; (repeat (first | exact HA.out | exact Below.refl _ _ | refine Below.drew ?_ | refine Below.alloc ?_ (by first | exact Nat.le_refl _ | omega | (simp <;> omega)) _)); (repeat (first | exact HA.out | exact Below.refl _ _ | refine Below.drew ?_ | refine Below.alloc ?_ (by first | exact Nat.le_refl _ | omega | (simp <;> omega)) _)); rintro e wB ⟨A2, c2, vs2, rfl, ho2, hl2, hb2⟩; have hB : Below w3.heap.size w3 wB := (by refine Below.trans ?_ (hb2.mono ?_); (repeat (first | exact HA.out | exact Below.refl _ _ | refine Below.drew ?_ | refine Below.alloc ?_ (by first | exact Nat.le_refl _ | omega | (simp <;> omega)) _)); (first | exact HA.out.size | (simp; have hq := HA.out.size; omega))); have HB := Lib.hid hB; clear hB; have hzB : wA.heap.size ≤ wB.heap.size := (by have hq := hb2.size; first | exact hq | (simp at hq; omega)); have hzB2 := hb2.size; (try simp at hzB2); have HBA := Lib.hid (show Below wA.heap.size wA wB by refine Below.trans ?_ (hb2.mono ?_); (repeat (first | exact Below.refl _ _ | refine Below.drew ?_ | refine Below.alloc ?_ (by first | exact Nat.le_refl _ | omega | (simp <;> omega)) _)); (first | exact Nat.le_refl _ | (simp <;> omega))); have HO2 := Lib.hid ho2; have HL2 := Lib.hid hl2; have HB2 := Lib.hid hb2.block; (try simp at HO2); (try simp at HL2); (try simp at HB2); (try (have CZ0 := Lib.hid (show Blk wB w3.heap.size 30 #[Value.int IntKind.i64 0, Value.slice none 0 0] from Blk.below (by first | exact BZ0.out | exact BZ0.out.alloc _ | exact (BZ0.out.alloc _).alloc _ | exact BZ0.out.drew_ | exact (BZ0.out.alloc _).drew_ | exact ((BZ0.out.alloc _).alloc _).drew_) hb2 (by first | omega | (simp <;> omega))))); (try (have CZ1 := Lib.hid (show Blk wB (w3.heap.size + 1) 30 #[Value.int IntKind.i64 0, Value.slice none 0 0] from Blk.below (by first | exact BZ1.out | exact BZ1.out.alloc _ | exact (BZ1.out.alloc _).alloc _ | exact BZ1.out.drew_ | exact (BZ1.out.alloc _).drew_ | exact ((BZ1.out.alloc _).alloc _).drew_) hb2 (by first | omega | (simp <;> omega))))); (try (have DZ0 := Lib.hid (show Blk wB wA.heap.size 30 #[Value.int IntKind.i64 0, Value.slice none 0 0] from Blk.below (by first | exact Blk.new wA _ _ | exact (Blk.new wA _ _).alloc _ | exact (Blk.new wA _ _).drew_ | exact ((Blk.new wA _ _).alloc _).drew_) hb2 (by first | omega | (simp <;> omega))))); (try (have DZ1 := Lib.hid (show Blk wB (wA.heap.size + 1) 30 #[Value.int IntKind.i64 0, Value.slice none 0 0] from Blk.below (by have hq := Blk.new (wA.alloc (Obj.cells #[Value.int IntKind.i64 0, Value.slice none 0 0] 30)) 30 #[Value.int IntKind.i64 0, Value.slice none 0 0]; simp only [World.size_alloc] at hq; first | exact hq | exact hq.drew_) hb2 (by first | omega | (simp <;> omega))))); (try (have p0 := CZ0.out.c0; have p1 := CZ0.out.c1; have pf := CZ0.out.frozen; have p0' := fun o => (CZ0.out.alloc o).c0; have p1' := fun o => (CZ0.out.alloc o).c1; have pf' := fun o => (CZ0.out.alloc o).frozen)); (try (have q0 := CZ1.out.c0; have q1 := CZ1.out.c1; have qf := CZ1.out.frozen; have q0' := fun o => (CZ1.out.alloc o).c0; have q1' := fun o => (CZ1.out.alloc o).c1; have qf' := fun o => (CZ1.out.alloc o).frozen)); (try (have r0 := DZ0.out.c0; have r1 := DZ0.out.c1; have rf := DZ0.out.frozen; have r0' := fun o => (DZ0.out.alloc o).c0; have r1' := fun o => (DZ0.out.alloc o).c1; have rf' := fun o => (DZ0.out.alloc o).frozen)); (try (have s0 := DZ1.out.c0; have s1 := DZ1.out.c1; have sf := DZ1.out.frozen; have s0' := fun o => (DZ1.out.alloc o).c0; have s1' := fun o => (DZ1.out.alloc o).c1; have sf' := fun o => (DZ1.out.alloc o).frozen)); have t0 := ((Blk.new wB 30 #[Value.int IntKind.i64 0, Value.slice none 0 0]).alloc (Obj.cells #[Value.int IntKind.i64 0, Value.slice none 0 0] 30)).c0; have t1 := ((Blk.new wB 30 #[Value.int IntKind.i64 0, Value.slice none 0 0]).alloc (Obj.cells #[Value.int IntKind.i64 0, Value.slice none 0 0] 30)).c1; have tf := ((Blk.new wB 30 #[Value.int IntKind.i64 0, Value.slice none 0 0]).alloc (Obj.cells #[Value.int IntKind.i64 0, Value.slice none 0 0] 30)).frozen; clear ho2 hl2 hb2))
      all_goals (go_wp2_with fail; go_meet)
      all_goals exact ⟨_, _, wA.heap.size, A1, A2, c1, c2, vs1, vs2, rfl, rfl, by first | exact Nat.le_refl _ | omega, by first | exact Nat.le_refl _ | omega, by (repeat (first | with_reducible exact CZ0.out | with_reducible exact CZ1.out | with_reducible exact DZ0.out | with_reducible exact DZ1.out | with_reducible exact Blk.new _ _ _ | with_reducible exact Blk.new1 _ _ _ _ | with_reducible apply Blk.set0 | with_reducible apply Blk.set1 | with_reducible refine Blk.farN ?_ (by first | omega | (simp only [World.size_alloc]; omega) | (simp; omega)) _ | with_reducible refine Blk.alloc ?_ _)), by (repeat (first | with_reducible exact CZ0.out | with_reducible exact CZ1.out | with_reducible exact DZ0.out | with_reducible exact DZ1.out | with_reducible exact Blk.new _ _ _ | with_reducible exact Blk.new1 _ _ _ _ | with_reducible apply Blk.set0 | with_reducible apply Blk.set1 | with_reducible refine Blk.farN ?_ (by first | omega | (simp only [World.size_alloc]; omega) | (simp; omega)) _ | with_reducible refine Blk.alloc ?_ _)), by first | omega | (simp [World.setCell]; omega) | (simp [World.setCell]; done), by first | omega, by first | omega, own_more (own_agree HO1.out (fun g h1 h2 => by (repeat (first | with_reducible exact HBA.out.block g h2 | with_reducible refine heap_set_ ?_ (by first | omega | (simp only [World.size_alloc]; omega) | (simp; omega)) | with_reducible refine heap_alloc_ ?_ (by first | omega | (simp only [World.size_alloc]; omega) | (simp; omega)))))) (by first | exact Nat.le_refl _ | omega), OwnList.more (OwnList.agree HL1.out (fun g h1 h2 => by (repeat (first | with_reducible exact HBA.out.block g h2 | with_reducible refine heap_set_ ?_ (by first | omega | (simp only [World.size_alloc]; omega) | (simp; omega)) | with_reducible refine heap_alloc_ ?_ (by first | omega | (simp only [World.size_alloc]; omega) | (simp; omega)))))) (by first | exact Nat.le_refl _ | omega), (fun q hq => (HO1.out.lt q hq).2), (fun j q hj hq => (OwnList.lt HL1.out hj hq).2), own_more (own_agree HO2.out (fun g h1 h2 => by (repeat (first | with_reducible rfl | with_reducible refine heap_set_ ?_ (by first | omega | (simp only [World.size_alloc]; omega) | (simp; omega)) | with_reducible refine heap_alloc_ ?_ (by first | omega | (simp only [World.size_alloc]; omega) | (simp; omega)))))) (by first | exact Nat.le_refl _ | omega), OwnList.more (OwnList.agree HL2.out (fun g h1 h2 => by (repeat (first | with_reducible rfl | with_reducible refine heap_set_ ?_ (by first | omega | (simp only [World.size_alloc]; omega) | (simp; omega)) | with_reducible refine heap_alloc_ ?_ (by first | omega | (simp only [World.size_alloc]; omega) | (simp; omega)))))) (by first | exact Nat.le_refl _ | omega), by (repeat (first | with_reducible exact HB.out | with_reducible refine below_set_ ?_ (by first | omega | (simp only [World.size_alloc]; omega) | (simp; omega)) | with_reducible refine Below.alloc ?_ (by first | omega | (simp only [World.size_alloc]; omega) | (simp; omega)) _))⟩
    case rest =>
      obtain ⟨gf, gg, B, A1, A2, c1, c2, us, vs, rfl, rfl, hgf, hgg, hbf, hbg, hBs, hne, hSB, ho1, hl1, hq1, hj1, ho2, hl2, hb⟩ := hcut
      obtain ⟨w6, rfl⟩ : ∃ w6, w6 = wc := ⟨_, rfl⟩
      have HBF := Lib.hid hbf
      have HBG := Lib.hid hbg
      have HO1 := Lib.hid ho1
      have HL1 := Lib.hid hl1
      have HQ1 := Lib.hid hq1
      have HJ1 := Lib.hid hj1
      have HO2 := Lib.hid ho2
      have HB36 := Lib.hid hb
      have HB6 := Lib.hid (HB3.out.trans (hb.mono hs03))
      have hs36 := hb.size
      have hgfl := hbf.lt
      have hggl := hbg.lt
      obtain ⟨n, hnx⟩ : ∃ n, xss.length = n := ⟨_, rfl⟩
      have HNX := Lib.hid hnx
      rw [hnx] at HBF HBG HO1 HO2 HQ1 HJ1 hx1
      have HKG := Lib.hid (show ∀ q, (Value.slice A2 n c2).ownBlock = some q → B ≤ q from fun q hq => (HO2.out.lt q hq).1)
      clear hbf hbg ho1 hl1 hq1 hj1 ho2 hl2 hb HKR HKE HFO HR3 HK3 k0 k1 HB3 hnx
      have f1 := HBF.out.cell 1
      simp at f1
      go_wp2_with fail
      clear f1
      go_loopg [35] (n + 1) (fun gk ti wr => ∃ (i : Nat) (ws : List Value), i ≤ n ∧ gk = n - i + 1 ∧ ti = .int .i64 (i : Nat) ∧ Hid (wr.ownsRow B 32 1 (.slice A2 n c2) n ws) ∧ Hid (∀ j, j < i → ws[j]? = us[(j + k) % n]?) ∧ Hid (Ft (fun q => (Value.slice A2 n c2).ownBlock = some q) w6 wr))
      case atStart => exact ⟨0, vs, by omega, by omega, rfl, HO2, Lib.hid (fun j hj => absurd hj (by omega)), Lib.hid (Ft.refl _)⟩
      case round =>
        obtain ⟨i, ws, hi, rfl, rfl, HOW, HWS, HFT⟩ := hrel
        have HBFr := Lib.hid (HFT.out.blk HBF.out fun e => own_blk_ne HO2.out HBF.out (by decide) e.symm)
        have HBGr := Lib.hid (HFT.out.blk HBG.out fun e => own_blk_ne HO2.out HBG.out (by decide) e.symm)
        have HO1r := Lib.hid (HFT.out.own HO1.out fun q hq e => by
          have h1 := HQ1.out q hq
          have h2 := HKG.out q e
          omega)
        by_cases hlt : i < n
        · obtain ⟨m, hm⟩ : ∃ m, (i + k) % n = m := ⟨_, rfl⟩
          have hmn : m < n := by rw [← hm]; exact Nat.mod_lt _ (by omega)
          have hmI : ((i : Int) + (k : Int)) % (n : Int) = (m : Int) := by rw [← hm]; simp
          obtain ⟨Am, cm, hvm, _⟩ := HL1.out.each m (by rw [HNX.out]; exact hmn)
          obtain ⟨lm, hlm⟩ : ∃ lm, (xss.getD m []).length = lm := ⟨_, rfl⟩
          rw [hlm] at hvm
          have hof := HO1r.out
          obtain ⟨g1, hA1, _, _⟩ := own_addr hof (by omega)
          rw [hA1] at hof
          have cf := World.ownsRow.cellAt hof m (by omega)
          rw [hvm] at cf
          have hog := HOW.out
          obtain ⟨g2, hA2, _, _⟩ := own_addr hog (by omega)
          rw [hA2] at hog
          have hset := (hog.stored i (.slice Am lm cm)).1
          rw [← hA2] at hset
          have hwl : i < ws.length := by have := HOW.out.1; omega
          obtain ⟨ov, hov⟩ : ∃ ov, ws[i]? = some ov := ⟨_, List.getElem?_eq_getElem hwl⟩
          have cg := World.ownsRow.cellAt hog i (by omega)
          rw [hov] at cg
          have fg := World.ownsRow.frozenAt hog i
          have f1 := HBFr.out.cell 1
          have g1' := HBGr.out.cell 1
          simp at f1 g1'
          have HSET := Lib.hid hset
          have HW2 : Hid (∀ j, j < i + 1 → (ws.set i (.slice Am lm cm))[j]? = us[(j + k) % n]?) := Lib.hid fun j hj => by
            rw [List.getElem?_set]
            by_cases hji : i = j
            · subst hji
              rw [if_pos rfl, if_pos hwl, hm, hvm]
            · rw [if_neg hji]
              exact HWS.out j (by omega)
          have HF2 := Lib.hid (HFT.out.set (q := g2) (fun _ => by rw [hA2]; rfl) i (.slice Am lm cm))
          have hnz : (n : Int) ≠ 0 := by omega
          have hnz2 : ((n : Int) == 0) = false := by simp; omega
          have hiI : (i : Int) < (n : Int) := by omega
          have hmI2 : (m : Int) < (n : Int) := by omega
          have hm0 : (0 : Int) ≤ (m : Int) := by omega
          clear hset hof hog hov hlm hm hwl hvm
          subst hA1
          subst hA2
          go_wp2_with fail
          go_region
          go_wp2_with fail
          go_roundg (n - i)
          case measure => omega
          case rel => exact ⟨i + 1, _, by omega, by omega, by go_num, HSET, HW2, Lib.hid HF2.out.drew⟩
        · have hie : n = i := by omega
          obtain ⟨w7, hw7⟩ : ∃ w7, w7 = wr := ⟨_, rfl⟩
          rw [← hw7] at HOW HFT HBFr HBGr HO1r ⊢
          clear hw7
          have HL1r := Lib.hid (HL1.out.ft HFT.out fun j q hj hq e => by
            have h1 := HJ1.out j q (by rw [← HNX.out]; exact hj) hq
            have h2 := HKG.out q e
            omega)
          have HRF := Lib.hid (show Rows w7 w7.heap.size A1 xss from OwnList.rows HL1r.out (by rw [HNX.out]; exact HO1r.out))
          have HRG := Lib.hid (show Rows w7 w7.heap.size A2 (rotL xss k) from rot_rows (by rw [HNX.out]; exact HOW.out) HL1r.out (by rw [HNX.out]; intro j hj; exact HWS.out j (by omega)))
          have HB7 := Lib.hid (HB6.out.trans (HFT.out.below (B := w.heap.size) HB6.out.size fun q hq => by have := HKG.out q hq; omega))
          have CX0 := fun w' (hb : Below w7.heap.size w7 w') => begin_any (w := w') F (by omega) xss HFM.out w7.heap.size A1 c1 (HRF.out.below hb) hb.size
          have CY0 := fun w' (hb : Below w7.heap.size w7 w') => begin_any (w := w') F (by omega) (rotL xss k) (HFM.out.rot k) w7.heap.size A2 c2 (HRG.out.below hb) hb.size
          simp only [HNX.out] at CX0
          simp only [rotL_len, HNX.out] at CY0
          have HAL := Lib.hid (alike_norm (xss := xss) (zss := rotL xss k) fun c => mem_rotL.symm)
          have HTX := Lib.hid (csOf_total HFM.out.norm)
          have HTY := Lib.hid (csOf_total (HFM.out.rot k).norm)
          have hfy := HFM.out.norm.few
          have hfz := (HFM.out.rot k).norm.few
          obtain ⟨yss, hys⟩ : ∃ yss, normForm xss = yss := ⟨_, rfl⟩
          obtain ⟨zss, hzs⟩ : ∃ zss, normForm (rotL xss k) = zss := ⟨_, rfl⟩
          rw [hys, hzs] at HAL
          rw [hys] at HTX hfy
          rw [hzs] at HTY hfz
          simp only [hys] at CX0
          simp only [hzs] at CY0
          have CX := Lib.hid CX0
          have CY := Lib.hid CY0
          have HFC := Lib.hid (show ∀ w', Below w7.heap.size w7 w' → w'.cell? ⟨gf, 0, none⟩ = some (.int .i64 F) ∧ w'.cell? ⟨gf, 1, none⟩ = some (.slice A1 n c1) ∧ w'.cell? ⟨gg, 0, none⟩ = some (.int .i64 F) ∧ w'.cell? ⟨gg, 1, none⟩ = some (.slice A2 n c2) from fun w' hb => by
            have h0 := (HBFr.out.below hb HBFr.out.lt).cell 0
            have h1 := (HBFr.out.below hb HBFr.out.lt).cell 1
            have h2 := (HBGr.out.below hb HBGr.out.lt).cell 0
            have h3 := (HBGr.out.below hb HBGr.out.lt).cell 1
            simp at h0 h1 h2 h3
            exact ⟨h0, h1, h2, h3⟩)
          have HFL := Lib.hid (show ∀ w', Below w7.heap.size w7 w' → w'.cell? ⟨gf, 0, none⟩ = some (.int .i64 F) from fun w' hb => (HFC.out w' hb).1)
          obtain ⟨c0, c1', c2', c3⟩ := HFC.out w7 (Below.refl _ _)
          have hs7 := HB7.out.size
          subst hie
          clear CX0 CY0 hys hzs HOW HWS HFT HO1r HL1r HRF HRG HBF HBG HO1 HL1 HQ1 HJ1 HO2 HB36 HB6 HKG HBGr
          go_upto_region 11 with fail
          go_cut [10, 11] (fun x y wx => ∃ gX ML px G s hd gY MY py H sy hy, x = .pointer (some ⟨gX, 0, none⟩) ∧ y = .pointer (some ⟨gY, 0, none⟩) ∧ Hid (Two w7 wx F yss zss gX ML px G s hd gY MY py H sy hy))
          case first =>
            go_region_held3 (fun w' => w'.cell? ⟨gf, 0, none⟩ = some (.int .i64 F) ∧ w'.cell? ⟨gf, 1, none⟩ = some (.slice A1 n c1) ∧ w'.cell? ⟨gg, 0, none⟩ = some (.int .i64 F) ∧ w'.cell? ⟨gg, 1, none⟩ = some (.slice A2 n c2))
              (first | exact HFC.out _ HYB.out | exact HFC.out _ HXB.out | exact HFC.out _ (Below.refl _ _) | exact HFC.out _ (Below.refl _ _).drew | go_keep)
              (first
                | (go_at_call 13; with_reducible refine (CX.out _ (by first | exact HYB.out | exact HYB.out.drew | exact Below.refl _ _ | exact (Below.refl _ w7).drew)).mono ?_; rintro e1 wX ⟨gX, ML, px, G, s, hd, vx, rfl, hbX⟩; have HXB := Lib.hid (show Below w7.heap.size w7 wX from by first | exact HYB.out.trans (hbX.below.mono HYB.out.size) | exact hbX.below | exact below_undrew hbX.below); have HX := Lib.hid hbX; clear hbX)
                | (go_at_call 13; with_reducible refine (CY.out _ (by first | exact HXB.out | exact HXB.out.drew | exact Below.refl _ _ | exact (Below.refl _ w7).drew)).mono ?_; rintro e2 wY ⟨gY, MY, py, H, sy, hy, vy, rfl, hbY⟩; have HYB := Lib.hid (show Below w7.heap.size w7 wY from by first | exact HXB.out.trans (hbY.below.mono HXB.out.size) | exact hbY.below | exact below_undrew hbY.below); have HY := Lib.hid hbY; clear hbY))
            all_goals
              go_wp2_with fail
              go_meet
              refine ⟨gX, ML, px, G, s, hd, gY, MY, py, H, sy, hy, rfl, rfl, Lib.hid ?_⟩
              first
                | exact two_of HX.out HY.out (by first | exact Below.refl _ _ | exact (Below.refl _ w7).drew) (by first | exact Below.refl _ _ | exact (Below.refl _ _).drew) (by omega) (by omega)
                | exact (two_of HY.out HX.out (by first | exact Below.refl _ _ | exact (Below.refl _ w7).drew) (by first | exact Below.refl _ _ | exact (Below.refl _ _).drew) (by omega) (by omega)).symm
          case rest =>
            obtain ⟨gX, ML, px, G, s, hd, gY, MY, py, H, sy, hy, rfl, rfl, HTW⟩ := hcut
            obtain ⟨w8, rfl⟩ : ∃ w8, w8 = wc := ⟨_, rfl⟩
            obtain ⟨bX, bY, hb7x, hb7y, hpr⟩ := two_pr HTW.out
            have PR0 := Lib.hid hpr
            have VX0 := Lib.hid (show s.vis ≤ 0 * 1000000 from by have := HTW.out.vx; omega)
            have VY0 := Lib.hid (show sy.vis ≤ 0 * 1000000 from by have := HTW.out.vy; omega)
            have BL0 := Lib.hid HTW.out.below
            clear hpr HTW CX CY HFC c0 c1' c2' c3
            have hx2 := PR0.out.x.blk.cell 2
            simp at hx2
            have hxl := PR0.out.x.blk.lt
            have CPX := Lib.hid (lv_propagate PR0.out.x PR0.out.sx (by omega) HTX.out (by have := VX0.out; omega))
            go_wp2_with fail
            with_reducible refine CPX.out.mono ?_
            rintro e w9 ⟨G1, hs1, hE1⟩
            obtain ⟨r1, b1, rfl, hF1, hT1⟩ := prop_end hE1
            have HF1 := Lib.hid (And.intro hF1 hT1)
            have HS1 := Lib.hid hs1
            have LY1 := Lib.hid (PR0.out.yAt hs1)
            have hsy := PR0.out.sy
            have hsz1 := hs1.size
            have hy2 := LY1.out.blk.cell 2
            simp at hy2
            have hyl := LY1.out.blk.lt
            have CPY := Lib.hid (lv_propagate LY1.out (by omega) (by omega) HTY.out (by have := VY0.out; omega))
            clear hE1 hF1 hT1 hs1 CPX hx2 hxl
            go_wp2_with fail
            with_reducible refine CPY.out.mono ?_
            rintro e w10 ⟨H1, hs2, hE2⟩
            obtain ⟨r2, b2, rfl, hF2, hT2⟩ := prop_end hE2
            obtain ⟨hbb, hov⟩ := ov_done PR0.out VX0.out VY0.out (Lib.hid fun _ => Iff.rfl).out HAL.out BL0.out hb7x hb7y HS1.out HF1.out.1 HF1.out.2 hs2 hF2 hT2
            have OV0 := Lib.hid hov
            rw [hbb]
            clear hE2 hF2 hT2 hs2 CPY hy2 hyl hov HF1 HS1 LY1 hsy hsz1 hbb b2
            clear PR0 VX0 VY0 BL0
            go_wp2_with fail
            go_loopg [13, 15, 83] (len + 1) (fun gk o1 o2 iv wr => ∃ (i : Nat) (b : Bool), i ≤ len ∧ gk = len - i + 1 ∧ o1 = .bool b ∧ o2 = .bool b ∧ iv = .int .i64 (i : Nat) ∧ Hid (OV w7 wr F bX yss gX ML px bY zss gY MY py (i * 1000000 + 1000000) b))
            case atStart => exact ⟨0, _, by omega, by omega, rfl, rfl, rfl, OV0⟩
            case round =>
              obtain ⟨i, b, hil, rfl, rfl, rfl, rfl, HV⟩ := hrel
              clear OV0
              have HBr := Lib.hid (HB7.out.trans (HV.out.bel.mono hs7))
              by_cases hlt : i < len
              · obtain ⟨qb, qo, rfl, hqb, hqc⟩ := HZ.out.2 (by omega)
                have n0 : wr.cell? ⟨qb, qo + i, none⟩ = some (.int .u16 (z i)) := (HBr.out.cell (p := ⟨qb, qo + i, none⟩) hqb).trans (hqc i (by omega))
                obtain ⟨hz0, hz1⟩ := HZ.out.1 i (by omega)
                obtain ⟨n9, hn9⟩ : ∃ n9, z i = n9 := ⟨_, rfl⟩
                rw [hn9] at n0 hz0 hz1
                have hiI : (i : Int) < (len : Int) := by omega
                clear hn9 hqc
                rcases b with _ | _
                · go_wp2_with fail
                  go_ret
                  exact ⟨rfl, HBr.out⟩
                · obtain ⟨G, cs, tx, sx, hdx, H, cs', ty, sy, hdy, hpr, hvx, hvy, hts⟩ := HV.out.st rfl
                  have P0 := Lib.hid hpr
                  have BL := Lib.hid HV.out.bel
                  have VX := Lib.hid hvx
                  have VY := Lib.hid hvy
                  have TSS := Lib.hid hts
                  clear hpr hvx hvy hts HV
                  have CLX := Lib.hid (lits13_any P0.out.x)
                  go_wp2_with fail
                  with_reducible refine CLX.out.mono ?_
                  rintro e w20 ⟨Ax, cx, rfl, hox, hbx⟩
                  have HOX := Lib.hid hox
                  have P20 := Lib.hid (P0.out.below hbx)
                  have B20 := Lib.hid (BL.out.trans (hbx.mono BL.out.size))
                  have CLY := Lib.hid (lits13_any P20.out.y)
                  clear hox hbx CLX
                  go_wp2_with fail
                  with_reducible refine CLY.out.mono ?_
                  rintro e w21 ⟨Ay, cy, rfl, hoy, hby⟩
                  have P21 := Lib.hid (P20.out.below hby)
                  have B21 := Lib.hid (B20.out.trans (hby.mono B20.out.size))
                  have hix : Ints w21 w20.heap.size Ax tx.lits := (ints_of_own HOX.out).below hby
                  have hiy : Ints w21 w21.heap.size Ay ty.lits := ints_of_own hoy
                  have hlx : tx.lits.length ≤ 1000 := by
                    have h1 := lits_len tx
                    have h2 := P20.out.x.pi.good.len
                    have h3 := P20.out.x.pi.ph
                    omega
                  have hly : ty.lits.length ≤ 1000 := by
                    have h1 := lits_len ty
                    have h2 := P20.out.y.pi.good.len
                    have h3 := P20.out.y.pi.ph
                    omega
                  have CSM := Lib.hid (same_any07 tx.lits ty.lits w20.heap.size w21.heap.size Ax Ay cx cy w21 (by omega) (by omega) hix hiy)
                  clear hoy hby hix hiy hlx hly CLY HOX P20 B20
                  go_wp2_with fail
                  with_reducible refine CSM.out.mono ?_
                  rintro e w22 ⟨sm, rfl, hsm, rfl⟩
                  obtain rfl : sm = true := hsm.2 TSS.out
                  clear hsm CSM
                  have f0 := HFL.out _ B21.out
                  have CD := Lib.hid (lv_decided P21.out.x P21.out.sx (by omega) n9 hz0 hz1)
                  clear P0 BL
                  go_wp2_with fail
                  with_reducible refine CD.out.mono ?_
                  rintro e w23 ⟨rfl, G3, hL3, hs3⟩
                  have P23 := Lib.hid (P21.out.step hs3 hL3)
                  have B23 := Lib.hid (B21.out.trans ((P21.out.bel hs3 (by omega)).mono (Nat.le_refl _)))
                  have f0 := HFL.out _ B23.out
                  have CD2 := Lib.hid (lv_decided P23.out.y P23.out.sy (by omega) n9 hz0 hz1)
                  clear hL3 hs3 CD
                  go_wp2_with fail
                  with_reducible refine CD2.out.mono ?_
                  rintro e w24 ⟨rfl, H4, hL4, hs4⟩
                  have P24 := Lib.hid (P23.out.symm.step hs4 hL4).symm
                  have B24 := Lib.hid (B23.out.trans ((P23.out.symm.bel hs4 (by omega)).mono (Nat.le_refl _)))
                  have TS24 := Lib.hid (dec_same P21.out.x.pi.good P21.out.y.pi.good P21.out.x.pi.ph P21.out.y.pi.ph TSS.out n9)
                  clear hL4 hs4 CD2 P23 B23 P21 B21
                  have hx2 := P24.out.x.blk.cell 2
                  simp at hx2
                  have hxl := P24.out.x.blk.lt
                  have CPX := Lib.hid (lv_propagate P24.out.x P24.out.sx (by omega) HTX.out (by have := VX.out; omega))
                  go_wp2_with fail
                  with_reducible refine CPX.out.mono ?_
                  rintro e w25 ⟨G1, hs1, hE1⟩
                  obtain ⟨r1, b1, rfl, hF1, hT1⟩ := prop_end hE1
                  have HF1 := Lib.hid (And.intro hF1 hT1)
                  have HS1 := Lib.hid hs1
                  have LY1 := Lib.hid (P24.out.yAt hs1)
                  have hsy := P24.out.sy
                  have hsz1 := hs1.size
                  have hy2 := LY1.out.blk.cell 2
                  simp at hy2
                  have hyl := LY1.out.blk.lt
                  have CPY := Lib.hid (lv_propagate LY1.out (by omega) (by omega) HTY.out (by have := VY.out; omega))
                  clear hE1 hF1 hT1 hs1 CPX hx2 hxl
                  go_wp2_with fail
                  with_reducible refine CPY.out.mono ?_
                  rintro e w26 ⟨H1, hs2, hE2⟩
                  obtain ⟨r2, b2, rfl, hF2, hT2⟩ := prop_end hE2
                  obtain ⟨hbb, hov⟩ := ov_done P24.out VX.out VY.out TS24.out HAL.out B24.out hb7x hb7y HS1.out HF1.out.1 HF1.out.2 hs2 hF2 hT2
                  have OV2 := Lib.hid hov
                  rw [hbb]
                  clear hE2 hF2 hT2 hs2 CPY hy2 hyl hov HF1 HS1 LY1 hsy hsz1 hbb b2
                  clear P24 B24 TS24 VX VY TSS f0
                  go_wp2_with fail
                  go_roundg (len - i)
                  case measure => omega
                  case rel => exact ⟨i + 1, _, by omega, by omega, rfl, rfl, by go_num, Lib.hid (by have h := OV2.out; rw [show i * 1000000 + 1000000 + 1000000 = (i + 1) * 1000000 + 1000000 by omega] at h; exact h)⟩
              · have hie : len = i := by omega
                subst hie
                rcases b with _ | _
                · go_wp2_with fail
                  go_ret
                  exact ⟨rfl, HBr.out⟩
                · obtain ⟨G, cs, tx, sx, hdx, H, cs', ty, sy, hdy, hpr, hvx, hvy, hts⟩ := HV.out.st rfl
                  have P0 := Lib.hid hpr
                  have BL := Lib.hid HV.out.bel
                  have TSS := Lib.hid hts
                  clear hpr hvx hvy hts HV
                  have CLX := Lib.hid (lits13_any P0.out.x)
                  go_wp2_with fail
                  with_reducible refine CLX.out.mono ?_
                  rintro e w20 ⟨Ax, cx, rfl, hox, hbx⟩
                  have HOX := Lib.hid hox
                  have P20 := Lib.hid (P0.out.below hbx)
                  have B20 := Lib.hid (BL.out.trans (hbx.mono BL.out.size))
                  have CLY := Lib.hid (lits13_any P20.out.y)
                  clear hox hbx CLX
                  go_wp2_with fail
                  with_reducible refine CLY.out.mono ?_
                  rintro e w21 ⟨Ay, cy, rfl, hoy, hby⟩
                  have P21 := Lib.hid (P20.out.below hby)
                  have B21 := Lib.hid (B20.out.trans (hby.mono B20.out.size))
                  have hix : Ints w21 w20.heap.size Ax tx.lits := (ints_of_own HOX.out).below hby
                  have hiy : Ints w21 w21.heap.size Ay ty.lits := ints_of_own hoy
                  have hlx : tx.lits.length ≤ 1000 := by
                    have h1 := lits_len tx
                    have h2 := P20.out.x.pi.good.len
                    have h3 := P20.out.x.pi.ph
                    omega
                  have hly : ty.lits.length ≤ 1000 := by
                    have h1 := lits_len ty
                    have h2 := P20.out.y.pi.good.len
                    have h3 := P20.out.y.pi.ph
                    omega
                  have CSM := Lib.hid (same_any07 tx.lits ty.lits w20.heap.size w21.heap.size Ax Ay cx cy w21 (by omega) (by omega) hix hiy)
                  clear hoy hby hix hiy hlx hly CLY HOX P20 B20
                  go_wp2_with fail
                  with_reducible refine CSM.out.mono ?_
                  rintro e w22 ⟨sm, rfl, hsm, rfl⟩
                  obtain rfl : sm = true := hsm.2 TSS.out
                  clear hsm CSM
                  have HBE := Lib.hid (HB7.out.trans (B21.out.mono hs7))
                  clear P0 BL P21 B21
                  go_wp2_with fail
                  go_ret
                  exact ⟨rfl, HBE.out⟩

theorem ord13_raw (u : Int) (nss : List (List Int)) (A : Option Addr) (c : Nat) (w : World) (Al : Option Addr) (len cap : Nat) (z : Nat → Int) (tn : Int) (htn : (Lit.int .u8 tn).wf = true) (hu : (Lit.int .u8 u).wf = true)
    (hx : nss.length ≤ 5864062014805) (m : ∀ j, (nss.getD j []).length * 2 ≤ 140737488351232) (hn : ∀ j i, (Lit.int .i16 ((nss.getD j []).getD i 0)).wf = true) (h : KRows .i16 w w.heap.size A nss) (hi : IsInts .u16 w Al len cap z) :
    Calls Try.prog 3 #[.agg #[.int .u8 u, .slice A nss.length c], .slice Al len cap, .int .u8 tn] w fun e w' => e = .returned (.bool true) ∧ Below w.heap.size w w' := by
  obtain ⟨v, rfl, hv⟩ := u8_nat13 hu
  obtain ⟨h1, h2, h3, h4⟩ := hi
  obtain ⟨k, rfl, hk⟩ := u8_nat13 htn
  exact ord13_any v nss A c w Al len cap z k hk h1 h2 (fun j hj => bounds_u16 (h3 j hj)) h4 hv (by omega) (fun j => by have := m j; omega) (fun j k => by have := bounds_i16 (hn j k); omega) h
end Go.Proofs.Ytbejjddkndcldaa
