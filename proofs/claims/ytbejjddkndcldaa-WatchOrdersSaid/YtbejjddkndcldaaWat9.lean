/- What the propagator's own calls do: Propagate. -/
import Derived.Test.YtbejjddkndcldaaWatB
namespace Go.Proofs.Ytbejjddkndcldaa
open Go.RowKit
set_option linter.unusedVariables false
set_option linter.unusedSimpArgs false

/-- a level more whose head is kept -/
theorem WM.heads {w : World} {px : Px} {F : Nat → Prop} {N : Nat} {hd : Nat → Value} {s : WS} (h : WM w px F N hd s) : ∃ Ah ch, w.cell? ⟨px.gW, 6, none⟩ = some (.slice Ah s.heads.length ch) ∧ w.frozen? ⟨px.gW, 6, none⟩ = false ∧ w.ownsRow 0 3 1 (.slice Ah s.heads.length ch) s.heads.length (startsV s.heads) ∧
    ∀ (wa w9 : World) (v : Value), Below w.heap.size w wa → wa.grownBy w9 (Value.slice Ah s.heads.length ch).ownBlock → w9.ownsRow 0 3 1 v (s.heads.length + 1) (startsV s.heads ++ [.int .i64 (s.head : Nat)]) → (v.ownBlock = (Value.slice Ah s.heads.length ch).ownBlock ∨ v.ownBlock = some wa.heap.size) →
      (w9.cell? ⟨px.gW, 6, none⟩ = some (.slice Ah s.heads.length ch) ∧ w9.frozen? ⟨px.gW, 6, none⟩ = false) ∧ ∃ F', WM (w9.setCell ⟨px.gW, 6, none⟩ v) px F' N hd { s with heads := s.heads ++ [s.head] } ∧ Ft F w (w9.setCell ⟨px.gW, 6, none⟩ v) ∧ NewF F F' w := by
  have hin := h.inF
  obtain ⟨Af, Ah, cf, ch, b1, b2, b3, b4, b5, b6⟩ := h.ex
  refine ⟨Ah, ch, by rw [b1.cell]; rfl, b1.frozen 6, b3, fun wa w9 v hb hg ho hv => ?_⟩
  have hs := hb.size
  have hAF : ∀ q, (Value.slice Ah s.heads.length ch).ownBlock = some q → F q := fun q hq => b5 q (.inr (.inr (.inr (.inr (by rw [← own_map]; exact hq)))))
  have far9 : ∀ x o, (Value.slice Ah s.heads.length ch).ownBlock ≠ some x → w.heap[x]? = some o → w9.heap[x]? = some o := fun x o h1 hxo => by
    have hlt := (Array.getElem?_eq_some_iff.1 hxo).1
    exact (hg.block x (by omega) (fun e => h1 e.symm)).trans ((hb.block x hlt).trans hxo)
  have bW9 : Blk w9 px.gW 79 (wcells px N s Af cf Ah ch) := far9 _ _ (owns_blk_ne b3 b1 (by decide)) b1
  obtain ⟨A', c', rfl, _⟩ := own_slice ho
  have ft9 : Ft F w w9 := (Ft.of_below hb).grown hg fun q hq _ => hAF q hq
  refine ⟨⟨by rw [bW9.cell]; rfl, bW9.frozen 6⟩, fun q => F q ∨ A'.map Addr.block = some q, ⟨⟨Af, A', cf, c', ?_, ?_, ?_, fun q h1 h2 => ?_, fun q hq => ?_, b6⟩, ?_, fun k hk => ?_, h.ne⟩, ft9.set (fun _ => hin.1) _ _, fun q hq => ?_⟩
  · have e : wcells px N { s with heads := s.heads ++ [s.head] } Af cf A' c' = (wcells px N s Af cf Ah ch).setIfInBounds 6 (.slice A' (s.heads.length + 1) c') := by
      simp [wcells]
    rw [e]
    exact bW9.set_ 6 _
  · have b29 := owns_stay b2 (w' := w9) fun q o hq hqo => far9 q o (fun e => b4 q (by rw [← own_map]; exact hq) (by rw [← own_map]; exact e)) hqo
    exact owns_stay b29 fun q o hq hqo => (Below.heap_setCell w9 _ _ q (fun e => owns_blk_ne b29 bW9 (by decide) (by rw [hq]; exact congrArg some e))).trans hqo
  · have : (s.heads ++ [s.head]).length = s.heads.length + 1 := by simp
    rw [this]
    have e2 : startsV (s.heads ++ [s.head]) = startsV s.heads ++ [.int .i64 (s.head : Nat)] := by simp [startsV]
    rw [e2]
    exact owns_stay ho fun q o hq hqo => (Below.heap_setCell w9 _ _ q (fun e => owns_blk_ne ho bW9 (by decide) (by rw [hq]; exact congrArg some e))).trans hqo
  · rcases hv with e | e
    · rw [own_map, own_map, h2] at e
      exact b4 q h1 e.symm
    · rw [own_map, h2] at e
      injection e with e
      have := (b2.lt q (by rw [own_map]; exact h1)).2
      omega
  · rcases hq with e | e | e | e | e
    · exact .inl (b5 q (.inl e))
    · exact .inl (b5 q (.inr (.inl e)))
    · exact .inl (b5 q (.inr (.inr (.inl e))))
    · exact .inl (b5 q (.inr (.inr (.inr (.inl e)))))
    · exact .inr e
  · exact (Below.heap_setCell w9 _ _ px.L (h.lists.ne_ b1 (by decide))).trans (far9 _ _ (owns_blk_ne b3 h.lists (by decide)) h.lists)
  · obtain ⟨A, c, e, hr⟩ := h.rows k hk
    have hr9 := owns_stay hr (w' := w9) fun q o hq hqo => far9 q o (fun e => owns_owns_ne hr b3 (by decide) hq e) hqo
    exact ⟨A, c, e, owns_stay hr9 fun q o hq hqo => (Below.heap_setCell w9 _ _ q (fun e => owns_blk_ne hr9 bW9 (by decide) (by rw [hq]; exact congrArg some e))).trans hqo⟩
  · rcases hq with hq | hq
    · exact .inl hq
    · rcases hv with e | e
      · exact .inl (hAF q (by rw [← e, own_map]; exact hq))
      · rw [own_map, hq] at e
        injection e with e
        exact .inr (by omega)
section
variable {w : World} {base : Nat} {px : Px} {N : Nat} {G : Nat → Prop} {cs0 cs : List Cl} {t : TS} {s : WS} {hd : Nat → Value} {L0 : List Int}
theorem Ob.heads (h : Ob w base px N G cs t s hd) (hB : base ≤ w.heap.size) : ∃ Ah ch, w.cell? ⟨px.gW, 6, none⟩ = some (.slice Ah s.heads.length ch) ∧ w.ownsRow 0 3 1 (.slice Ah s.heads.length ch) s.heads.length (startsV s.heads) ∧
    ∀ (wa w9 : World) (v : Value), Below w.heap.size w wa → wa.grownBy w9 (Value.slice Ah s.heads.length ch).ownBlock → w9.ownsRow 0 3 1 v (s.heads.length + 1) (startsV s.heads ++ [.int .i64 (s.head : Nat)]) → (v.ownBlock = (Value.slice Ah s.heads.length ch).ownBlock ∨ v.ownBlock = some wa.heap.size) →
      (w9.cell? ⟨px.gW, 6, none⟩ = some (.slice Ah s.heads.length ch) ∧ w9.frozen? ⟨px.gW, 6, none⟩ = false) ∧ ∃ G', Ob (w9.setCell ⟨px.gW, 6, none⟩ v) base px N G' cs t { s with heads := s.heads ++ [s.head] } hd ∧ St G G' w (w9.setCell ⟨px.gW, 6, none⟩ v) := by
  obtain ⟨FT, FW, h1, h2, h3, d1, d2, d3, d4⟩ := h.ex
  obtain ⟨Ah, ch, k1, k2, k3, k4⟩ := h3.heads
  refine ⟨Ah, ch, k1, k3, fun wa w9 v hb hg ho hv => ?_⟩
  obtain ⟨m1, F', m2, m3, m4⟩ := k4 wa w9 v hb hg ho hv
  exact ⟨m1, h.of_watch h1 h2 d1 d2 d3 d4 hB m2 m3 m4⟩

theorem PI.pushHead (h : PI N cs0 cs t s) (hl : s.heads.length < t.starts.length) : PI N cs0 cs t { s with heads := s.heads ++ [s.head] } :=
  ⟨h.cls, h.good, h.ph, h.lst, h.dn, h.sh, h.fre, h.hd, by simp; omega⟩
theorem two_ends {e : Ending} {P Q : Prop} (h : (∃ r : Int, e = .returned (.tuple #[.int .i64 r, .bool false]) ∧ P) ∨ (e = .returned (.tuple #[.int .i64 0, .bool true]) ∧ Q)) : ∃ (r : Int) (b : Bool), e = .returned (.tuple #[.int .i64 r, .bool b]) ∧ ((b = false ∧ P) ∨ (b = true ∧ r = 0 ∧ Q)) := by
  rcases h with ⟨r, he, hp⟩ | ⟨he, hq⟩
  · exact ⟨r, false, he, .inl ⟨rfl, hp⟩⟩
  · exact ⟨0, true, he, .inr ⟨rfl, rfl, hq⟩⟩
/-- what Propagate does -/
def Pro (w : World) (base : Nat) (px : Px) (N : Nat) (G : Nat → Prop) (cs0 : List Cl) (t : TS) (s : WS) (e : Ending) (w' : World) : Prop :=
  ∃ G', St G G' w w' ∧ ((∃ r : Int, e = .returned (.tuple #[.int .i64 r, .bool false]) ∧ Clash (cs0.map Cl.lits) t.lits ∧ Seen w' px s.vis) ∨
    (e = .returned (.tuple #[.int .i64 0, .bool true]) ∧ ∃ cs' t' s' hd', Ob w' base px N G' cs' t' s' hd' ∧ PI N cs0 cs' t' s' ∧ s'.fresh = [] ∧ Told (cs0.map Cl.lits) t.lits t'.lits true ∧ Grw cs0 t t' ∧ s.vis ≤ s'.vis ∧ s'.vis ≤ s.vis + s.fresh.length + N * total cs0))
structure Pr1 (w wr : World) (base : Nat) (px : Px) (N : Nat) (G : Nat → Prop) (cs0 cs : List Cl) (t : TS) (s : WS) (hd : Nat → Value) (i : Nat) : Prop where
  ex : ∃ s' G', Ob wr base px N G' cs t s' hd ∧ St G G' w wr ∧ PI N cs0 cs t s' ∧ s'.fresh = s.fresh ∧ s'.vis = s.vis ∧ s'.heads.length = i
structure Pr2 (w wr : World) (base : Nat) (px : Px) (N : Nat) (G : Nat → Prop) (cs0 : List Cl) (t : TS) (s : WS) (k : Nat) : Prop where
  ex : ∃ cs' t' s' G' hd', Ob wr base px N G' cs' t' s' hd' ∧ St G G' w wr ∧ PI N cs0 cs' t' s' ∧ s'.fresh = [] ∧ s'.head = k ∧ (∀ x ∈ t'.lits, Fol (cs0.map Cl.lits) t.lits x) ∧ Grw cs0 t t' ∧ s.vis ≤ s'.vis ∧ s'.vis ≤ s.vis + s.fresh.length + k * total cs0

set_option maxRecDepth 100000 in
set_option maxHeartbeats 4000000 in
theorem propagate_any (h : Ob w base px N G cs t s hd) (hB : base ≤ w.heap.size) (hN : N ≤ 1000) (ht : total cs0 ≤ 100000) (hal : ∀ c ∈ cs0, c.alive = true) (hp : PI N cs0 cs t s) (hf : s.fresh.length ≤ 1000000) (hvis : s.vis ≤ 274877906944) :
    Calls Try.prog 14 #[.pointer (some ⟨px.gW, 0, none⟩)] w (Pro w base px N G cs0 t s) := by
  have hsl := hp.good.starts_len
  have hrl := hp.good.len
  have hph := hp.ph
  obtain ⟨V, hV⟩ : ∃ V, t.starts.length = V := ⟨_, rfl⟩
  obtain ⟨i0, hi, hz0, hz1, hz2⟩ := info_parts infoI12
  have HZ := Lib.hid (And.intro hi (And.intro hz0 (And.intro hz1 hz2)))
  have HST := Lib.hid (show Pr1 w w base px N G cs0 cs t s hd s.heads.length from ⟨s, G, h, St.refl w, hp, rfl, rfl, rfl⟩)
  have hlev := hp.lev
  rw [hV] at hsl hlev
  obtain ⟨h0, hh0⟩ : ∃ h0, s.heads.length = h0 := ⟨_, rfl⟩
  rw [hh0] at HST hlev
  have HG := Lib.hid hp.good
  have HV := Lib.hid hV
  have HPH := Lib.hid hph
  have HAL := Lib.hid hal
  have hVN : V ≤ 1000 := by omega
  clear h hp hi hz0 hz1 hz2 hV hh0 hph hal hsl hrl
  go_enter Try.func14, Try.ntmps14
  go_wp2_with fail
  go_loopg [] (V - h0 + 1) (fun gk wr => ∃ i : Nat, i ≤ V ∧ gk = V - i + 1 ∧ Hid (Pr1 w wr base px N G cs0 cs t s hd i))
  case atStart => exact ⟨h0, hlev, rfl, HST⟩
  case round =>
    obtain ⟨i, hiV, rfl, HM⟩ := hrel
    obtain ⟨s', G', ho, hst, hpi, hfr, hvs, hhl⟩ := HM.out.ex
    have hBr := Nat.le_trans hB hst.size
    obtain ⟨Ah, ch, x6, orow, hup⟩ := ho.heads hBr
    rw [hhl] at x6 orow hup
    have hkeep : ∀ (n : Nat) (os : Array Obj) (j : Nat), (Go.Sort.grow (wr.drewN n) os).cell? ⟨px.gW, j, none⟩ = wr.cell? ⟨px.gW, j, none⟩ := fun n os j => Go.Sort.cell?_grow (wr.drewN n) os _ (by show px.gW < _; exact ho.size)
    have f1 := fun n os => (ho.cell n os).2
    have f6 : ∀ n os, (Go.Sort.grow (wr.drewN n) os).cell? ⟨px.gW, 6, none⟩ = some (.slice Ah i ch) := fun n os => by rw [hkeep]; exact x6
    have CLv := Lib.hid (fun n os => gr_same (HV.out ▸ level_any ((ho.gr (grow_gr wr n os)).tr HG.out)))
    have HO := Lib.hid ho
    have HST1 := Lib.hid hst
    have HPI := Lib.hid hpi
    have HFR := Lib.hid (And.intro hfr (And.intro hvs hhl))
    have HUP := Lib.hid hup
    have HRW := Lib.hid orow
    have HBR := Lib.hid hBr
    clear ho hst hpi hfr hvs hhl hup orow hkeep x6 hBr
    go_wp2_with fail
    refine wp_region_quiet_grown (by kernel_rfl) (by kernel_rfl) ?_
    repeat (go_big_quiet_step (first
      | (go_at_call 44; with_reducible exact Calls.grown_of (CLv.out _ _))))
    refine wpQuiet_nil ?_
    rintro _ ⟨⟨nq, osq⟩, rfl⟩
    obtain ⟨w1, hw1⟩ : ∃ w1, Go.Sort.grow (wr.drewN nq) osq = w1 := ⟨_, rfl⟩
    have HG1 := Lib.hid (grow_gr wr nq osq)
    rw [hw1] at HG1 ⊢
    clear hw1 f1 f6 CLv
    have h1 := HO.out.gr HG1.out
    have HS1 := Lib.hid (HST1.out.gr HG1.out)
    have H1 := Lib.hid h1
    clear HRW HUP HBR HST1 HO HG1
    by_cases hlt : i < V
    · have hB1 := Nat.le_trans hB HS1.out.size
      obtain ⟨A2, c2, x6, orow, hup⟩ := h1.heads hB1
      rw [HFR.out.2.2] at x6 orow hup
      obtain ⟨FW1, hw1⟩ := h1.wm
      have x5 := hw1.cells.2.1
      have hgl := h1.size
      obtain ⟨k, hk⟩ : ∃ k, s'.head = k := ⟨_, rfl⟩
      rw [hk] at x5 hup
      obtain ⟨wa, hwa⟩ : ∃ wa, wa = (w1.alloc (.cells #[.int .i64 (k : Nat)] 3)).drew := ⟨_, rfl⟩
      have hba : Below w1.heap.size w1 wa := by rw [hwa]; exact ((Below.refl _ _).alloc (Nat.le_refl _) _).drew
      have HA2 := Lib.hid (owns_stay orow (w' := wa) fun q o _ hq => (hba.block q (Array.getElem?_eq_some_iff.1 hq).1).trans hq)
      have HAC := Lib.hid (show wa.cell? ⟨w1.heap.size, 0, none⟩ = some (.int .i64 (k : Nat)) by rw [hwa]; go_cell)
      have HUP := Lib.hid (fun w9 v => hup wa w9 v hba)
      have HWA := Lib.hid hwa
      have HNX := Lib.hid (HPI.out.pushHead (by rw [HFR.out.2.2, HV.out]; exact hlt))
      have HHK := Lib.hid hk
      clear hup orow hw1 hwa hba h1 hk
      go_wp2_with fail
      go_region_law (first | (rw [← HWA.out]; refine step_app12 rfl (.tmp 23) (.tmp 28) 32 rfl 0 3 i0 (.int .i64 0) 8 Try.underlying32 HZ.out.1 HZ.out.2.1 HZ.out.2.2.1 HZ.out.2.2.2 rfl (.slice A2 i c2) i (startsV s'.heads) rfl HA2.out (.int .i64 (k : Nat)) w1.heap.size rfl HAC.out rfl (by unfold maxLen; omega) (by omega) (Nat.zero_le _) ?_; intro v' w3 hown3 hg3 hat3; obtain ⟨A3, c3, hv3, -⟩ := own_slice hown3; subst hv3; have hE := HUP.out w3 _ hg3 hown3 hat3; obtain ⟨⟨dC, dF⟩, G3, k1, k2⟩ := hE; have HK := Lib.hid (And.intro k1 k2); clear hown3 hg3 hat3 k1 k2))
      all_goals
        go_wp2_with fail
        go_roundg (V - i)
        case measure => omega
        case rel => exact ⟨i + 1, by omega, by omega, Lib.hid ⟨{ s' with heads := s'.heads ++ [s'.head] }, G3, by have hk9 := HK.out.1; rw [← HHK.out] at hk9; exact hk9, HS1.out.trans HK.out.2, HNX.out, HFR.out.1, HFR.out.2.1, by simp [HFR.out.2.2]⟩⟩
    · have CS := Lib.hid (settle_any (L0 := t.lits) h1 (Nat.le_trans hB HS1.out.size) (by omega) (by omega) HPI.out (fun x hx => Fol.given hx) (by rw [HFR.out.1]; exact hf) (by rw [HFR.out.2.1]; omega))
      clear h1
      go_wp2_with fail
      refine CS.out.mono ?_
      rintro e w2 ⟨G2, hs2, ⟨r, rfl, hcl⟩ | ⟨rfl, t2, hd2, ho2, hp2, hso2, hg2⟩⟩
      · have HF := Lib.hid (And.intro (HS1.out.trans hs2) hcl)
        clear hs2 hcl CS
        go_wp2
        go_ret2
        exact ⟨G2, HF.out.1, .inl ⟨r, rfl, HF.out.2.1, HFR.out.2.1 ▸ HF.out.2.2⟩⟩
      · have HM2 := Lib.hid (show Pr2 w w2 base px N G cs0 t s s'.head from ⟨cs, t2, { s' with fresh := [], vis := s'.vis + s'.fresh.length }, G2, hd2, ho2, HS1.out.trans hs2, hp2, rfl, rfl, hso2, hg2, by show s.vis ≤ s'.vis + _; rw [HFR.out.2.1]; omega, by show s'.vis + s'.fresh.length ≤ _; rw [HFR.out.2.1, HFR.out.1]; omega⟩)
        have hkN : s'.head ≤ N := by
          have h1 := HPI.out.hd
          have h2 := HPI.out.good.len
          have h3 := HPI.out.ph
          have h4 : t.lits.length = t.recs.length := by simp [TS.lits]
          omega
        obtain ⟨k0, hk0⟩ : ∃ k0, s'.head = k0 := ⟨_, rfl⟩
        rw [hk0] at HM2 hkN
        clear hs2 ho2 hp2 hso2 hg2 CS HM HPI HFR HS1 H1 hk0
        obtain ⟨w3, rfl⟩ : ∃ w3 : World, w3 = wr := ⟨_, rfl⟩
        go_wp2_with fail
        go_loopg [] (N - k0 + 1) (fun gk wr => ∃ k : Nat, k ≤ N ∧ gk = N - k + 1 ∧ Hid (Pr2 w wr base px N G cs0 t s k))
        case atStart => exact ⟨k0, hkN, rfl, HM2⟩
        case round =>
          obtain ⟨k, hkN, rfl, HM⟩ := hrel
          obtain ⟨cs', t', s', G', hd', ho, hst, hpi, hfr, hhk, hso, hgw, hv1, hv2⟩ := HM.out.ex
          have hkeep : ∀ (n : Nat) (os : Array Obj) (j : Nat), (Go.Sort.grow (wr.drewN n) os).cell? ⟨px.gW, j, none⟩ = wr.cell? ⟨px.gW, j, none⟩ := fun n os j => Go.Sort.cell?_grow (wr.drewN n) os _ (by show px.gW < _; exact ho.size)
          have f1 := fun n os => (ho.cell n os).2
          obtain ⟨FW3, hw3⟩ := ho.wm
          have f5 : ∀ n os, (Go.Sort.grow (wr.drewN n) os).cell? ⟨px.gW, 5, none⟩ = some (.int .i64 (k : Nat)) := fun n os => by rw [hkeep, hw3.cells.2.1, hhk]
          obtain ⟨n, hn⟩ : ∃ n, t'.recs.length = n := ⟨_, rfl⟩
          have CLn := Lib.hid (fun m os => gr_same (hn ▸ len_any ((ho.gr (grow_gr wr m os)).tr hpi.good)))
          have HNN := Lib.hid hn
          have HD := Lib.hid (And.intro ho (And.intro hst (And.intro hpi (And.intro hfr (And.intro hhk (And.intro hso (And.intro hgw (And.intro hv1 hv2))))))))
          clear ho hst hpi hfr hhk hso hgw hv1 hv2 hkeep hw3 hn
          go_wp2_with fail
          refine wp_region_quiet_grown (by kernel_rfl) (by kernel_rfl) ?_
          repeat (go_big_quiet_step (first
            | (go_at_call 35; with_reducible exact Calls.grown_of (CLn.out _ _))))
          refine wpQuiet_nil ?_
          rintro _ ⟨⟨nq, osq⟩, rfl⟩
          obtain ⟨w4, hw4⟩ : ∃ w4, Go.Sort.grow (wr.drewN nq) osq = w4 := ⟨_, rfl⟩
          have HG4 := Lib.hid (grow_gr wr nq osq)
          rw [hw4] at HG4 ⊢
          clear hw4 f1 f5 CLn
          obtain ⟨ho, hst, hpi, hfr, hhk, hso, hgw, hv1, hv2⟩ := HD.out
          have h4 := ho.gr HG4.out
          have HS4 := Lib.hid (hst.gr HG4.out)
          have hrl : t'.recs.length ≤ N := by have := hpi.good.len; have := hpi.ph; omega
          by_cases hlt : k < n
          · obtain ⟨x, hx⟩ : ∃ x, t'.lits[k]? = some x := ⟨_, List.getElem?_eq_getElem (by have := HNN.out; simp [TS.lits]; omega)⟩
            have hat : atT t'.recs (k : Int) = x := by
              unfold atT
              rw [if_pos (by omega), Int.toNat_natCast]
              have : (t'.recs.map Rec.l)[k]? = some x := hx
              rw [List.getElem?_map] at this
              rw [this]; rfl
            have hxb := lits_ne hpi.good (List.mem_of_getElem? hx)
            have hxN : x ≠ 0 ∧ x.natAbs ≤ N := by rw [hpi.ph] at hxb; exact hxb
            have hxr : -100000 ≤ x ∧ x ≤ 100000 := by omega
            have hvi := hpi.vi (L0 := t.lits) (l := -x) hfr hso (by rw [hhk, Int.neg_neg]; exact hx)
            have CAt := Lib.hid (hat ▸ at_any12 ((h4.drewE (w' := w4.drew) ⟨1, rfl⟩).tr hpi.good) (k : Int))
            have CVi := Lib.hid (show ∀ w5, (∃ m, w5 = w4.drew.drewN m) → Calls Try.prog 46 #[.pointer (some ⟨px.gW, 0, none⟩), .int .i64 (IntKind.i64.wrap (-x))] w5 (Vis w5 base px N G' cs0 t.lits (litIndex (-x)).toNat (-x) t' s') from fun w5 hd5 => by
              rw [i64_ok (x := -x) (by omega)]
              exact visit_any ((h4.drewE (w' := w4.drew) ⟨1, rfl⟩).drewE hd5) (by have := HS4.out.size; obtain ⟨m, rfl⟩ := hd5; show base ≤ w4.heap.size; omega) (by omega) (by omega) hvi (by
                have h9 : k * total cs0 ≤ 1000 * 100000 := Nat.mul_le_mul (by omega) ht
                omega))
            obtain ⟨FW4, hw4⟩ := h4.wm
            have x1 := hw4.cells.1.2.1
            have x5 := hw4.cells.2.1
            rw [hhk] at x5
            have hgl := h4.size
            have HX := Lib.hid (And.intro hx hfr)
            have HPI := Lib.hid (And.intro hpi (And.intro hhk (And.intro hgw (And.intro hv1 hv2))))
            clear ho hst hpi hfr hhk hso hgw hv1 hv2 h4 hx hat hxb hxN hvi hw4 HD hrl
            go_wp2_with fail
            go_region_law (first
              | (go_simp; go_at_call 47; refine CAt.out.mono ?_; rintro e5 w5 ⟨rfl, hd5⟩; have CV5 := Lib.hid (CVi.out w5 hd5); have HD5 := Lib.hid hd5; clear hd5)
              | ((try (go_simp)); go_at_call 46; with_reducible refine CV5.out.mono ?_; intro e6 w6 hvv; unfold Vis at hvv; obtain ⟨G6, hs6, hE⟩ := hvv; have HS6 := Lib.hid hs6; clear hs6; obtain ⟨r6, b6, rfl, hE2⟩ := two_ends hE; have HE6 := Lib.hid hE2; clear hE hE2))
            all_goals
              have HS7 := Lib.hid (((HS4.out.drewE ⟨1, rfl⟩).drewE HD5.out).trans HS6.out)
              rcases HE6.out with ⟨rfl, hcl⟩ | ⟨rfl, rfl, cs6, t6, s6, hd6, ho6, hv6, hk6⟩
              · have HCL := Lib.hid hcl
                clear hcl x1 x5 hgl
                go_wp2
                go_ret2
                exact ⟨G6, HS7.out, .inl ⟨r6, rfl, HCL.out.1, HCL.out.2.less HPI.out.2.2.2.1⟩⟩
              · obtain ⟨hpi, hhk, hgw, hv1, hv2⟩ := HPI.out
                obtain ⟨hx, hfr⟩ := HX.out
                obtain ⟨more, hmore⟩ := hk6.grw.lits
                have hf6 : s6.fresh = [] := hk6.fresh.trans hfr
                have hk6h : s6.head = k := hk6.head.trans hhk
                have hkl := (List.getElem?_eq_some_iff.1 hx).1
                have hl6 : t6.lits[s6.head]? = some (-(-x)) := by rw [hk6h, hmore, List.getElem?_append_left hkl, hx, Int.neg_neg]
                have hp6 := hv6.fin hf6 hl6 (by rw [hk6.heads, hk6.grw.1]; exact hpi.lev)
                obtain ⟨k1, k2⟩ := ho6.setHead (k + 1)
                have hcast : ((k + 1 : Nat) : Int) = (k : Int) + 1 := by omega
                rw [hcast] at k1 k2
                rw [hk6h] at hp6
                obtain ⟨FW6, hw6⟩ := ho6.wm
                have y5 := hw6.cells.2.1
                rw [hk6h] at y5
                have y5f := hw6.frz 5
                have hkN2 : k + 1 ≤ N := by
                  have h1 := hpi.good.len
                  have h2 := hpi.ph
                  have h3 := HNN.out
                  omega
                have hvt : s6.vis ≤ s.vis + s.fresh.length + (k + 1) * total cs0 := by
                  have h1 := hk6.hi
                  have h2 : (k + 1) * total cs0 = k * total cs0 + total cs0 := Nat.succ_mul _ _
                  omega
                have HNX := Lib.hid (show Pr2 w (w6.setCell ⟨px.gW, 5, none⟩ (.int .i64 ((k : Int) + 1))) base px N G cs0 t s (k + 1) from ⟨cs6, t6, { s6 with head := k + 1 }, G6, hd6, k1, HS7.out.trans k2, hp6, hf6, rfl, hv6.snd, hgw.trans hk6.grw, by show s.vis ≤ s6.vis; have := hk6.lo; omega, hvt⟩)
                have hgl6 := ho6.size
                clear ho6 hv6 hk6 hpi hhk hgw hv1 hv2 hx hfr hmore hf6 hk6h hkl hl6 hp6 k1 k2 hcast hw6 hvt x1 x5 hgl HE6
                go_wp2_with fail
                go_roundg (N - k)
                case measure => omega
                case rel => exact ⟨k + 1, hkN2, by omega, HNX⟩
          · have hll : t'.lits.length = n := by rw [← HNN.out]; simp [TS.lits]
            have hkn : s'.head = t'.lits.length := by
              have := hpi.hd
              omega
            have hdn := hpi.dn
            rw [hkn] at hdn
            have hsh := hpi.sh
            rw [hfr] at hsh
            obtain ⟨more, hmore⟩ := hgw.lits
            have HT := Lib.hid (told_done hpi.cls HAL.out hpi.good hdn hsh (fun x hx => by rw [hmore]; exact List.mem_append_left _ hx) hso)
            have HFI := Lib.hid (And.intro h4 (And.intro hpi (And.intro hfr (And.intro hgw (And.intro hv1 hv2)))))
            have hvt : s'.vis ≤ s.vis + s.fresh.length + N * total cs0 := by
              have : k * total cs0 ≤ N * total cs0 := Nat.mul_le_mul_right _ hkN
              omega
            clear ho hst hpi hfr hhk hso hgw hv1 hv2 h4 hrl hll hkn hdn hsh hmore HD
            go_wp2
            go_ret2
            exact ⟨G', HS4.out, .inr ⟨rfl, cs', t', s', hd', HFI.out.1, HFI.out.2.1, HFI.out.2.2.1, HT.out, HFI.out.2.2.2.1, HFI.out.2.2.2.2.1, hvt⟩⟩
end
end Go.Proofs.Ytbejjddkndcldaa
