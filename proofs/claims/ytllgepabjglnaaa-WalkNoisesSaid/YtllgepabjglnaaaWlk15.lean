/- Package walk: a walker in memory, the least number's index, the literal that is chosen. -/
import Derived.Test.YtllgepabjglnaaaSt15
import Derived.Deep.RegionHeld3
import Derived.Deep.RegionLaw
import Derived.BigQuiet
namespace Go.Proofs.Ytllgepabjglnaaa
open Go.RowKit
set_option linter.unusedVariables false
set_option linter.unusedSimpArgs false

theorem szI15 (w : World) : (sizeOf 3).run Try.prog w = .ok 1 w := by kernel_rfl
theorem cut_none15 (w : World) : (Instr.slice 48 (.slice none 0 0) none (some (.int .i64 0)) none).run Try.prog w = .ok (.slice none 0 0) w := by
  simp [Instr.slice, run_underlying Try.underlying48, Instr.sliceBounds, go_sem, szI15, Result.andThen]
theorem cut_front15 (w : World) (b off n c : Nat) : (Instr.slice 48 (.slice (some ⟨b, off, none⟩) n c) none (some (.int .i64 0)) none).run Try.prog w = .ok (.slice (some ⟨b, off, none⟩) 0 c) w := by
  have h2 : (0 : Int) ≤ (c : Int) := by omega
  simp [Instr.slice, run_underlying Try.underlying48, Instr.sliceBounds, go_sem, h2, szI15, Result.andThen]
/-- a row of one's own cut to nothing: it keeps its memory -/
theorem own_cut15 {w : World} {base n : Nat} {A : Option Addr} {c : Nat} {xs : List Value} (h : w.ownsRow base 3 1 (.slice A n c) n xs) :
    w.ownsRow base 3 1 (.slice A 0 c) 0 [] ∧ (∀ W, (Instr.slice 48 (.slice A n c) none (some (.int .i64 0)) none).run Try.prog W = .ok (.slice A 0 c) W) ∧ (Value.slice A 0 c).ownBlock = (Value.slice A n c).ownBlock := by
  rcases h.2 with ⟨hv, _⟩ | ⟨g', cap', cur, hv, hb', hg', hnc, hmx, hcs, htk⟩
  · injection hv with hA hn hc
    subst hA hn hc
    exact ⟨World.ownsRow_nil _ _ _ _, cut_none15, rfl⟩
  · injection hv with hA _ hc
    subst hA hc
    exact ⟨⟨rfl, .inr ⟨g', c, cur, rfl, hb', hg', Nat.zero_le _, hmx, hcs, by simp⟩⟩, fun W => cut_front15 W g' 0 n c, rfl⟩

set_option maxHeartbeats 1000000 in
theorem least_any15 {w : World} {A : Option Addr} {bs : List Int} {c : Nat} (hx : Ints w w.heap.size A bs) (hl : bs.length ≤ 4096) (h0 : 0 < bs.length) :
    Calls Try.prog 69 #[.slice A bs.length c] w fun e w' => e = .returned (.int .i64 (leastTo bs bs.length : Nat)) ∧ w = w' := by
  have HX := Lib.hid hx
  obtain ⟨n, hn⟩ : ∃ n, bs.length = n := ⟨_, rfl⟩
  have HN := Lib.hid hn
  rw [hn] at hl h0 ⊢
  clear hx hn
  go_enter Try.func69, Try.ntmps69
  go_wp2
  go_loopg [3, 8] (n + 1) (fun gk tb ti wr => ∃ (j m : Nat), w = wr ∧ j ≤ n ∧ gk = n - j + 1 ∧ ti = .int .i64 (j : Nat) ∧ tb = .int .i64 (m : Nat) ∧ Hid (m = leastTo bs j))
  case atStart => exact ⟨0, 0, rfl, by omega, by omega, rfl, rfl, Lib.hid rfl⟩
  case round =>
    obtain ⟨j, m, hw, hj, rfl, rfl, rfl, HM⟩ := hrel
    subst hw
    by_cases hlt : j < n
    · have hml : m < n := by
        rw [HM.out]
        rcases Nat.eq_zero_or_pos j with h | h
        · rw [h]; exact h0
        · have := leastTo_lt bs j h; omega
      obtain ⟨ab, off, eA, hab, hcell⟩ := HX.out.at_ (k := j) (by have := HN.out; omega)
      obtain ⟨ab2, off2, eA2, hab2, hcell2⟩ := HX.out.at_ (k := m) (by have := HN.out; omega)
      rw [eA] at eA2
      injection eA2 with eA2
      injection eA2 with e1 e2
      subst e1 e2
      have hnx : leastTo bs (j + 1) = if bs.getD j 0 < bs.getD m 0 then j else m := by rw [HM.out]; rfl
      obtain ⟨x, hx⟩ : ∃ x, bs.getD j 0 = x := ⟨_, rfl⟩
      obtain ⟨y, hy⟩ : ∃ y, bs.getD m 0 = y := ⟨_, rfl⟩
      rw [hx] at hcell hnx
      rw [hy] at hcell2 hnx
      have hjn : (j : Int) < (n : Int) := by omega
      have hmn : (m : Int) < (n : Int) := by omega
      subst eA
      clear hx hy
      by_cases hxy : x < y
      · rw [if_pos hxy] at hnx
        have HNX := Lib.hid hnx
        clear hnx
        go_wp2
        go_roundg (n - j)
        case measure => omega
        case rel => exact ⟨j + 1, j, rfl, by omega, by omega, by go_num, rfl, Lib.hid HNX.out.symm⟩
      · rw [if_neg hxy] at hnx
        have HNX := Lib.hid hnx
        clear hnx
        go_wp2
        go_roundg (n - j)
        case measure => omega
        case rel => exact ⟨j + 1, m, rfl, by omega, by omega, by go_num, rfl, Lib.hid HNX.out.symm⟩
    · have hjn : n = j := by omega
      subst hjn
      go_wp2
      go_ret
      exact ⟨by rw [HM.out]; rfl, rfl⟩

/-- the table, where there is one -/
def tabV (y : Wy) (gt : Nat) : Value := match y with
  | .tab _ _ => .pointer (some ⟨gt, 0, none⟩)
  | .noise _ => .pointer none
def TabIf (w : World) (y : Wy) (gt : Nat) : Prop := match y with
  | .tab e b => Tab w gt e b
  | .noise _ => True
def wkC (g r : Nat) (y : Wy) (gt : Nat) (v : Value) : Array Value := #[.pointer (some ⟨g, 0, none⟩), .pointer (some ⟨r, 0, none⟩), .int .i64 (y.nz : Nat), tabV y gt, v]
/-- a walker in memory: all that is its own lies from K on, and is none of the state's -/
structure Wkr (w : World) (ρ : Nat → Nat) (K r gw g : Nat) (y : Wy) : Prop where
  ex : ∃ gt A n c ys, Blk w gw 105 (wkC g r y gt (.slice A n c)) ∧ w.ownsRow K 3 1 (.slice A n c) n ys ∧ TabIf w y gt ∧ (∀ q, (Value.slice A n c).ownBlock = some q → ρ q = 0) ∧ ρ gt = 0 ∧ K ≤ gt ∧ gt < w.heap.size
  lo : K ≤ gw
  ro : ρ gw = 0
  rK : r < K
theorem tabIf_keep {w w' : World} {y : Wy} {gt : Nat} (h : TabIf w y gt) (hk : gt < w.heap.size → w'.heap[gt]? = w.heap[gt]?) : TabIf w' y gt := by
  cases y with
  | tab e b => exact (hk (Tab.lt h)).trans h
  | noise n => trivial
/-- where nothing of the walker's turns -/
theorem Wkr.keep {w w' : World} {ρ ρ' : Nat → Nat} {K r gw g : Nat} {y : Wy} (h : Wkr w ρ K r gw g y) (hf : ∀ q, q < w.heap.size → K ≤ q → ρ q = 0 → w'.heap[q]? = w.heap[q]?) (hr : ∀ q, q < w.heap.size → ρ' q = ρ q) (hs : w.heap.size ≤ w'.heap.size) : Wkr w' ρ' K r gw g y := by
  obtain ⟨gt, A, n, c, ys, h1, h2, h3, h4, h5, h6, h7⟩ := h.ex
  refine ⟨⟨gt, A, n, c, ys, (hf gw h1.lt h.lo h.ro).trans h1, ?_, tabIf_keep h3 fun e => hf gt e h6 h5, fun q hq => (hr q (h2.lt q hq).2).trans (h4 q hq), (hr gt h7).trans h5, h6, by omega⟩, h.lo, (hr gw h1.lt).trans h.ro, h.rK⟩
  refine ⟨h2.1, ?_⟩
  rcases h2.2 with e | ⟨g', cap, cur, hv, hb', hh, rest⟩
  · exact .inl e
  · have hq : (Value.slice A n c).ownBlock = some g' := by rw [hv]; rfl
    exact .inr ⟨g', cap, cur, hv, hb', (hf g' (h2.lt g' hq).2 (h2.lt g' hq).1 (h4 g' hq)).trans hh, rest⟩
theorem Wkr.below {w w' : World} {ρ : Nat → Nat} {K r gw g : Nat} {y : Wy} (h : Wkr w ρ K r gw g y) (hb : Below w.heap.size w w') : Wkr w' ρ K r gw g y := h.keep (fun q hq _ _ => hb.block q hq) (fun _ _ => rfl) hb.size
theorem Wkr.lstep {w w' : World} {ρ ρ' : Nat → Nat} {K r gw g : Nat} {y : Wy} (h : Wkr w ρ K r gw g y) (hs : LStep w ρ w' ρ') : Wkr w' ρ' K r gw g y := h.keep (fun q hq _ h0 => hs.ft.block q hq fun e => e h0) hs.part hs.ft.size
theorem Wkr.ft {w w' : World} {ρ : Nat → Nat} {K r gw g : Nat} {y : Wy} {F : Nat → Prop} (h : Wkr w ρ K r gw g y) (hs : Ft F w w') (hF : ∀ q, F q → q < K) : Wkr w' ρ K r gw g y := h.keep (fun q hq hk _ => hs.block q hq fun e => by have := hF q e; omega) (fun _ _ => rfl) hs.size
theorem Only.ft {w w' : World} {b : Nat} (h : Only b w w') : Ft (fun q => q = b) w w' := by
  obtain ⟨p, v, q, u, h1, h2, rfl⟩ := h
  exact ⟨rfl, rfl, rfl, by simp, fun k hk hF => (Below.heap_setCell _ _ _ _ fun e => hF (e.trans h2)).trans (Below.heap_setCell _ _ _ _ fun e => hF (e.trans h1))⟩
/-- a stream, where what turns lies outside it -/
theorem Strm.ft {w w' : World} {B b : Nat} {ws : List Nat} {last drawn : Nat} {F : Nat → Prop} (h : Strm w B b ws last drawn) (hf : Ft F w w') (hF : ∀ q, F q → q < B ∨ b < q) : Strm w' B b ws last drawn := by
  obtain ⟨A, c, h1, h2, h3, h4⟩ := h.ex
  refine ⟨⟨A, c, hf.blk h1 fun e => ?_, fun h0 => ?_, h3, h4⟩, h.last, h.low, h.wide, h.small⟩
  · have := hF b e; have := h.low; omega
  · obtain ⟨g, off, e, hb, hcc⟩ := h2 h0
    have hg := h4 g off (by simpa using h0) e
    refine ⟨g, off, e, hb, fun j hj => ?_⟩
    have := hf.cell (p := ⟨g, off + j, none⟩) (by show g < w.heap.size; have := h1.lt; omega) fun e => by have := hF g e; omega
    rw [this]
    exact hcc j hj
/-- what stands while the breaks are told -/
structure ChL (w wr : World) (K gw g r gt : Nat) (y : Wy) (own0 : Option Nat) (A : Option Addr) (c j : Nat) (bs : List Int) : Prop where
  blk : Blk wr gw 105 (wkC g r y gt (.slice A j c))
  own : wr.ownsRow K 3 1 (.slice A j c) j ((bs.take j).map (Value.int .i64))
  at_ : ∀ q, (Value.slice A j c).ownBlock = some q → own0 = some q ∨ w.heap.size ≤ q
  ft : Ft (fun q => q = gw ∨ own0 = some q) w wr
theorem ChL.next {w wr wb w9 : World} {K gw g r gt : Nat} {y : Wy} {own0 : Option Nat} {A A' : Option Addr} {c c' j : Nat} {bs : List Int} {x : Int} (h : ChL w wr K gw g r gt y own0 A c j bs) (hbb : Below wr.heap.size wr wb) (hx : (bs.take j).map (Value.int .i64) ++ [.int .i64 x] = (bs.take (j + 1)).map (Value.int .i64))
    (ho : w9.ownsRow K 3 1 (.slice A' (j + 1) c') (j + 1) ((bs.take j).map (Value.int .i64) ++ [.int .i64 x])) (hg : wb.grownBy w9 (Value.slice A j c).ownBlock) (hv : (Value.slice A' (j + 1) c').ownBlock = (Value.slice A j c).ownBlock ∨ (Value.slice A' (j + 1) c').ownBlock = some wb.heap.size) :
    (w9.cell? ⟨gw, 4, none⟩ = some (.slice A j c) ∧ w9.frozen? ⟨gw, 4, none⟩ = false) ∧ ChL w (w9.setCell ⟨gw, 4, none⟩ (.slice A' (j + 1) c')) K gw g r gt y own0 A' c' (j + 1) bs := by
  have hne : some gw ≠ (Value.slice A j c).ownBlock := own_blk_ne h.own h.blk (by decide)
  have b9 : Blk w9 gw 105 (wkC g r y gt (.slice A j c)) := (h.blk.below hbb h.blk.lt).grown hg hne
  have hne9 : some gw ≠ (Value.slice A' (j + 1) c').ownBlock := own_blk_ne ho b9 (by decide)
  refine ⟨⟨by rw [b9.cell]; rfl, b9.frozen 4⟩, ⟨?_, ?_, fun q hq => ?_, ?_⟩⟩
  · have := b9.set_ 4 (.slice A' (j + 1) c')
    exact this
  · rw [← hx]
    exact own_setCell ho _ hne9
  · rcases hv with e | e
    · exact h.at_ q (e ▸ hq)
    · rw [e] at hq
      injection hq with hq
      have := h.ft.size
      have := hbb.size
      exact .inr (by omega)
  · exact ((h.ft.low hbb).grown hg fun q hq hl => by
      rcases h.at_ q hq with e | e
      · exact .inr e
      · omega).set (fun _ => .inl rfl) _ _

theorem chooseF_tab (e : Bool) (b : Nat) (bs : List Int) (g : Sg) : chooseF (.tab e b) bs g = (fallI e b bs (g.next % sumW e b bs), 1) := rfl
theorem chooseF_n0 {n : Nat} {bs : List Int} (g : Sg) (h : ¬ 0 < bs.getD (leastTo bs bs.length) 0) : chooseF (.noise n) bs g = (leastTo bs bs.length, 0) := by
  show (if _ then _ else _) = _
  rw [if_neg h]
theorem chooseF_n1 {n : Nat} {bs : List Int} {g : Sg} (h : 0 < bs.getD (leastTo bs bs.length) 0) (h2 : ¬ g.next % 1000 < n) : chooseF (.noise n) bs g = (leastTo bs bs.length, 1) := by
  show (if _ then _ else _) = _
  rw [if_pos h, if_neg h2]
theorem chooseF_n2 {n : Nat} {bs : List Int} {g : Sg} (h : 0 < bs.getD (leastTo bs bs.length) 0) (h2 : g.next % 1000 < n) : chooseF (.noise n) bs g = (g.after.next % bs.length, 2) := by
  show (if _ then _ else _) = _
  rw [if_pos h, if_pos h2]
theorem ints_own15 {w : World} {base n c : Nat} {A : Option Addr} {xs : List Int} (h : w.ownsRow base 3 1 (.slice A n c) n (xs.map (Value.int .i64))) (hn : xs.length = n) : Ints w w.heap.size A xs := by
  subst hn
  exact Cells.congr (cells_of_own h undef) fun j hj => by simp [List.getD, hj]
/-- what a choice leaves -/
def ChooseP (w w' : World) (ρ : Nat → Nat) (Bs r K gw g d : Nat) (sg : Sg) (y : Wy) (Ac : Option Addr) (c : List Int) (k : Nat) : Prop :=
  Strm w' Bs r (sg.adv k).ws (sg.adv k).last (d + k) ∧ Wkr w' ρ K r gw g y ∧ Ints w' w'.heap.size Ac c ∧ Ft (fun q => q = r ∨ (K ≤ q ∧ ρ q = 0)) w w'
theorem ChL.fin {w w2 w' : World} {ρ : Nat → Nat} {K gw g r gt Bs d M : Nat} {sg : Sg} {y : Wy} {own0 : Option Nat} {A Ac : Option Addr} {cA cc j k : Nat} {bs c : List Int} (h : ChL w w2 K gw g r gt y own0 A cA j bs)
    (ht : TabIf w y gt) (ht0 : ρ gt = 0 ∧ K ≤ gt ∧ gt < w.heap.size) (hg0 : K ≤ gw ∧ ρ gw = 0 ∧ r < K) (h0 : ∀ q, own0 = some q → ρ q = 0 ∧ K ≤ q) (hgt : ∀ e b, y = .tab e b → gt ≠ gw ∧ own0 ≠ some gt) (hfr : ∀ q, ρ q ≠ 0 → q < w.heap.size)
    (hown : w.ownsRow M 3 1 (.slice Ac c.length cc) c.length (c.map (Value.int .i64))) (hne : ∀ q, (Value.slice Ac c.length cc).ownBlock = some q → ¬ (q = gw ∨ own0 = some q) ∧ q ≠ r) (hf : Ft (fun q => q = r) w2 w') (hs : Strm w' Bs r (sg.adv k).ws (sg.adv k).last (d + k)) :
    ChooseP w w' ρ Bs r K gw g d sg y Ac c k := by
  have hw : Wkr w2 ρ K r gw g y := by
    have ht2 : TabIf w2 y gt := by
      cases y with
      | tab e' b' =>
        exact tabIf_keep ht fun e => h.ft.block gt e fun x => x.elim (hgt e' b' rfl).1 (hgt e' b' rfl).2
      | noise n => trivial
    refine ⟨⟨gt, A, j, cA, _, h.blk, h.own, ht2, fun q hq => ?_, ht0.1, ht0.2.1, Nat.lt_of_lt_of_le ht0.2.2 h.ft.size⟩, hg0.1, hg0.2.1, hg0.2.2⟩
    · rcases h.at_ q hq with e | e
      · exact (h0 q e).1
      · exact Decidable.not_not.1 fun hn => by have := hfr q hn; omega
  refine ⟨hs, hw.ft hf fun q hq => by subst hq; exact hg0.2.2, ?_, ?_⟩
  · exact ints_own15 (hf.own (h.ft.own hown fun q hq => (hne q hq).1) fun q hq => (hne q hq).2) rfl
  · refine (h.ft.mono (F' := fun q => q = r ∨ (K ≤ q ∧ ρ q = 0)) fun q hq => ?_).trans (hf.mono (F' := fun q => q = r ∨ (K ≤ q ∧ ρ q = 0)) fun q hq => .inl hq) NewF.refl
    rcases hq with e | e
    · subst e; exact .inr ⟨hg0.1, hg0.2.1⟩
    · exact .inr ⟨(h0 q e).2, (h0 q e).1⟩

set_option maxRecDepth 100000 in
set_option maxHeartbeats 4000000 in
theorem choose_any15 {w1 w : World} {B g r gw K Bs d : Nat} {ρ : Nat → Nat} {z : List Bool} {yss : List (List Int)} {s : LS} {b : BS} {sg : Sg} {y : Wy}
    (hst : St14 w B ρ g z yss s b) (hs : Strm w Bs r sg.ws sg.last d) (hd : d ≤ 900000) (hdj : ∀ q, ρ q ≠ 0 → q < Bs ∨ r < q) (hk : Wkr w1 ρ K r gw g y) (hb1 : Below w1.heap.size w1 w) (hr1 : r < w1.heap.size) (hy : y.Ok)
    {c : List Int} (hc0 : 0 < c.length) (hcl : c.length ≤ 1000) (hlit : ∀ x ∈ c, -1000000 ≤ x ∧ x ≤ 1000000) {Ac : Option Addr} {cc : Nat} (hown : w.ownsRow w1.heap.size 3 1 (.slice Ac c.length cc) c.length (c.map (Value.int .i64))) :
    Calls Try.prog 60 #[.pointer (some ⟨gw, 0, none⟩), .slice Ac c.length cc] w fun e w' => e = .returned (.int .i64 ((chooseF y (breaksOf s z.length c) sg).1 : Nat)) ∧ ChooseP w w' ρ Bs r K gw g d sg y Ac c (chooseF y (breaksOf s z.length c) sg).2 := by
  obtain ⟨gt, A, n0, cA, ys, k1, k2, k3, k4, k5, k6, k7⟩ := hk.ex
  have k1w := k1.below hb1 k1.lt
  have k2w := own_below k2 hb1 fun q hq => (k2.lt q hq).2
  have k3w : TabIf w y gt := tabIf_keep k3 fun e => hb1.block gt e
  obtain ⟨x1, x2, x3⟩ := own_cut15 k2w
  obtain ⟨own0, ho0⟩ : ∃ own0, (Value.slice A 0 cA).ownBlock = own0 := ⟨_, rfl⟩
  rw [ho0] at x3
  have h00 : ∀ q, own0 = some q → ρ q = 0 ∧ K ≤ q ∧ q < w1.heap.size := fun q hq => by
    have hq' : (Value.slice A n0 cA).ownBlock = some q := by rw [← x3]; exact hq
    exact ⟨k4 q hq', (k2.lt q hq').1, (k2.lt q hq').2⟩
  have hgt : ∀ e b, y = .tab e b → gt ≠ gw ∧ own0 ≠ some gt := fun e' b' hy' => by
    subst hy'
    refine ⟨Blk.ne_ (show Blk w1 gt 101 _ from k3) k1 (by decide), fun e => ?_⟩
    rw [x3] at e
    exact own_blk_ne k2 (show Blk w1 gt 101 _ from k3) (by decide) e.symm
  have hne : ∀ q, (Value.slice Ac c.length cc).ownBlock = some q → ¬ (q = gw ∨ own0 = some q) ∧ q ≠ r := fun q hq => by
    have h1 := (hown.lt q hq).1
    have h2 := k1.lt
    refine ⟨fun e => ?_, by omega⟩
    rcases e with e | e
    · omega
    · have := (h00 q e).2.2; omega
  have hr0 : ρ r = 0 := Decidable.not_not.1 fun e => by have := hdj r e; have := hs.low; omega
  have hfrs := hst.fresh
  have c4 := k1w.cell 4
  have c0 := k1w.cell 0
  have f4 := k1w.frozen 4
  simp [wkC] at c4 c0
  have hset := k1w.set_ 4 (.slice A 0 cA)
  have hne0 : some gw ≠ (Value.slice A 0 cA).ownBlock := own_blk_ne x1 k1w (by decide)
  have hch0 : ChL w (w.setCell ⟨gw, 4, none⟩ (.slice A 0 cA)) K gw g r gt y own0 A cA 0 (breaksOf s z.length c) := ⟨hset, own_setCell x1 _ hne0, fun q hq => .inl (by rw [← ho0]; exact hq), (Ft.refl w).set (fun _ => .inl rfl) _ _⟩
  have HCH0 := Lib.hid hch0
  have HST := Lib.hid hst
  have HK := Lib.hid (And.intro k1w (And.intro k3w (And.intro k5 (And.intro k6 (Nat.lt_of_lt_of_le k7 hb1.size)))))
  have HG0 := Lib.hid (And.intro hk.lo (And.intro hk.ro hk.rK))
  have H00 := Lib.hid h00
  have HGT := Lib.hid hgt
  have HNE := Lib.hid hne
  have HS := Lib.hid hs
  have HDJ := Lib.hid (And.intro hdj hr0)
  have HOWN := Lib.hid hown
  have HFR := Lib.hid hfrs
  have HLIT := Lib.hid hlit
  have HY := Lib.hid hy
  have HX2 := Lib.hid x2
  obtain ⟨n, hn⟩ : ∃ n, c.length = n := ⟨_, rfl⟩
  have HN := Lib.hid hn
  have hbl := breaksOf_len s z.length c
  obtain ⟨bs, hbs⟩ : ∃ bs, breaksOf s z.length c = bs := ⟨_, rfl⟩
  rw [hbs] at HCH0 hbl ⊢
  have HBS := Lib.hid (And.intro hbs hbl)
  rw [hn] at hc0 hcl ⊢
  have hsz := hb1.size
  clear hset hne0 hch0 hst k1 k2 k3 k4 k5 k6 k7 k1w k2w k3w x1 x3 ho0 h00 hgt hne hs hdj hr0 hown hfrs hlit hy hk hb1 hn hbs hbl
  obtain ⟨wa, hwa⟩ : ∃ wa, wa = w.setCell ⟨gw, 4, none⟩ (.slice A 0 cA) := ⟨_, rfl⟩
  rw [← hwa] at HCH0
  go_enter Try.func60, Try.ntmps60
  go_wp2
  rw [← hwa]
  clear hwa c4 c0 f4 x2
  go_loopg [18] (n + 1) (fun gk ti wr => ∃ (j : Nat) (A' : Option Addr) (c' : Nat), j ≤ n ∧ gk = n - j + 1 ∧ ti = .int .i64 (j : Nat) ∧ Hid (ChL w wr K gw g r gt y own0 A' c' j bs))
  case atStart => exact ⟨0, A, cA, by omega, by omega, rfl, HCH0⟩
  case round =>
    obtain ⟨j, A', c', hj, rfl, rfl, HCH⟩ := hrel
    clear HCH0
    by_cases hlt : j < n
    · have hjc : j < c.length := by rw [HN.out]; exact hlt
      have hrow := HCH.out.ft.own HOWN.out fun q hq => (HNE.out q hq).1
      obtain ⟨ba, eA, _, _⟩ := own_addr hrow (by omega)
      rw [eA] at hrow
      have cx := World.ownsRow.cellAt hrow j (by omega)
      rw [show (c.map (Value.int .i64))[j]? = some (.int .i64 (c.getD j 0)) by simp [List.getD, hjc]] at cx
      have hxl := HLIT.out (c.getD j 0) (by simp only [List.getD, List.getElem?_eq_getElem hjc, Option.getD_some]; exact List.getElem_mem hjc)
      have htk := breaksOf_take s z.length hjc
      rw [HBS.out.1] at htk
      obtain ⟨x, hx⟩ : ∃ x, c.getD j 0 = x := ⟨_, rfl⟩
      rw [hx] at cx hxl htk
      have hstr := HST.out.ft HCH.out.ft fun q hq e => by
        rcases e with e | e
        · subst e; exact hq HG0.out.2.1
        · exact hq (H00.out q e).1
      have hlv := litVar_nonneg x
      have hlv2 := litVar_le (l := x) (b := 1000000) (by omega) (by omega)
      have HV := Lib.hid (fun W => var_any x W (by omega) (by omega))
      have HBR := Lib.hid (st_break (hstr.below (w' := wr.drew) (Below.refl _ _).drew) (litVar x) (by omega))
      obtain ⟨bv, hbv⟩ : ∃ bv, breakV s z.length (litVar x) = bv := ⟨_, rfl⟩
      rw [hbv] at HBR htk
      obtain ⟨lv, hlvv⟩ : ∃ lv, litVar x = lv := ⟨_, rfl⟩
      rw [hlvv] at HBR HV
      obtain ⟨wb, hwb⟩ : ∃ wb, wb = (wr.alloc (.cells #[.int .i64 (bv : Nat)] 3)).drew := ⟨_, rfl⟩
      have hbb : Below wr.heap.size wr wb := by rw [hwb]; exact ((Below.refl _ _).alloc (Nat.le_refl _) _).drew
      have hbox : wb.cell? ⟨wr.heap.size, 0, none⟩ = some (.int .i64 (bv : Nat)) := by rw [hwb]; exact (Blk.new wr 3 #[.int .i64 (bv : Nat)]).cell 0
      have HOA := Lib.hid (own_below HCH.out.own hbb fun q hq => (HCH.out.own.lt q hq).2)
      have HBX := Lib.hid hbox
      have HWB := Lib.hid hwb
      have HNX := Lib.hid (fun (w9 : World) (A3 : Option Addr) (c3 : Nat) ho hg hv => HCH.out.next (wb := wb) (w9 := w9) (A' := A3) (c' := c3) (x := (bv : Int)) hbb (by rw [htk]; simp) ho hg hv)
      have hKw : K ≤ wb.heap.size := by have := HG0.out.1; have := HCH.out.blk.lt; have := hbb.size; omega
      obtain ⟨i0, hi0, hz0, hz1, hz2⟩ := info_parts infoCI
      have HII := Lib.hid (And.intro hi0 (And.intro hz0 (And.intro hz1 hz2)))
      have c4 := HCH.out.blk.cell 4
      have c0 := HCH.out.blk.cell 0
      have c4a := (HCH.out.blk.alloc (Obj.cells #[Value.int .i64 (bv : Nat)] 3)).cell 4
      simp [wkC] at c4 c0 c4a
      have hjn : (j : Int) < (n : Int) := by omega
      subst eA
      clear hx hxl htk hstr hlv hlv2 hbv hlvv hwb hbb hbox hi0 hz0 hz1 hz2 hrow
      go_wp2_with fail
      go_region_law (first | (go_simp; go_at_call 51; refine (HV.out _).mono ?_; rintro e w9 ⟨rfl, rfl⟩) | (go_simp; go_at_call 20; refine HBR.out.mono ?_; rintro e w9 ⟨rfl, rfl⟩) | (rw [← HWB.out]; refine step_app14 rfl (.tmp 26) (.tmp 34) 48 rfl K 3 i0 (.int .i64 0) 8 Try.underlying48 HII.out.1 HII.out.2.1 HII.out.2.2.1 HII.out.2.2.2 rfl (.slice A' j c') j _ rfl HOA.out (.int .i64 (bv : Nat)) wr.heap.size rfl HBX.out rfl (by unfold maxLen; omega) (by omega) hKw ?_; intro v' w9 hown3 hg3 hat3; obtain ⟨A3, c3, rfl, -⟩ := own_slice hown3; have HN9 := Lib.hid (HNX.out _ _ _ hown3 hg3 hat3); obtain ⟨d4, dF⟩ := HN9.out.1; clear hown3 hg3 hat3))
      all_goals
        go_wp2
        go_roundg (n - j)
        case measure => omega
        case rel => exact ⟨j + 1, A3, c3, by omega, by omega, by go_num, Lib.hid HN9.out.2⟩
    · have hjn : n = j := by omega
      subst hjn
      clear hlt hj
      have hbn : bs.length = n := HBS.out.2.trans HN.out
      have hbo := HCH.out.own
      rw [List.take_of_length_le (by omega)] at hbo
      have hrK := HG0.out.2.2
      have hboR : ∀ q, (Value.slice A' n c').ownBlock = some q → ¬ q = r := fun q hq e => by have := (hbo.lt q hq).1; omega
      have HINTS : Hid (∀ w3, Ft (fun q => q = r) wr w3 → Ints w3 w3.heap.size A' bs) := Lib.hid fun w3 hf => ints_own15 (hf.own hbo hboR) hbn
      have hgr : ¬ gw = r := by have := HG0.out.1; omega
      have HC : Hid (∀ w3, Ft (fun q => q = r) wr w3 → w3.cell? ⟨gw, 3, none⟩ = some (tabV y gt) ∧ w3.cell? ⟨gw, 4, none⟩ = some (.slice A' n c') ∧ w3.cell? ⟨gw, 1, none⟩ = some (.pointer (some ⟨r, 0, none⟩)) ∧ w3.cell? ⟨gw, 2, none⟩ = some (.int .i64 (y.nz : Nat))) := Lib.hid fun w3 hf => by
        have hb := hf.blk HCH.out.blk hgr
        refine ⟨?_, ?_, ?_, ?_⟩ <;> (rw [hb.cell]; rfl)
      have hsr : Strm wr Bs r sg.ws sg.last d := HS.out.ft HCH.out.ft fun q hq => by
        rcases hq with e | e
        · have := HG0.out.1; omega
        · have := (H00.out q e).2.1; omega
      have hsd : Strm wr.drew Bs r sg.ws sg.last d := hsr.below (B' := wr.heap.size) (Below.refl _ _).drew hsr.lt
      have HFIN : Hid (∀ w' k, Ft (fun q => q = r) wr w' → Strm w' Bs r (sg.adv k).ws (sg.adv k).last (d + k) → ChooseP w w' ρ Bs r K gw g d sg y Ac c k) := Lib.hid fun w' k hf hs' => HCH.out.fin HK.out.2.1 ⟨HK.out.2.2.1, HK.out.2.2.2.1, HK.out.2.2.2.2⟩ HG0.out (fun q hq => ⟨(H00.out q hq).1, (H00.out q hq).2.1⟩) HGT.out HFR.out HOWN.out HNE.out hf hs'
      have HFT := Lib.hid HCH.out.ft
      have HFR0 : Hid (Ft (fun q => q = r) wr wr ∧ Ft (fun q => q = r) wr wr.drew) := Lib.hid ⟨Ft.refl _, (Ft.refl _).drew⟩
      have HSD := Lib.hid (And.intro hsd hsr)
      have HHS := Lib.hid hbo
      cases y with
      | tab e b0 =>
        have hok : OkB e b0 := HY.out
        have htab : Tab wr gt e b0 := HFT.out.blk (show Blk w gt 101 _ from HK.out.2.1) fun x => x.elim (HGT.out e b0 rfl).1 (HGT.out e b0 rfl).2
        have hfa := fallI_of (e := e) (b := b0) (xs := bs) (by omega) sg.next
        obtain ⟨jf, hjf⟩ : ∃ jf, fallI e b0 bs (sg.next % sumW e b0 bs) = jf := ⟨_, rfl⟩
        have HJF : Hid (chooseF (.tab e b0) bs sg = (jf, 1)) := Lib.hid (by rw [chooseF_tab, hjf])
        rw [hjf] at hfa
        have HPK : Hid (∀ w3, Ft (fun q => q = r) wr w3 → Calls Try.prog 41 #[.pointer (some ⟨gt, 0, none⟩), .slice A' n c', .int .u64 (sg.next : Nat)] w3 fun v w' => v = .returned (.int .i64 (jf : Nat)) ∧ w3 = w') := Lib.hid fun w3 hf => by
          have := tab_pick (c := c') (hf.blk htab fun e => by have := HK.out.2.2.2.1; omega) hok (HINTS.out w3 hf) (by omega) (by omega) sg.next (next_lt hsr) hfa
          rw [hbn] at this
          exact this
        have HNX := Lib.hid (rng_next hsd (by omega))
        have HC0 := Lib.hid (HC.out wr HFR0.out.1)
        obtain ⟨d3, d4, d1, d2⟩ := HC0.out
        simp [tabV] at d3
        change Hid (∀ w3, Ft (fun q => q = r) wr w3 → w3.cell? ⟨gw, 3, none⟩ = some (.pointer (some ⟨gt, 0, none⟩)) ∧ _) at HC
        have HC0' := Lib.hid (And.intro d3 (And.intro d4 d1))
        have hnx : nextOf sg.ws sg.last = sg.next := rfl
        rw [hnx] at HNX
        obtain ⟨xn, hxn⟩ : ∃ xn, sg.next = xn := ⟨_, rfl⟩
        rw [hxn] at HNX HPK
        clear hfa hjf htab hnx hxn hsd hsr hbo
        go_wp2_with fail
        go_region_held3 (fun w' => w'.cell? ⟨gw, 3, none⟩ = some (.pointer (some ⟨gt, 0, none⟩)) ∧ w'.cell? ⟨gw, 4, none⟩ = some (.slice A' n c') ∧ w'.cell? ⟨gw, 1, none⟩ = some (.pointer (some ⟨r, 0, none⟩))) (first | exact HC0'.out | exact HC3.out)
          (first | (go_at_call 38; refine HNX.out.mono ?_; rintro e w3 ⟨rfl, hs3, ho3⟩; have HF3 := Lib.hid (HFR0.out.2.trans ho3.ft NewF.refl); have HC3 := Lib.hid (And.intro (HC.out w3 HF3.out).1 (And.intro (HC.out w3 HF3.out).2.1 (HC.out w3 HF3.out).2.2.1)); have HS3 := Lib.hid hs3; clear hs3 ho3) | (go_at_call 41; refine (HPK.out _ HF3.out).mono ?_; rintro e w4 ⟨rfl, rfl⟩))
        all_goals
          go_wp2
          go_ret
          rw [HJF.out]
          exact ⟨rfl, HFIN.out _ 1 HF3.out HS3.out⟩
      | noise nz =>
        have HL := Lib.hid (least_any15 (c := c') (HINTS.out wr HFR0.out.1) (by omega) (by omega))
        have hml := leastTo_lt bs n (by omega)
        obtain ⟨ga, eA, _, _⟩ := own_addr hbo (by omega)
        have hga : ¬ ga = r := hboR ga (by rw [eA]; rfl)
        have hm0 : (bs.map (Value.int .i64))[leastTo bs n]? = some (.int .i64 (bs.getD (leastTo bs n) 0)) := by simp [List.getD, show leastTo bs n < bs.length by omega]
        have HCM : Hid (∀ w3, Ft (fun q => q = r) wr w3 → w3.cell? ⟨ga, leastTo bs n, none⟩ = some (.int .i64 (bs.getD (leastTo bs n) 0))) := Lib.hid fun w3 hf => by
          have := hf.own hbo hboR
          rw [eA] at this
          rw [← hm0]
          exact World.ownsRow.cellAt this _ (by omega)
        have HC0 := Lib.hid (HC.out wr HFR0.out.1)
        obtain ⟨d3, d4, d1, d2⟩ := HC0.out
        simp [tabV, Wy.nz] at d3 d2
        subst eA
        rw [hbn] at HL
        have hN0 : ∀ h, chooseF (.noise nz) bs sg = (leastTo bs n, 0) := fun h => by have := chooseF_n0 (n := nz) (bs := bs) sg (by rw [hbn]; exact h); rw [hbn] at this; exact this
        have hN1 : ∀ h h2, chooseF (.noise nz) bs sg = (leastTo bs n, 1) := fun h h2 => by have := chooseF_n1 (n := nz) (bs := bs) (g := sg) (by rw [hbn]; exact h) h2; rw [hbn] at this; exact this
        have hN2 : ∀ h h2, chooseF (.noise nz) bs sg = (sg.after.next % n, 2) := fun h h2 => by have := chooseF_n2 (n := nz) (bs := bs) (g := sg) (by rw [hbn]; exact h) h2; rw [hbn] at this; exact this
        obtain ⟨m, hm⟩ : ∃ m, leastTo bs n = m := ⟨_, rfl⟩
        rw [hm] at HL hml HCM hN0 hN1 hN2
        obtain ⟨bm, hbm⟩ : ∃ bm, bs.getD m 0 = bm := ⟨_, rfl⟩
        rw [hbm] at HCM hN0 hN1 hN2
        have hmn : (m : Int) < (n : Int) := by omega
        have cm := HCM.out wr HFR0.out.1
        have HCN := Lib.hid (rng_chance hsd (by omega) (nz : Int) 1000 (by omega) (by omega))
        have hnx : nextOf sg.ws sg.last = sg.next := rfl
        rw [hnx] at HCN
        change Hid (∀ w3, Ft (fun q => q = r) wr w3 → _ ∧ _ ∧ _ ∧ w3.cell? ⟨gw, 2, none⟩ = some (.int .i64 (nz : Nat))) at HC
        have HC0' := Lib.hid (And.intro d4 (And.intro d1 (And.intro d2 cm)))
        clear hm0 hm hbm hnx hsd hsr hbo
        by_cases hpos : 0 < bm
        · by_cases hch : sg.next % 1000 < nz
          · have HR := Lib.hid (hN2 hpos hch)
            rw [show decide (((sg.next % 1000 : Nat) : Int) < (nz : Int)) = true from decide_eq_true (by omega)] at HCN
            have HBL : Hid (∀ w3, Strm w3 Bs r sg.after.ws sg.after.last (d + 1) → Calls Try.prog 19 #[.pointer (some ⟨r, 0, none⟩), .int .i64 (n : Nat)] w3 fun e w' => e = .returned (.int .i64 ((sg.after.next % n : Nat) : Int)) ∧ Strm w' Bs r (sg.adv 2).ws (sg.adv 2).last (d + 2) ∧ Only r w3 w') := Lib.hid fun w3 h3 => rng_below h3 (by omega) n (by omega) (by omega)
            obtain ⟨xr, hxr⟩ : ∃ xr, sg.after.next % n = xr := ⟨_, rfl⟩
            rw [hxr] at HR HBL
            clear hN0 hN1 hN2 hch hxr
            go_wp2_with fail
            refine HL.out.mono ?_
            rintro e w3 ⟨rfl, rfl⟩
            go_wp2_with fail
            go_region_held3 (fun w' => w'.cell? ⟨gw, 4, none⟩ = some (.slice (some ⟨ga, 0, none⟩) n c') ∧ w'.cell? ⟨gw, 1, none⟩ = some (.pointer (some ⟨r, 0, none⟩)) ∧ w'.cell? ⟨gw, 2, none⟩ = some (.int .i64 (nz : Nat)) ∧ w'.cell? ⟨ga, m, none⟩ = some (.int .i64 bm)) (first | exact HC0'.out | exact HC3.out)
              (first | (go_at_call 70; refine HCN.out.mono ?_; rintro e w3 ⟨rfl, hs3, ho3⟩; have HF3 := Lib.hid (HFR0.out.2.trans ho3.ft NewF.refl); have HC3 := Lib.hid (And.intro (HC.out w3 HF3.out).2.1 (And.intro (HC.out w3 HF3.out).2.2.1 (And.intro (HC.out w3 HF3.out).2.2.2 (HCM.out w3 HF3.out)))); have HS3 := Lib.hid hs3; clear hs3 ho3))
            all_goals
              go_wp2_with fail
              refine (HBL.out _ HS3.out).mono ?_
              rintro e w4 ⟨rfl, hs4, ho4⟩
              have HF4 := Lib.hid (HF3.out.trans ho4.ft NewF.refl)
              have HS4 := Lib.hid hs4
              clear hs4 ho4
              go_wp2
              go_ret
              rw [HR.out]
              exact ⟨rfl, HFIN.out _ 2 HF4.out HS4.out⟩
          · have HR := Lib.hid (hN1 hpos hch)
            rw [show decide (((sg.next % 1000 : Nat) : Int) < (nz : Int)) = false from decide_eq_false (by omega)] at HCN
            clear hN0 hN1 hN2 hch
            go_wp2_with fail
            refine HL.out.mono ?_
            rintro e w3 ⟨rfl, rfl⟩
            go_wp2_with fail
            go_region_held3 (fun w' => w'.cell? ⟨gw, 4, none⟩ = some (.slice (some ⟨ga, 0, none⟩) n c') ∧ w'.cell? ⟨gw, 1, none⟩ = some (.pointer (some ⟨r, 0, none⟩)) ∧ w'.cell? ⟨gw, 2, none⟩ = some (.int .i64 (nz : Nat)) ∧ w'.cell? ⟨ga, m, none⟩ = some (.int .i64 bm)) (first | exact HC0'.out | exact HC3.out)
              (first | (go_at_call 70; refine HCN.out.mono ?_; rintro e w3 ⟨rfl, hs3, ho3⟩; have HF3 := Lib.hid (HFR0.out.2.trans ho3.ft NewF.refl); have HC3 := Lib.hid (And.intro (HC.out w3 HF3.out).2.1 (And.intro (HC.out w3 HF3.out).2.2.1 (And.intro (HC.out w3 HF3.out).2.2.2 (HCM.out w3 HF3.out)))); have HS3 := Lib.hid hs3; clear hs3 ho3))
            all_goals
              go_wp2
              go_ret
              rw [HR.out]
              exact ⟨rfl, HFIN.out _ 1 HF3.out HS3.out⟩
        · have HR := Lib.hid (hN0 hpos)
          have hposF : decide ((0 : Int) < bm) = false := decide_eq_false hpos
          have HSD2 : Hid (Strm wr Bs r sg.ws sg.last d) := Lib.hid HSD.out.2
          clear hN0 hN1 hN2 HCN
          go_wp2_with fail
          refine HL.out.mono ?_
          rintro e w3 ⟨rfl, rfl⟩
          go_wp2_with fail
          go_quiet (fail)
          go_wp2
          go_ret
          rw [HR.out]
          exact ⟨rfl, HFIN.out _ 0 ((Ft.refl _).drewN _) (HSD2.out.below (B' := _) (below_drewN (Below.refl _ _) _) HSD2.out.lt)⟩
end Go.Proofs.Ytllgepabjglnaaa
