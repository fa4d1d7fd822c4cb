/- Rows of deeds: in memory; those that came in, opened. -/
import Derived.Test.YtnimmlfccgnneaaOpen
import Derived.Test.YtnimmlfccgnneaaProg
import Derived.WalkSpells
import Derived.Handy
import Derived.Test.YtnimmlfccgnneaaOpenRaw
import Derived.Test.YtnimmlfccgnneaaOpenPair
import Derived.Test.YtnimmlfccgnneaaMem
namespace Go.Proofs.Ytnimmlfccgnneaa
open Go.ChangeShapes Go.WideShapes Go.ChangeAt Go.RowKit Go.Deep Go.Joins
set_option linter.unusedVariables false
set_option linter.unusedSimpArgs false

/-- a deed, as its cells hold it -/
structure DeedV where
  kd : Nat
  l : Int
  r : Int
instance : Inhabited DeedV := ⟨⟨0, 0, 0⟩⟩
def DeedV.cells (d : DeedV) : List Value := [.int .u8 d.kd, .int .i64 d.l, .int .i64 d.r]
def DeedV.ok (d : DeedV) : Prop := d.kd ≤ 255 ∧ (-9223372036854775808 ≤ d.l ∧ d.l ≤ 9223372036854775807) ∧ (-9223372036854775808 ≤ d.r ∧ d.r ≤ 9223372036854775807)
/-- a row of deeds that reads as a list -/
def Deeds (w : World) (B : Nat) (A : Option Addr) (ds : List DeedV) : Prop :=
  0 < ds.length → ∃ b off, A = some ⟨b, off, none⟩ ∧ b < B ∧ ∀ j, j < ds.length → ∀ i, i < 3 → w.cell? ⟨b, off + j * 3 + i, none⟩ = some ((ds.getD j default).cells.getD i undef)
theorem Deeds.below {w w' : World} {B : Nat} {A : Option Addr} {ds : List DeedV} (h : Deeds w B A ds) (hb : Below B w w') : Deeds w' B A ds := fun hn => by
  obtain ⟨b, off, e, hB, hc⟩ := h hn
  exact ⟨b, off, e, hB, fun j hj i hi => (hb.cell (p := ⟨b, off + j * 3 + i, none⟩) hB).trans (hc j hj i hi)⟩
theorem Deeds.at_ {w : World} {B : Nat} {A : Option Addr} {ds : List DeedV} (h : Deeds w B A ds) {j : Nat} (hj : j < ds.length) : ∃ b off, A = some ⟨b, off, none⟩ ∧ b < B ∧ ∃ d, d = ds.getD j default ∧
    w.cell? ⟨b, off + j * 3, none⟩ = some (.int .u8 d.kd) ∧ w.cell? ⟨b, off + j * 3 + 1, none⟩ = some (.int .i64 d.l) ∧ w.cell? ⟨b, off + j * 3 + 2, none⟩ = some (.int .i64 d.r) := by
  obtain ⟨b, off, e, hB, hc⟩ := h (by omega)
  exact ⟨b, off, e, hB, _, rfl, hc j hj 0 (by omega), hc j hj 1 (by omega), hc j hj 2 (by omega)⟩
theorem u8_low {k : Nat} (hk : k ≤ 255) : bits BinOp.and IntKind.u8 (k : Int) 1 = ((k % 2 : Nat) : Int) ∧ bits BinOp.and IntKind.u8 (k : Int) 3 = ((k % 4 : Nat) : Int) ∧ bits BinOp.and IntKind.u8 (k : Int) 7 = ((k % 8 : Nat) : Int) := by
  have h : ∀ j : Fin 256, bits BinOp.and IntKind.u8 (j.1 : Int) 1 = ((j.1 % 2 : Nat) : Int) ∧ bits BinOp.and IntKind.u8 (j.1 : Int) 3 = ((j.1 % 4 : Nat) : Int) ∧ bits BinOp.and IntKind.u8 (j.1 : Int) 7 = ((j.1 % 8 : Nat) : Int) := by decide +kernel
  exact h ⟨k, by omega⟩

theorem sz_field {H : Type} {P : Program} {t : TypeId} {fs : Array Field} {ds : List (DataW H)} (h : Sz P t (.agg ds)) (hu : P.underlying t = some (.struct fs)) {j : Nat} {f : Field} {d : DataW H} (hf : fs[j]? = some f) (hd : ds[j]? = some d) : Sz P f.type d := by
  unfold Sz at h
  simp only [DataW.weights, hu] at h
  exact fun x hx => h x (DataW.weights_mem_each (ts := fs.toList.map Field.type) (ds := ds) (j := j) (by simp [hf]) hd x hx)

theorem deed_of {H : Type} {enc : TypeId × Value → H} {W : World} {cs : List Value} {y : DataW H × List MemPlace} {n : Nat}
    (h : DataW.trod enc Try.prog W 0 (fun _ => true) true n 29 cs = some y) : ∃ d : DeedV, d.ok ∧ cs = d.cells := by
  obtain ⟨xs, n', _, rfl, hl, hlen, hf⟩ := DataW.trod_struct Try.underlying29 h
  have hC : Try.prog.cellsOf 29 = 3 := by kernel_rfl
  rw [hC] at hl
  match cs, hl, xs, hlen with
  | [c0, c1, c2], _, [y0, y1, y2], _ =>
    have k0 := hf 0 _ rfl
    have k1 := hf 1 _ rfl
    have k2 := hf 2 _ rfl
    obtain ⟨z0, e0, _, w0⟩ := DataW.trod_int Try.underlying5 k0
    obtain ⟨z1, e1, _, w1⟩ := DataW.trod_int Try.underlying3 k1
    obtain ⟨z2, e2, _, w2⟩ := DataW.trod_int Try.underlying3 k2
    have b0 := bounds_u8 w0
    have b1 := bounds_i64 w1
    have b2 := bounds_i64 w2
    have g0 : c0 = .int .u8 z0 := by injection e0
    have g1 : c1 = .int .i64 z1 := by injection e1
    have g2 : c2 = .int .i64 z2 := by injection e2
    subst g0 g1 g2
    refine ⟨⟨z0.toNat, z1, z2⟩, ⟨by show z0.toNat ≤ 255; omega, b1, b2⟩, ?_⟩
    simp only [DeedV.cells, Int.toNat_of_nonneg b0.1]

theorem deeds_of {H : Type} {enc : TypeId × Value → H} {W : World} {v : Value} {y : DataW H × List MemPlace} {n : Nat}
    (h : DataW.trod enc Try.prog W 0 (fun _ => true) true n 22 [v] = some y) (hs : Sz Try.prog 22 y.1) :
    ∃ (A : Option Addr) (c : Nat) (ds : List DeedV), v = .slice A ds.length c ∧ ds.length ≤ 5864062014634 ∧ (∀ d ∈ ds, d.ok) ∧ Deeds W W.heap.size A ds := by
  have hC : Try.prog.cellsOf 29 = 3 := by kernel_rfl
  have hb : Try.prog.bytesOf 29 = 24 := by kernel_rfl
  have hr : reachBytes = 140737488351232 := by decide
  rcases open_slice Try.underlying22 h with ⟨e, _⟩ | ⟨a, len, cap, m, n3, D, Pl, e, _, hlc, _, hm, rfl, hel⟩
  · have g : v = .slice none 0 0 := by injection e
    subst g
    exact ⟨none, 0, [], rfl, by simp, fun d hd => by simp at hd, fun hn => by simp at hn⟩
  · have g : v = .slice (some a) len cap := by injection e
    subst g
    obtain ⟨q1, q2⟩ := sz_slice hs Try.underlying22
    rw [hb, hr] at q1
    simp only [List.length_map, List.length_range] at q1
    simp only [if_true] at hm
    rw [hC] at hel
    have hd : ∀ i, i < len → ∃ d : DeedV, d.ok ∧ ∀ j, j < 3 → W.cell? ((a.add (i * 3)).add j) = d.cells[j]? := by
      intro i hi
      obtain ⟨cs', h1, h2⟩ := hel i (by omega)
      obtain ⟨_, _, h3⟩ := World.cells?_some h1
      obtain ⟨d, hd1, hd2⟩ := deed_of h2
      exact ⟨d, hd1, fun j hj => by rw [h3 j hj, hd2]⟩
    obtain ⟨f, hf⟩ := choose_lt hd
    refine ⟨some a, cap, (List.range len).map f, by simp, by simp; omega, fun d hd => ?_, fun hpos => ?_⟩
    · obtain ⟨i, hi, rfl⟩ := List.mem_map.1 hd
      exact (hf i (List.mem_range.1 hi)).1
    · simp at hpos
      obtain ⟨b, off, spot⟩ := a
      have h0 := (hf 0 hpos).2 0 (by omega)
      have hspot : spot = none := by
        have : (f 0).cells[0]? = some (.int .u8 (f 0).kd) := rfl
        rw [this] at h0
        simpa [Addr.add] using World.cell?_spot h0
      subst hspot
      have hlt : b < W.heap.size := by
        have : (f 0).cells[0]? = some (.int .u8 (f 0).kd) := rfl
        rw [this] at h0
        have := World.block_lt_of_cell? W _ h0
        simpa [Addr.add] using this
      refine ⟨b, off, rfl, hlt, fun j hj i hi => ?_⟩
      simp at hj
      have h1 := (hf j hj).2 i hi
      rw [add_plain, add_plain] at h1
      rw [h1]
      have hg : ((List.range len).map f).getD j default = f j := by simp [List.getD, hj]
      rw [hg]
      have : i < (f j).cells.length := hi
      simp [List.getD, List.getElem?_eq_getElem this]

end Go.Proofs.Ytnimmlfccgnneaa
