/- Rows of deeds that came in, opened. -/
import Derived.Test.YtnjcegjcaaplgaaOpen
import Derived.Test.YtnjcegjcaaplgaaOpenRaw
import Derived.Test.YtnjcegjcaaplgaaAllWalk05
namespace Go.Proofs.Ytnjcegjcaaplgaa
open Go.ChangeShapes Go.WideShapes Go.ChangeAt Go.RowKit Go.Deep Go.Joins
set_option linter.unusedVariables false

theorem sz_field {H : Type} {P : Program} {t : TypeId} {fs : Array Field} {ds : List (DataW H)} (h : Sz P t (.agg ds)) (hu : P.underlying t = some (.struct fs)) {j : Nat} {f : Field} {d : DataW H} (hf : fs[j]? = some f) (hd : ds[j]? = some d) : Sz P f.type d := by
  unfold Sz at h
  simp only [DataW.weights, hu] at h
  exact fun x hx => h x (DataW.weights_mem_each (ts := fs.toList.map Field.type) (ds := ds) (j := j) (by simp [hf]) hd x hx)

theorem deed_of {H : Type} {enc : TypeId × Value → H} {W : World} {cs : List Value} {y : DataW H × List MemPlace} {n : Nat}
    (h : DataW.trod enc Try.prog W 0 (fun _ => true) true n 30 cs = some y) (hs : Sz Try.prog 30 y.1) : ∃ d : DeedV, d.ok ∧ cs = d.cells := by
  obtain ⟨xs, n', _, rfl, hl, hlen, hf⟩ := DataW.trod_struct Try.underlying30 h
  have hC : Try.prog.cellsOf 30 = 5 := by kernel_rfl
  rw [hC] at hl
  match cs, hl, xs, hlen with
  | [c0, c1, c2, c3, c4], _, [y0, y1, y2, y3, y4], _ =>
    have k0 := hf 0 _ rfl
    have k1 := hf 1 _ rfl
    have k2 := hf 2 _ rfl
    have k3 := hf 3 _ rfl
    have k4 := hf 4 _ rfl
    obtain ⟨z0, e0, _, w0⟩ := DataW.trod_int Try.underlying5 k0
    obtain ⟨z1, e1, _, w1⟩ := DataW.trod_int Try.underlying3 k1
    obtain ⟨z2, e2, _, w2⟩ := DataW.trod_int Try.underlying3 k2
    obtain ⟨z4, e4, _, w4⟩ := DataW.trod_int Try.underlying5 k4
    have b0 := bounds_u8 w0
    have b1 := bounds_i64 w1
    have b2 := bounds_i64 w2
    have b4 := bounds_u8 w4
    have hs3 := sz_field hs Try.underlying30 (j := 3) rfl (d := y3.1) rfl
    have g0 : c0 = .int .u8 z0 := by injection e0
    have g1 : c1 = .int .i64 z1 := by injection e1
    have g2 : c2 = .int .i64 z2 := by injection e2
    have g4 : c4 = .int .u8 z4 := by injection e4
    have hr : reachBytes = 140737488351232 := by decide
    have hb1 : Try.prog.bytesOf 75 = 1 := by kernel_rfl
    rcases open_slice Try.underlying28 k3 with ⟨e3, _⟩ | ⟨a, len, cap, m, n3, D, Pl, e3, _, _, _, _, hx, _⟩
    · have g3 : c3 = .slice none 0 0 := by injection e3
      subst g0 g1 g2 g3 g4
      refine ⟨⟨z0.toNat, z1, z2, none, 0, 0, z4.toNat⟩, ⟨by show z0.toNat ≤ 255; omega, by show z4.toNat ≤ 255; omega, b1, b2, by show 0 ≤ _; omega⟩, ?_⟩
      simp only [DeedV.cells, Int.toNat_of_nonneg b0.1, Int.toNat_of_nonneg b4.1]
    · have g3 : c3 = .slice (some a) len cap := by injection e3
      subst g0 g1 g2 g3 g4
      rw [hx] at hs3
      have hq := (sz_slice hs3 Try.underlying28).1
      rw [hb1, hr] at hq
      simp only [List.length_map, List.length_range] at hq
      refine ⟨⟨z0.toNat, z1, z2, some a, len, cap, z4.toNat⟩, ⟨by show z0.toNat ≤ 255; omega, by show z4.toNat ≤ 255; omega, b1, b2, by show len ≤ _; omega⟩, ?_⟩
      simp only [DeedV.cells, Int.toNat_of_nonneg b0.1, Int.toNat_of_nonneg b4.1]

theorem deeds_of {H : Type} {enc : TypeId × Value → H} {W : World} {v : Value} {y : DataW H × List MemPlace} {n : Nat}
    (h : DataW.trod enc Try.prog W 0 (fun _ => true) true n 22 [v] = some y) (hs : Sz Try.prog 22 y.1) :
    ∃ (A : Option Addr) (c : Nat) (ds : List DeedV), v = .slice A ds.length c ∧ ds.length ≤ 4398046510080 ∧ (∀ d ∈ ds, d.ok) ∧ Deeds W W.heap.size A ds := by
  have hC : Try.prog.cellsOf 30 = 5 := by kernel_rfl
  have hb : Try.prog.bytesOf 30 = 56 := by kernel_rfl
  have hr : reachBytes = 140737488351232 := by decide
  rcases open_slice Try.underlying22 h with ⟨e, _⟩ | ⟨a, len, cap, m, n3, D, Pl, e, _, hlc, _, hm, rfl, hel⟩
  · have g : v = .slice none 0 0 := by injection e
    subst g
    exact ⟨none, 0, [], rfl, by simp, fun d hd => by simp at hd, fun hn => by simp at hn⟩
  · have g : v = .slice (some a) len cap := by injection e
    subst g
    obtain ⟨q1, q2⟩ := sz_slice hs Try.underlying22
    rw [hb, hr] at q1
    simp only [List.length_map, List.length_range] at q1
    simp only [if_true] at hm
    rw [hC] at hel
    have hd : ∀ i, i < len → ∃ d : DeedV, d.ok ∧ ∀ j, j < 5 → W.cell? ((a.add (i * 5)).add j) = d.cells[j]? := by
      intro i hi
      obtain ⟨cs', h1, h2⟩ := hel i (by omega)
      obtain ⟨_, _, h3⟩ := World.cells?_some h1
      obtain ⟨d, hd1, hd2⟩ := deed_of h2 (q2 (D i) (List.mem_map.2 ⟨i, List.mem_range.2 hi, rfl⟩))
      exact ⟨d, hd1, fun j hj => by rw [h3 j hj, hd2]⟩
    obtain ⟨f, hf⟩ := choose_lt hd
    refine ⟨some a, cap, (List.range len).map f, by simp, by simp; omega, fun d hd => ?_, fun hpos => ?_⟩
    · obtain ⟨i, hi, rfl⟩ := List.mem_map.1 hd
      exact (hf i (List.mem_range.1 hi)).1
    · simp at hpos
      obtain ⟨b, off, spot⟩ := a
      have h0 := (hf 0 hpos).2 0 (by omega)
      have hspot : spot = none := by
        have : (f 0).cells[0]? = some (.int .u8 (f 0).kd) := rfl
        rw [this] at h0
        simpa [Addr.add] using World.cell?_spot h0
      subst hspot
      have hlt : b < W.heap.size := by
        have : (f 0).cells[0]? = some (.int .u8 (f 0).kd) := rfl
        rw [this] at h0
        have := World.block_lt_of_cell? W _ h0
        simpa [Addr.add] using this
      refine ⟨b, off, rfl, hlt, fun j hj i hi => ?_⟩
      simp at hj
      have h1 := (hf j hj).2 i hi
      rw [add_plain, add_plain] at h1
      rw [h1]
      have hg : ((List.range len).map f).getD j default = f j := by simp [List.getD, hj]
      rw [hg]
      have : i < (f j).cells.length := hi
      simp [List.getD, List.getElem?_eq_getElem this]

theorem alls_raw (A : Option Addr) (c : Nat) (ds : List DeedV) (a1 a2 : Int) (W : World) (hl : ds.length ≤ 4398046510080) (hok : ∀ d ∈ ds, d.ok) (h : Deeds W W.heap.size A ds) (w1 : (Lit.int .u8 a1).wf = true) (w2 : (Lit.int .u8 a2).wf = true) :
    Calls Try.prog 3 #[.slice A ds.length c, .int .u8 a1, .int .u8 a2] W fun e w' => e = .returned (.bool true) ∧ Below W.heap.size W w' := by
  have b1 := bounds_u8 w1
  have b2 := bounds_u8 w2
  obtain ⟨n1, rfl⟩ : ∃ n : Nat, a1 = n := ⟨a1.toNat, by omega⟩
  obtain ⟨n2, rfl⟩ : ∃ n : Nat, a2 = n := ⟨a2.toNat, by omega⟩
  exact alls_any ds A c n1 n2 W hok hl (by omega) (by omega) h
end Go.Proofs.Ytnjcegjcaaplgaa
