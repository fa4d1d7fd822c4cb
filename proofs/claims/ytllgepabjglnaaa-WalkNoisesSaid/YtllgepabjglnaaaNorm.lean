/- What Clause and Same answer: the normal form, in a row of the caller's own. -/
import Derived.Test.YtllgepabjglnaaaLaw04
import Derived.Test.YtllgepabjglnaaaSortMem
import Derived.Test.YtllgepabjglnaaaShelf
namespace Go.Proofs.Ytllgepabjglnaaa
open Go.RowKit

/-- literals whose indices fit -/
abbrev L62 := { x : Int // -4611686018427387904 ≤ x ∧ x ≤ 4611686018427387904 }
instance : Inhabited L62 := ⟨⟨0, by omega, by omega⟩⟩
def encL (x : L62) : Value := .int .i64 x.1
def cfL (x y : L62) : Int := cmpInt (litIndex x.1) (litIndex y.1)
theorem ltL (x y : L62) : ltOf cfL x y = decide (litIndex x.1 < litIndex y.1) := by
  unfold ltOf cfL cmpInt
  by_cases h1 : litIndex x.1 < litIndex y.1
  · simp [h1]
  · by_cases h2 : litIndex y.1 < litIndex x.1 <;> simp [h1, h2]
theorem swoL : Go.Sort.SWO (ltOf cfL) where
  irrefl x := by rw [ltL]; simp
  trans x y z h1 h2 := by rw [ltL] at *; simp at *; omega
  ntrans x y z h1 h2 := by rw [ltL] at *; simp at *; omega
theorem listL (xs : List Int) (h : ∀ x ∈ xs, -4611686018427387904 ≤ x ∧ x ≤ 4611686018427387904) : ∃ ds : List L62, xs = ds.map (·.1) := by
  induction xs with
  | nil => exact ⟨[], rfl⟩
  | cons x r ih =>
    obtain ⟨ds, hd⟩ := ih fun y hy => h y (List.mem_cons_of_mem _ hy)
    exact ⟨⟨x, h x (by simp)⟩ :: ds, congrArg (x :: ·) hd⟩

/-- literals of any program that there may be -/
def Lits (xs : List Int) : Prop := xs.length ≤ 1000000000 ∧ ∀ x ∈ xs, -1000000 ≤ x ∧ x ≤ 1000000
theorem Lits.wide {xs : List Int} (h : Lits xs) : ∀ x ∈ xs, -4611686018427387904 ≤ x ∧ x ≤ 4611686018427387904 := fun x hx => by have := h.2 x hx; omega
theorem Lits.norm {xs : List Int} (h : Lits xs) : Lits (normOf xs) := ⟨Nat.le_trans (norm_len xs) h.1, fun x hx => h.2 x (mem_normOf.1 hx)⟩
theorem Lits.without {xs : List Int} (h : Lits xs) (l : Int) : Lits (withoutOf xs l) := ⟨Nat.le_trans (without_len xs l) h.1, fun x hx => h.2 x (mem_withoutOf.1 hx).1⟩
theorem Lits.getD {xs : List Int} (h : Lits xs) (k : Nat) : -1000000 ≤ xs.getD k 0 ∧ xs.getD k 0 ≤ 1000000 := by
  by_cases hk : k < xs.length
  · simp only [List.getD, List.getElem?_eq_getElem hk, Option.getD_some]; exact h.2 _ (List.getElem_mem hk)
  · simp only [List.getD, List.getElem?_eq_none (Nat.le_of_not_lt hk), Option.getD_none]; omega

theorem sort_own_any (xs : List Int) (hx : ∀ x ∈ xs, -4611686018427387904 ≤ x ∧ x ≤ 4611686018427387904) (base g cap : Nat) (w : World) (hn : xs.length ≤ 1099511627776)
    (hown : w.ownsRow base 3 1 (.slice (some ⟨g, 0, none⟩) xs.length cap) xs.length (xs.map (Value.int .i64))) :
    Calls Try.prog 63 #[.slice (some ⟨g, 0, none⟩) xs.length cap, .func (.func 64) #[] #[]] w fun e w' => e = .returned (.tuple #[]) ∧
      ∃ zs : List Int, (∀ y, y ∈ zs ↔ y ∈ xs) ∧ zs.length = xs.length ∧ (zs.Pairwise fun x y => litIndex x ≤ litIndex y) ∧ w'.ownsRow base 3 1 (.slice (some ⟨g, 0, none⟩) xs.length cap) xs.length (zs.map (Value.int .i64)) ∧
      (∀ B w0, Below B w0 w → B ≤ g → B ≤ w0.heap.size → Below B w0 w') := by
  obtain ⟨ds, rfl⟩ := listL xs hx
  clear hx
  have hd : (ds.map (·.1)).map (Value.int .i64) = ds.map encL := by rw [List.map_map]; rfl
  rw [hd] at hown
  simp only [List.length_map] at hown hn ⊢
  have hH := holds_of_own hown
  have hcap := hown
  have eg : ∀ args w, (callFunc 64 args).run Try.prog w = .ok (.enter 64 args) w := enters_of Try.func64 (by kernel_rfl) rfl
  have hcmp : CmpLays1 Try.prog 64 #[] encL cfL g 0 ds.toArray.size w := fun m os dk _ x y =>
    (compare_any x.1 y.1 _ x.2.1 x.2.2 y.2.1 y.2.2).mono fun _ _ ⟨he, hw⟩ => ⟨he, 0, #[], by rw [Go.Sort.grow_empty, ← hw]; rfl⟩
  have hlt : g < w.heap.size := by
    rcases hown.2 with ⟨hv, _⟩ | ⟨g', cap', cur, hv, hb, hg, _⟩
    · cases hv
    · injection hv with hA; injection hA with hA; injection hA with hA; subst hA
      exact (Array.getElem?_eq_some_iff.1 hg).1
  have hnc : ds.length ≤ cap := by
    rcases hown.2 with ⟨hv, _⟩ | ⟨g', cap', cur, hv, hb, hg, hnc, _⟩
    · cases hv
    · injection hv with _ _ hC; subst hC; exact hnc
  have hcon := Try.slices_SortFunc encL (fun _ => rfl) cfL swoL 64 #[] g 0 cap ds.toArray w eg hcmp hH hlt (by simp; omega)
  simp only [List.size_toArray] at hcon
  refine hcon.mono ?_
  rintro e w' ⟨rfl, d', n, os, hp, hs, rfl⟩
  obtain ⟨hsz, _, hperm⟩ := hp
  simp only [List.size_toArray] at hsz
  have e1 : d'.extract 0 ds.length = d' := by rw [← hsz]; exact Array.extract_size
  have e2 : ds.toArray.extract 0 ds.length = ds.toArray := by simp
  rw [e1, e2] at hperm
  change d'.toList.Perm ds at hperm
  refine ⟨rfl, d'.toList.map (·.1), fun y => ?_, by simp [hsz], ?_, ?_, fun B w0 h1 h2 h3 => below_sort h1 h2 h3⟩
  · exact (hperm.map (·.1)).mem_iff
  · rw [List.pairwise_map, List.pairwise_iff_getElem]
    intro i j hi hj hij
    have hi' : i < d'.size := by simpa using hi
    have hj' : j < d'.size := by simpa using hj
    have := hs i j (Nat.zero_le _) hij (by omega)
    rw [ltL, getElem!_pos d' j hj', getElem!_pos d' i hi'] at this
    simp at this ⊢
    exact this
  · have ho := own_sort (enc := encL) (m := n) (os := os) (d := d') (k := d'.size) hown (by omega) (Nat.le_refl _)
    rw [List.take_of_length_le (by simp), hsz] at ho
    have hd' : (d'.toList.map (·.1)).map (Value.int .i64) = d'.toList.map encL := by rw [List.map_map]; rfl
    rw [hd']
    exact ho

theorem compact_own_any (zs xs : List Int) (hs : zs.Pairwise fun x y => litIndex x ≤ litIndex y) (hm : ∀ y, y ∈ zs ↔ y ∈ xs) (base g cap : Nat) (w : World) (hn : zs.length ≤ 1099511627776)
    (hown : w.ownsRow base 3 1 (.slice (some ⟨g, 0, none⟩) zs.length cap) zs.length (zs.map (Value.int .i64))) :
    Calls Try.prog 65 #[.slice (some ⟨g, 0, none⟩) zs.length cap] w fun e w' => e = .returned (.slice (some ⟨g, 0, none⟩) (normOf xs).length cap) ∧
      w'.ownsRow base 3 1 (.slice (some ⟨g, 0, none⟩) (normOf xs).length cap) (normOf xs).length ((normOf xs).map (Value.int .i64)) ∧
      (∀ B w0, Below B w0 w → B ≤ g → B ≤ w0.heap.size → Below B w0 w') := by
  have hnc : zs.length ≤ cap := by
    rcases hown.2 with ⟨hv, _⟩ | ⟨g', cap', cur, hv, hb, hg, hnc, _⟩
    · cases hv
    · injection hv with _ _ hC; subst hC; exact hnc
  have hcon := Try.slices_Compact_int g 0 cap zs w (holds_of_own hown) (by omega) hnc
  rw [compact_norm zs xs hs hm] at hcon
  have hle : (normOf xs).length ≤ zs.length := by
    have e : normOf zs = normOf xs := norm_eq_iff.2 hm
    rw [← e]; exact norm_len zs
  refine hcon.mono ?_
  rintro e w' ⟨rfl, q, rfl⟩
  rw [putRow_sort]
  refine ⟨rfl, ?_, fun B w0 h1 h2 h3 => below_sort h1 h2 h3⟩
  have ho := own_sort (enc := Value.int .i64) (m := q) (os := #[]) (d := (normOf xs ++ List.replicate (zs.length - (normOf xs).length) 0).toArray) (k := (normOf xs).length) hown (by simp; omega) (by simp)
  have et : (normOf xs ++ List.replicate (zs.length - (normOf xs).length) (0 : Int)).toArray.toList.take (normOf xs).length = normOf xs := by simp
  rw [et] at ho
  exact ho

/-- the library's sort at no element: nothing turns -/
def SortNone (P : Program) (f : FuncId) : Prop := ∀ (p : Option Addr) (cap : Nat) (fv : Value) (w : World), Calls P f #[.slice p 0 cap, fv] w fun e w' => e = .returned (.tuple #[]) ∧ w' = w

set_option maxRecDepth 100000 in
theorem norm_clause_of (hnone : SortNone Try.prog 63) (xs : List Int) (B : Nat) (A : Option Addr) (c : Nat) (w : World) (hx : Lits xs) (h : Ints w B A xs) (hB : B ≤ w.heap.size) :
    Calls Try.prog 46 #[.slice A xs.length c] w (OwnInts (normOf xs) w) := by
  have H := Lib.hid h
  have HX := Lib.hid hx
  clear h hx
  go_enter Try.func46, Try.ntmps46
  go_wp2_with fail
  refine (clone_ints_any xs.length _ B A c w (by have := HX.out.1; omega) (fun _ _ => rfl) H.out hB).mono ?_
  rintro e w1 ⟨A1, c1, rfl, hown, hb⟩
  rw [range_map_ints] at hown
  rcases Nat.eq_zero_or_pos xs.length with h0 | h0
  · obtain rfl : xs = [] := List.length_eq_zero_iff.1 h0
    have HO := Lib.hid hown
    have HBel := Lib.hid hb
    clear hown hb h0
    go_wp2_with fail
    refine (hnone _ _ _ _).mono ?_
    rintro e w2 ⟨rfl, rfl⟩
    go_wp2_with fail
    refine (Try.slices_Compact_int_empty _ _ _).mono ?_
    rintro e w3 ⟨rfl, rfl⟩
    go_wp2
    go_ret
    exact ⟨_, _, rfl, HO.out, HBel.out⟩
  · obtain ⟨g, rfl, hg1, hg2⟩ := own_addr hown h0
    have HO := Lib.hid hown
    have HBel := Lib.hid hb
    clear hown hb
    go_wp2_with fail
    refine (sort_own_any xs HX.out.wide w.heap.size g c1 w1 (by have := HX.out.1; omega) HO.out).mono ?_
    rintro e w2 ⟨rfl, zs, hmem, hlen, hs, hown2, hbs⟩
    rw [← hlen] at hown2
    have hb2 := hbs _ _ HBel.out hg1 (Nat.le_refl _)
    have HC := Lib.hid (compact_own_any zs xs hs hmem w.heap.size g c1 w2 (by have := HX.out.1; omega) hown2)
    have HB2 := Lib.hid hb2
    rw [hlen] at HC
    clear hmem hs hown2 hbs hb2
    go_wp2_with fail
    refine HC.out.mono ?_
    rintro e w3 ⟨rfl, hown3, hb3⟩
    have hbb := hb3 _ _ HB2.out hg1 (Nat.le_refl _)
    have HO3 := Lib.hid hown3
    have HB3 := Lib.hid hbb
    clear hown3 hb3 hbb
    go_wp2
    go_ret
    exact ⟨_, _, rfl, HO3.out, HB3.out⟩
end Go.Proofs.Ytllgepabjglnaaa
