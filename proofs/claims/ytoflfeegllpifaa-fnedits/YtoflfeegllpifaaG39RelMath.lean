/-
  Put together out of: FlowImpl, SpecFlow, RelMath.
-/
import Derived.Test.YtoflfeegllpifaaG38FlowRel
import Derived.BigRegion
/-
  Chapter 7, the program's side: Flow.
-/
namespace Go.Proofs.Ytoflfeegllpifaa
open Go.RowKit
set_option linter.unusedVariables false
set_option maxHeartbeats 2000000
set_option maxRecDepth 4000

/-- What a statement does. -/
def flowL (c k x y : Int) : List Int :=
  if k = 2 then mkL unitL (factN x.toNat) (factN y.toNat)
  else if k = 3 then mkL unitL (factN x.toNat) (lor (factN x.toNat) (factN y.toNat))
  else if k = 4 then mkL unitL (factN x.toNat) 0
  else if k = 5 then mkL unitL (factN x.toNat) (if c = 1 then 1 else 0)
  else unitL

def flowAns (c k x y : Int) : List Int := if (c = 1 ∨ c = 2) ∧ stmtOk k x y = true then flowL c k x y else []

theorem flowL_length (c k x y : Int) : (flowL c k x y).length = 7 := by
  unfold flowL
  split
  · exact mkL_length _ _ _
  split
  · exact mkL_length _ _ _
  split
  · exact mkL_length _ _ _
  split
  · exact mkL_length _ _ _
  rfl

theorem inB_nat {x n : Int} (h : inB x 0 n = true) : ∃ i : Nat, x = i ∧ (i : Int) ≤ n := by
  simp [inB] at h
  exact ⟨x.toNat, by omega, by omega⟩

theorem stmtOk_xy {k x y : Int} (h : stmtOk k x y = true) (hk : k = 2 ∨ k = 3) : ∃ i j : Nat, x = i ∧ y = j ∧ i < 6 ∧ j < 6 := by
  have h1 : inB x 0 5 = true ∧ inB y 0 5 = true := by
    rcases hk with rfl | rfl <;> simpa [stmtOk] using h
  obtain ⟨i, rfl, hi⟩ := inB_nat h1.1
  obtain ⟨j, rfl, hj⟩ := inB_nat h1.2
  exact ⟨i, j, rfl, rfl, by omega, by omega⟩

theorem stmtOk_x {k x y : Int} (h : stmtOk k x y = true) (hk : k = 4 ∨ k = 5) : ∃ i : Nat, x = i ∧ i < 6 := by
  have h1 : inB x 0 5 = true ∧ inB y 0 0 = true := by
    rcases hk with rfl | rfl <;> simpa [stmtOk] using h
  obtain ⟨i, rfl, hi⟩ := inB_nat h1.1
  exact ⟨i, rfl, by omega⟩

theorem stmt_cells {W : World} {B : Nat} {k x y : Int} {t : TypeId} (q : W.heap[B]? = some (.cells #[.int .i64 k, .int .i64 x, .int .i64 y] t (0, 0))) :
    W.cell? ⟨B, 0, none⟩ = some (.int .i64 k) ∧ W.cell? ⟨B, 1, none⟩ = some (.int .i64 x) ∧ W.cell? ⟨B, 2, none⟩ = some (.int .i64 y) :=
  ⟨by rw [cell_of_row _ _ 0 _ _ (0, 0) q]; rfl, by rw [cell_of_row _ _ 1 _ _ (0, 0) q]; rfl, by rw [cell_of_row _ _ 2 _ _ (0, 0) q]; rfl⟩

theorem four_cells {W : World} {B : Nat} {v0 v1 v2 v3 : Value} {t : TypeId} (q : W.heap[B]? = some (.cells #[v0, v1, v2, v3] t (0, 0))) :
    W.cell? ⟨B, 0, none⟩ = some v0 ∧ W.cell? ⟨B, 1, none⟩ = some v1 ∧ W.cell? ⟨B, 2, none⟩ = some v2 ∧ W.cell? ⟨B, 3, none⟩ = some v3 :=
  ⟨by rw [cell_of_row _ _ 0 _ _ (0, 0) q]; rfl, by rw [cell_of_row _ _ 1 _ _ (0, 0) q]; rfl, by rw [cell_of_row _ _ 2 _ _ (0, 0) q]; rfl, by rw [cell_of_row _ _ 3 _ _ (0, 0) q]; rfl⟩

theorem flow_pre {w w1 : World} {o : Obj} (b1 : Below (w.alloc o).heap.size (w.alloc o) w1) : Below w.heap.size w w1 ∧ w1.heap[w.heap.size]? = some o := by
  have a1 : Below w.heap.size w (w.alloc o) := (Below.refl _ _).alloc (Nat.le_refl _) o
  exact ⟨a1.trans (b1.mono a1.size), (b1.block _ (by simp)).trans (heap_alloc_new w _)⟩

end Go.Proofs.Ytoflfeegllpifaa

/-
  Chapter 7, the specification's side: Start, Leave, Keep, Enter, Flow.
-/
namespace Go.Proofs.Ytoflfeegllpifaa
open Go.RowKit
set_option linter.unusedVariables false
set_option maxHeartbeats 2000000
set_option maxRecDepth 4000

/-- The block B holds these seven numbers. -/
abbrev IntAt (w : World) (B : Nat) (xs : List Int) : Prop := w.heap[B]? = some (.cells (ints xs).toArray 2 (0, 0))

theorem IntAt.cell {w : World} {B : Nat} {xs : List Int} (h : IntAt w B xs) (j : Nat) (hj : j < xs.length) : w.cell? ⟨B, j, none⟩ = some (.int .i64 (xs.getD j 0)) ∧ w.frozen? ⟨B, j, none⟩ = false := by
  refine ⟨?_, frozen_of_row w B j _ _ h⟩
  rw [cell_of_row w B j _ _ (0, 0) h]
  simp [ints, List.getD, hj]

theorem IntAt.set {w : World} {B : Nat} {xs : List Int} (h : IntAt w B xs) (j : Nat) (x : Int) : IntAt (w.setCell ⟨B, j, none⟩ (.int .i64 x)) B (xs.set j x) := by
  have := heap_setCell_same w B j _ _ (.int .i64 x) h
  show (w.setCell ⟨B, j, none⟩ (.int .i64 x)).heap[B]? = _
  rw [this]
  simp [ints, List.map_set]

theorem IntAt.lt {w : World} {B : Nat} {xs : List Int} (h : IntAt w B xs) : B < w.heap.size := (Array.getElem?_eq_some_iff.1 h).1

theorem IntAt.own {w : World} {B : Nat} {xs : List Int} (h : IntAt w B xs) {base : Nat} (hb : base ≤ B) (hl : xs.length = 7) : w.ownsRow base 2 1 (.slice (some ⟨B, 0, none⟩) 7 7) 7 (ints xs) :=
  ⟨by simp [ints, hl], .inr ⟨B, 7, (ints xs).toArray, rfl, hb, h, by omega, by unfold maxLen; omega, by simp [ints, hl], by rw [List.toList_toArray, Nat.mul_one]; exact List.take_of_length_le (by simp [ints, hl])⟩⟩

theorem flow2_same (x : Nat) (hx : x < 6) : mkL unitL (factN x) (factN x) = unitL := by
  have hc : x = 0 ∨ x = 1 ∨ x = 2 ∨ x = 3 ∨ x = 4 ∨ x = 5 := by omega
  rcases hc with rfl | rfl | rfl | rfl | rfl | rfl <;> first | decide | kernel_rfl

theorem flow2_set (x y : Nat) (hx : x < 6) (hy : y < 6) (hn : ¬ x = y) : (unitL.set (x + 1) 0).set (y + 1) (bits .or .i64 ((unitL.set (x + 1) 0).getD (y + 1) 0) (2 * 2 ^ x)) = mkL unitL (factN x) (factN y) := by
  have hc : x = 0 ∨ x = 1 ∨ x = 2 ∨ x = 3 ∨ x = 4 ∨ x = 5 := by omega
  have hd : y = 0 ∨ y = 1 ∨ y = 2 ∨ y = 3 ∨ y = 4 ∨ y = 5 := by omega
  rcases hc with rfl | rfl | rfl | rfl | rfl | rfl <;> rcases hd with rfl | rfl | rfl | rfl | rfl | rfl <;> first | exact absurd rfl hn | decide

theorem wrap_bit (x : Nat) (hx : x < 6) : wrap64 (2 * 2 ^ x) = 2 * 2 ^ x := by
  unfold wrap64
  have hc : x = 0 ∨ x = 1 ∨ x = 2 ∨ x = 3 ∨ x = 4 ∨ x = 5 := by omega
  rcases hc with rfl | rfl | rfl | rfl | rfl | rfl <;> decide

theorem flow3_set (x y : Nat) (hx : x < 6) (hy : y < 6) : unitL.set (y + 1) (bits .or .i64 (unitL.getD (y + 1) 0) (2 * 2 ^ x)) = mkL unitL (factN x) (lor (factN x) (factN y)) := by
  have hc : x = 0 ∨ x = 1 ∨ x = 2 ∨ x = 3 ∨ x = 4 ∨ x = 5 := by omega
  have hd : y = 0 ∨ y = 1 ∨ y = 2 ∨ y = 3 ∨ y = 4 ∨ y = 5 := by omega
  rcases hc with rfl | rfl | rfl | rfl | rfl | rfl <;> rcases hd with rfl | rfl | rfl | rfl | rfl | rfl <;> decide

theorem flow4_set (x : Nat) (hx : x < 6) : unitL.set (x + 1) 0 = mkL unitL (factN x) 0 := by
  have hc : x = 0 ∨ x = 1 ∨ x = 2 ∨ x = 3 ∨ x = 4 ∨ x = 5 := by omega
  rcases hc with rfl | rfl | rfl | rfl | rfl | rfl <;> decide

theorem flow5_set (x : Nat) (hx : x < 6) : (unitL.set (x + 1) 0).set 0 (bits .or .i64 ((unitL.set (x + 1) 0).getD 0 0) (2 * 2 ^ x)) = mkL unitL (factN x) 1 := by
  have hc : x = 0 ∨ x = 1 ∨ x = 2 ∨ x = 3 ∨ x = 4 ∨ x = 5 := by omega
  rcases hc with rfl | rfl | rfl | rfl | rfl | rfl <;> decide

theorem stmtOk_x6 {k x y : Int} (h : stmtOk k x y = true) : ∃ i : Nat, x = i ∧ i < 6 := by
  have h1 : inB x 0 5 = true := by
    rcases kinds k with rfl | rfl | rfl | rfl | rfl | rfl | rfl | rfl | rfl | ⟨h1, h2, h3, h4, h5, h6, h7, h8, h9⟩
    all_goals simp [stmtOk, *] at h
    all_goals simp [inB] at h ⊢
    all_goals omega
  obtain ⟨i, rfl, hi⟩ := inB_nat h1
  exact ⟨i, rfl, by omega⟩

end Go.Proofs.Ytoflfeegllpifaa

/-
  Chapter 6, mathematics: to compose goes in any order of doing, the unit changes nothing, over what is joined it goes to each; images of sets together.
-/
namespace Go.Proofs.Ytoflfeegllpifaa
open Go.RowKit
set_option linter.unusedVariables false

theorem comp_get {xs ys : List Int} (hx : Smalls xs) {j : Nat} (hj : j < 7) : (comp xs ys).getD j 0 = img ys (xs.getD j 0) := by
  simp [comp, List.getD, hx.1, hj]

theorem joi_get {xs ys : List Int} (hx : Smalls xs) (hy : Smalls ys) {j : Nat} (hj : j < 7) : (joi xs ys).getD j 0 = lor (xs.getD j 0) (ys.getD j 0) := by
  simp [joi, List.getD, hx.1, hy.1, hj]

theorem smalls_of {xs : List Int} (hl : xs.length = 7) (h : ∀ j, j < 7 → Small (xs.getD j 0)) : Smalls xs := by
  refine ⟨hl, fun x hx => ?_⟩
  obtain ⟨j, hj, rfl⟩ := List.getElem_of_mem hx
  have := h j (by omega)
  simpa [List.getD, hj] using this

theorem comp_smalls {xs ys : List Int} (hx : Smalls xs) (hy : Smalls ys) : Smalls (comp xs ys) :=
  smalls_of (by simp [comp, hx.1]) (fun j hj => by rw [comp_get hx hj]; exact img_small hy _)

theorem joi_smalls {xs ys : List Int} (hx : Smalls xs) (hy : Smalls ys) : Smalls (joi xs ys) :=
  smalls_of (by simp [joi, hx.1, hy.1]) (fun j hj => by rw [joi_get hx hy hj]; exact lor_small (hx.getD j) (hy.getD j))

theorem unit_smalls : Smalls unitL := relOk_iff.1 (by decide)

theorem bit_eq {a b : Int} (ha : Small a) (hb : Small b) (h : ∀ t, t < 7 → (bit a t = true ↔ bit b t = true)) : a = b :=
  bit_ext ha hb (fun t ht => Bool.eq_iff_iff.2 (h t ht))

theorem unit_get {j : Nat} (hj : j < 7) (t : Nat) (ht : t < 7) : bit (unitL.getD j 0) t = true ↔ j = t := by
  have h : ∀ j, j < 7 → ∀ t, t < 7 → (bit (unitL.getD j 0) t = decide (j = t)) := by decide
  rw [h j hj t ht, decide_eq_true_eq]

theorem img_comp {xs ys : List Int} (hx : Smalls xs) (hy : Smalls ys) (s : Int) : img (comp xs ys) s = img ys (img xs s) := by
  have hc := comp_smalls hx hy
  refine bit_eq (img_small hc s) (img_small hy _) (fun t ht => ?_)
  rw [bit_img hc, bit_img hy]
  constructor
  · rintro ⟨i, hi, h1, h2⟩
    rw [comp_get hx hi, bit_img hy] at h2
    obtain ⟨k, hk, h3, h4⟩ := h2
    exact ⟨k, hk, (bit_img hx s k).2 ⟨i, hi, h1, h3⟩, h4⟩
  · rintro ⟨k, hk, h3, h4⟩
    obtain ⟨i, hi, h1, h2⟩ := (bit_img hx s k).1 h3
    exact ⟨i, hi, h1, by rw [comp_get hx hi, bit_img hy]; exact ⟨k, hk, h2, h4⟩⟩

theorem comp_assoc {xs ys zs : List Int} (hx : Smalls xs) (hy : Smalls ys) (hz : Smalls zs) : comp (comp xs ys) zs = comp xs (comp ys zs) := by
  have h1 := comp_smalls hx hy
  have h2 := comp_smalls hy hz
  refine list7 (comp_smalls h1 hz).1 (comp_smalls hx h2).1 (fun j hj => ?_)
  rw [comp_get h1 hj, comp_get hx hj, comp_get hx hj, img_comp hy hz]

theorem img_joi {xs ys : List Int} (hx : Smalls xs) (hy : Smalls ys) (s : Int) : img (joi xs ys) s = lor (img xs s) (img ys s) := by
  have hj := joi_smalls hx hy
  refine bit_eq (img_small hj s) (lor_small (img_small hx s) (img_small hy s)) (fun t ht => ?_)
  rw [bit_img hj, bit_lor (img_small hx s) (img_small hy s), Bool.or_eq_true, bit_img hx, bit_img hy]
  constructor
  · rintro ⟨i, hi, h1, h2⟩
    rw [joi_get hx hy hi, bit_lor (hx.getD i) (hy.getD i), Bool.or_eq_true] at h2
    rcases h2 with h | h
    · exact .inl ⟨i, hi, h1, h⟩
    · exact .inr ⟨i, hi, h1, h⟩
  · rintro (⟨i, hi, h1, h2⟩ | ⟨i, hi, h1, h2⟩)
    · exact ⟨i, hi, h1, by rw [joi_get hx hy hi, bit_lor (hx.getD i) (hy.getD i), Bool.or_eq_true]; exact .inl h2⟩
    · exact ⟨i, hi, h1, by rw [joi_get hx hy hi, bit_lor (hx.getD i) (hy.getD i), Bool.or_eq_true]; exact .inr h2⟩

theorem img_lor {rs : List Int} (hr : Smalls rs) {s t : Int} (hs : Small s) (ht : Small t) : img rs (lor s t) = lor (img rs s) (img rs t) := by
  refine bit_eq (img_small hr _) (lor_small (img_small hr s) (img_small hr t)) (fun k hk => ?_)
  rw [bit_img hr, bit_lor (img_small hr s) (img_small hr t), Bool.or_eq_true, bit_img hr, bit_img hr]
  constructor
  · rintro ⟨i, hi, h1, h2⟩
    rw [bit_lor hs ht, Bool.or_eq_true] at h1
    rcases h1 with h | h
    · exact .inl ⟨i, hi, h, h2⟩
    · exact .inr ⟨i, hi, h, h2⟩
  · rintro (⟨i, hi, h1, h2⟩ | ⟨i, hi, h1, h2⟩)
    · exact ⟨i, hi, by rw [bit_lor hs ht, h1, Bool.true_or], h2⟩
    · exact ⟨i, hi, by rw [bit_lor hs ht, h1, Bool.or_true], h2⟩

theorem img_zero {rs : List Int} (hr : Smalls rs) : img rs 0 = 0 := by
  refine bit_eq (img_small hr _) ⟨by omega, by omega⟩ (fun k hk => ?_)
  rw [bit_img hr]
  simp [bit_zero]

theorem img_unit {s : Int} (hs : Small s) : img unitL s = s := by
  refine bit_eq (img_small unit_smalls s) hs (fun t ht => ?_)
  rw [bit_img unit_smalls]
  constructor
  · rintro ⟨i, hi, h1, h2⟩
    rw [unit_get hi t ht] at h2
    rw [← h2]; exact h1
  · intro h
    exact ⟨t, ht, h, (unit_get ht t ht).2 rfl⟩

theorem comp_unit {xs : List Int} (hx : Smalls xs) : comp xs unitL = xs := by
  refine list7 (comp_smalls hx unit_smalls).1 hx.1 (fun j hj => ?_)
  rw [comp_get hx hj, img_unit (hx.getD j)]

theorem img_at {xs : List Int} (hx : Smalls xs) {j : Nat} (hj : j < 7) : img xs (unitL.getD j 0) = xs.getD j 0 := by
  refine bit_eq (img_small hx _) (hx.getD j) (fun t ht => ?_)
  rw [bit_img hx]
  constructor
  · rintro ⟨i, hi, h1, h2⟩
    rw [unit_get hj i hi] at h1
    rw [h1]; exact h2
  · intro h
    exact ⟨j, hj, (unit_get hj j hj).2 rfl, h⟩

theorem unit_comp {xs : List Int} (hx : Smalls xs) : comp unitL xs = xs := by
  refine list7 (comp_smalls unit_smalls hx).1 hx.1 (fun j hj => ?_)
  rw [comp_get unit_smalls hj, img_at hx hj]

theorem comp_joi {ds xs ys : List Int} (hd : Smalls ds) (hx : Smalls xs) (hy : Smalls ys) : comp ds (joi xs ys) = joi (comp ds xs) (comp ds ys) := by
  have h1 := joi_smalls hx hy
  have h2 := comp_smalls hd hx
  have h3 := comp_smalls hd hy
  refine list7 (comp_smalls hd h1).1 (joi_smalls h2 h3).1 (fun j hj => ?_)
  rw [comp_get hd hj, joi_get h2 h3 hj, comp_get hd hj, comp_get hd hj, img_joi hx hy]

theorem joi_comp {ds xs ys : List Int} (hd : Smalls ds) (hx : Smalls xs) (hy : Smalls ys) : comp (joi xs ys) ds = joi (comp xs ds) (comp ys ds) := by
  have h1 := joi_smalls hx hy
  have h2 := comp_smalls hx hd
  have h3 := comp_smalls hy hd
  refine list7 (comp_smalls h1 hd).1 (joi_smalls h2 h3).1 (fun j hj => ?_)
  rw [comp_get h1 hj, joi_get h2 h3 hj, comp_get hx hj, comp_get hy hj, joi_get hx hy hj, img_lor hd (hx.getD j) (hy.getD j)]

theorem lor_left {a b : Int} (ha : Small a) (hb : Small b) : lor a (lor a b) = lor a b :=
  bit_ext (lor_small ha (lor_small ha hb)) (lor_small ha hb) (fun t _ => by rw [bit_lor ha (lor_small ha hb), bit_lor ha hb]; cases bit a t <;> simp)

theorem lor_right {a b : Int} (ha : Small a) (hb : Small b) : lor b (lor a b) = lor a b :=
  bit_ext (lor_small hb (lor_small ha hb)) (lor_small ha hb) (fun t _ => by rw [bit_lor hb (lor_small ha hb), bit_lor ha hb]; cases bit a t <;> cases bit b t <;> simp)

theorem joi_left {xs ys : List Int} (hx : Smalls xs) (hy : Smalls ys) : joi xs (joi xs ys) = joi xs ys := by
  have h := joi_smalls hx hy
  refine list7 (joi_smalls hx h).1 h.1 (fun j hj => ?_)
  rw [joi_get hx h hj, joi_get hx hy hj, lor_left (hx.getD j) (hy.getD j)]

theorem joi_right {xs ys : List Int} (hx : Smalls xs) (hy : Smalls ys) : joi ys (joi xs ys) = joi xs ys := by
  have h := joi_smalls hx hy
  refine list7 (joi_smalls hy h).1 h.1 (fun j hj => ?_)
  rw [joi_get hy h hj, joi_get hx hy hj, lor_right (hx.getD j) (hy.getD j)]

end Go.Proofs.Ytoflfeegllpifaa
