/-
  Put together out of: RelMath, FlowsMath.
-/
import Derived.Test.YtnjbihfceckpfaaG07RelTop
import Derived.Test.YtnjbihfceckpfaaSpecFlow
/-
  Chapter 6, mathematics: to compose goes in any order of doing, the unit changes nothing, over what is joined it goes to each; images of sets together.
-/
namespace Go.Proofs.Ytnjbihfceckpfaa
open Go.RowKit
set_option linter.unusedVariables false

theorem comp_get {xs ys : List Int} (hx : Smalls xs) {j : Nat} (hj : j < 7) : (comp xs ys).getD j 0 = img ys (xs.getD j 0) := by
  simp [comp, List.getD, hx.1, hj]

theorem joi_get {xs ys : List Int} (hx : Smalls xs) (hy : Smalls ys) {j : Nat} (hj : j < 7) : (joi xs ys).getD j 0 = lor (xs.getD j 0) (ys.getD j 0) := by
  simp [joi, List.getD, hx.1, hy.1, hj]

theorem smalls_of {xs : List Int} (hl : xs.length = 7) (h : ∀ j, j < 7 → Small (xs.getD j 0)) : Smalls xs := by
  refine ⟨hl, fun x hx => ?_⟩
  obtain ⟨j, hj, rfl⟩ := List.getElem_of_mem hx
  have := h j (by omega)
  simpa [List.getD, hj] using this

theorem comp_smalls {xs ys : List Int} (hx : Smalls xs) (hy : Smalls ys) : Smalls (comp xs ys) :=
  smalls_of (by simp [comp, hx.1]) (fun j hj => by rw [comp_get hx hj]; exact img_small hy _)

theorem joi_smalls {xs ys : List Int} (hx : Smalls xs) (hy : Smalls ys) : Smalls (joi xs ys) :=
  smalls_of (by simp [joi, hx.1, hy.1]) (fun j hj => by rw [joi_get hx hy hj]; exact lor_small (hx.getD j) (hy.getD j))

theorem unit_smalls : Smalls unitL := relOk_iff.1 (by decide)

theorem bit_eq {a b : Int} (ha : Small a) (hb : Small b) (h : ∀ t, t < 7 → (bit a t = true ↔ bit b t = true)) : a = b :=
  bit_ext ha hb (fun t ht => Bool.eq_iff_iff.2 (h t ht))

theorem unit_get {j : Nat} (hj : j < 7) (t : Nat) (ht : t < 7) : bit (unitL.getD j 0) t = true ↔ j = t := by
  have h : ∀ j, j < 7 → ∀ t, t < 7 → (bit (unitL.getD j 0) t = decide (j = t)) := by decide
  rw [h j hj t ht, decide_eq_true_eq]

theorem img_comp {xs ys : List Int} (hx : Smalls xs) (hy : Smalls ys) (s : Int) : img (comp xs ys) s = img ys (img xs s) := by
  have hc := comp_smalls hx hy
  refine bit_eq (img_small hc s) (img_small hy _) (fun t ht => ?_)
  rw [bit_img hc, bit_img hy]
  constructor
  · rintro ⟨i, hi, h1, h2⟩
    rw [comp_get hx hi, bit_img hy] at h2
    obtain ⟨k, hk, h3, h4⟩ := h2
    exact ⟨k, hk, (bit_img hx s k).2 ⟨i, hi, h1, h3⟩, h4⟩
  · rintro ⟨k, hk, h3, h4⟩
    obtain ⟨i, hi, h1, h2⟩ := (bit_img hx s k).1 h3
    exact ⟨i, hi, h1, by rw [comp_get hx hi, bit_img hy]; exact ⟨k, hk, h2, h4⟩⟩

theorem comp_assoc {xs ys zs : List Int} (hx : Smalls xs) (hy : Smalls ys) (hz : Smalls zs) : comp (comp xs ys) zs = comp xs (comp ys zs) := by
  have h1 := comp_smalls hx hy
  have h2 := comp_smalls hy hz
  refine list7 (comp_smalls h1 hz).1 (comp_smalls hx h2).1 (fun j hj => ?_)
  rw [comp_get h1 hj, comp_get hx hj, comp_get hx hj, img_comp hy hz]

theorem img_joi {xs ys : List Int} (hx : Smalls xs) (hy : Smalls ys) (s : Int) : img (joi xs ys) s = lor (img xs s) (img ys s) := by
  have hj := joi_smalls hx hy
  refine bit_eq (img_small hj s) (lor_small (img_small hx s) (img_small hy s)) (fun t ht => ?_)
  rw [bit_img hj, bit_lor (img_small hx s) (img_small hy s), Bool.or_eq_true, bit_img hx, bit_img hy]
  constructor
  · rintro ⟨i, hi, h1, h2⟩
    rw [joi_get hx hy hi, bit_lor (hx.getD i) (hy.getD i), Bool.or_eq_true] at h2
    rcases h2 with h | h
    · exact .inl ⟨i, hi, h1, h⟩
    · exact .inr ⟨i, hi, h1, h⟩
  · rintro (⟨i, hi, h1, h2⟩ | ⟨i, hi, h1, h2⟩)
    · exact ⟨i, hi, h1, by rw [joi_get hx hy hi, bit_lor (hx.getD i) (hy.getD i), Bool.or_eq_true]; exact .inl h2⟩
    · exact ⟨i, hi, h1, by rw [joi_get hx hy hi, bit_lor (hx.getD i) (hy.getD i), Bool.or_eq_true]; exact .inr h2⟩

theorem img_lor {rs : List Int} (hr : Smalls rs) {s t : Int} (hs : Small s) (ht : Small t) : img rs (lor s t) = lor (img rs s) (img rs t) := by
  refine bit_eq (img_small hr _) (lor_small (img_small hr s) (img_small hr t)) (fun k hk => ?_)
  rw [bit_img hr, bit_lor (img_small hr s) (img_small hr t), Bool.or_eq_true, bit_img hr, bit_img hr]
  constructor
  · rintro ⟨i, hi, h1, h2⟩
    rw [bit_lor hs ht, Bool.or_eq_true] at h1
    rcases h1 with h | h
    · exact .inl ⟨i, hi, h, h2⟩
    · exact .inr ⟨i, hi, h, h2⟩
  · rintro (⟨i, hi, h1, h2⟩ | ⟨i, hi, h1, h2⟩)
    · exact ⟨i, hi, by rw [bit_lor hs ht, h1, Bool.true_or], h2⟩
    · exact ⟨i, hi, by rw [bit_lor hs ht, h1, Bool.or_true], h2⟩

theorem img_zero {rs : List Int} (hr : Smalls rs) : img rs 0 = 0 := by
  refine bit_eq (img_small hr _) ⟨by omega, by omega⟩ (fun k hk => ?_)
  rw [bit_img hr]
  simp [bit_zero]

theorem img_unit {s : Int} (hs : Small s) : img unitL s = s := by
  refine bit_eq (img_small unit_smalls s) hs (fun t ht => ?_)
  rw [bit_img unit_smalls]
  constructor
  · rintro ⟨i, hi, h1, h2⟩
    rw [unit_get hi t ht] at h2
    rw [← h2]; exact h1
  · intro h
    exact ⟨t, ht, h, (unit_get ht t ht).2 rfl⟩

theorem comp_unit {xs : List Int} (hx : Smalls xs) : comp xs unitL = xs := by
  refine list7 (comp_smalls hx unit_smalls).1 hx.1 (fun j hj => ?_)
  rw [comp_get hx hj, img_unit (hx.getD j)]

theorem img_at {xs : List Int} (hx : Smalls xs) {j : Nat} (hj : j < 7) : img xs (unitL.getD j 0) = xs.getD j 0 := by
  refine bit_eq (img_small hx _) (hx.getD j) (fun t ht => ?_)
  rw [bit_img hx]
  constructor
  · rintro ⟨i, hi, h1, h2⟩
    rw [unit_get hj i hi] at h1
    rw [h1]; exact h2
  · intro h
    exact ⟨j, hj, (unit_get hj j hj).2 rfl, h⟩

theorem unit_comp {xs : List Int} (hx : Smalls xs) : comp unitL xs = xs := by
  refine list7 (comp_smalls unit_smalls hx).1 hx.1 (fun j hj => ?_)
  rw [comp_get unit_smalls hj, img_at hx hj]

theorem comp_joi {ds xs ys : List Int} (hd : Smalls ds) (hx : Smalls xs) (hy : Smalls ys) : comp ds (joi xs ys) = joi (comp ds xs) (comp ds ys) := by
  have h1 := joi_smalls hx hy
  have h2 := comp_smalls hd hx
  have h3 := comp_smalls hd hy
  refine list7 (comp_smalls hd h1).1 (joi_smalls h2 h3).1 (fun j hj => ?_)
  rw [comp_get hd hj, joi_get h2 h3 hj, comp_get hd hj, comp_get hd hj, img_joi hx hy]

theorem joi_comp {ds xs ys : List Int} (hd : Smalls ds) (hx : Smalls xs) (hy : Smalls ys) : comp (joi xs ys) ds = joi (comp xs ds) (comp ys ds) := by
  have h1 := joi_smalls hx hy
  have h2 := comp_smalls hx hd
  have h3 := comp_smalls hy hd
  refine list7 (comp_smalls h1 hd).1 (joi_smalls h2 h3).1 (fun j hj => ?_)
  rw [comp_get h1 hj, joi_get h2 h3 hj, comp_get hx hj, comp_get hy hj, joi_get hx hy hj, img_lor hd (hx.getD j) (hy.getD j)]

theorem lor_left {a b : Int} (ha : Small a) (hb : Small b) : lor a (lor a b) = lor a b :=
  bit_ext (lor_small ha (lor_small ha hb)) (lor_small ha hb) (fun t _ => by rw [bit_lor ha (lor_small ha hb), bit_lor ha hb]; cases bit a t <;> simp)

theorem lor_right {a b : Int} (ha : Small a) (hb : Small b) : lor b (lor a b) = lor a b :=
  bit_ext (lor_small hb (lor_small ha hb)) (lor_small ha hb) (fun t _ => by rw [bit_lor hb (lor_small ha hb), bit_lor ha hb]; cases bit a t <;> cases bit b t <;> simp)

theorem joi_left {xs ys : List Int} (hx : Smalls xs) (hy : Smalls ys) : joi xs (joi xs ys) = joi xs ys := by
  have h := joi_smalls hx hy
  refine list7 (joi_smalls hx h).1 h.1 (fun j hj => ?_)
  rw [joi_get hx h hj, joi_get hx hy hj, lor_left (hx.getD j) (hy.getD j)]

theorem joi_right {xs ys : List Int} (hx : Smalls xs) (hy : Smalls ys) : joi ys (joi xs ys) = joi xs ys := by
  have h := joi_smalls hx hy
  refine list7 (joi_smalls hy h).1 h.1 (fun j hj => ?_)
  rw [joi_get hy h hj, joi_get hx hy hj, lor_right (hx.getD j) (hy.getD j)]

end Go.Proofs.Ytnjbihfceckpfaa

/-
  Chapter 7, mathematics: what a statement makes of a set, fact by fact.
-/
namespace Go.Proofs.Ytnjbihfceckpfaa
open Go.RowKit
set_option linter.unusedVariables false
set_option maxHeartbeats 1000000

theorem bit_made : ∀ j, j < 7 → ∀ x, x < 6 → ∀ t, t < 7 → ∀ b : Bool,
    bit (if b = true then lor (cut (unitL.getD j 0) (factN x)) (factN x) else cut (unitL.getD j 0) (factN x)) t = if t = x + 1 then b else decide (j = t) := by
  decide +kernel

theorem small_made : ∀ j, j < 7 → ∀ x, x < 6 → ∀ b : Bool,
    (0 ≤ (if b = true then lor (cut (unitL.getD j 0) (factN x)) (factN x) else cut (unitL.getD j 0) (factN x))) ∧ (if b = true then lor (cut (unitL.getD j 0) (factN x)) (factN x) else cut (unitL.getD j 0) (factN x)) ≤ 127 := by
  decide +kernel

theorem mkL_smalls (x : Nat) (hx : x < 6) (m : Int) : Smalls (mkL unitL (factN x) m) := by
  refine smalls_of (mkL_length _ _ _) (fun j hj => ?_)
  rw [mkL_getD _ _ _ _ hj]
  exact small_made j hj x hx (bit m j)

theorem bit_mkL (x : Nat) (hx : x < 6) (m : Int) (j : Nat) (hj : j < 7) (t : Nat) (ht : t < 7) : bit ((mkL unitL (factN x) m).getD j 0) t = if t = x + 1 then bit m j else decide (j = t) := by
  rw [mkL_getD _ _ _ _ hj]
  exact bit_made j hj x hx t ht (bit m j)

/-- Other facts stay. -/
theorem img_other (x : Nat) (hx : x < 6) (m s : Int) (t : Nat) (ht : t < 7) (hn : ¬ t = x + 1) : bit (img (mkL unitL (factN x) m) s) t = bit s t := by
  rw [Bool.eq_iff_iff, bit_img (mkL_smalls x hx m)]
  constructor
  · rintro ⟨i, hi, h1, h2⟩
    rw [bit_mkL x hx m i hi t ht, if_neg hn] at h2
    obtain rfl : i = t := by simpa using h2
    exact h1
  · intro h
    exact ⟨t, ht, h, by rw [bit_mkL x hx m t ht t ht, if_neg hn]; simp⟩

/-- The fact of X is made by those of m. -/
theorem img_own (x : Nat) (hx : x < 6) (m s : Int) : bit (img (mkL unitL (factN x) m) s) (x + 1) = true ↔ ∃ i, i < 7 ∧ bit s i = true ∧ bit m i = true := by
  rw [bit_img (mkL_smalls x hx m)]
  constructor
  · rintro ⟨i, hi, h1, h2⟩
    rw [bit_mkL x hx m i hi (x + 1) (by omega), if_pos rfl] at h2
    exact ⟨i, hi, h1, h2⟩
  · rintro ⟨i, hi, h1, h2⟩
    exact ⟨i, hi, h1, by rw [bit_mkL x hx m i hi (x + 1) (by omega), if_pos rfl]; exact h2⟩

theorem bit_fact : ∀ y, y < 6 → ∀ i, i < 7 → bit (factN y) i = decide (i = y + 1) := by decide +kernel

theorem own_copy (x y : Nat) (hx : x < 6) (hy : y < 6) (s : Int) : bit (img (mkL unitL (factN x) (factN y)) s) (x + 1) = bit s (y + 1) := by
  rw [Bool.eq_iff_iff, img_own x hx]
  constructor
  · rintro ⟨i, hi, h1, h2⟩
    rw [bit_fact y hy i hi] at h2
    obtain rfl : i = y + 1 := by simpa using h2
    exact h1
  · intro h
    exact ⟨y + 1, by omega, h, by rw [bit_fact y hy _ (by omega)]; simp⟩

theorem own_both (x y : Nat) (hx : x < 6) (hy : y < 6) (s : Int) : bit (img (mkL unitL (factN x) (lor (factN x) (factN y))) s) (x + 1) = (bit s (x + 1) || bit s (y + 1)) := by
  rw [Bool.eq_iff_iff, img_own x hx, Bool.or_eq_true]
  constructor
  · rintro ⟨i, hi, h1, h2⟩
    rw [bit_lor (factN_small x hx) (factN_small y hy), Bool.or_eq_true, bit_fact x hx i hi, bit_fact y hy i hi] at h2
    rcases h2 with h2 | h2
    · obtain rfl : i = x + 1 := by simpa using h2
      exact .inl h1
    · obtain rfl : i = y + 1 := by simpa using h2
      exact .inr h1
  · rintro (h | h)
    · exact ⟨x + 1, by omega, h, by rw [bit_lor (factN_small x hx) (factN_small y hy), bit_fact x hx _ (by omega)]; simp⟩
    · exact ⟨y + 1, by omega, h, by rw [bit_lor (factN_small x hx) (factN_small y hy), bit_fact y hy _ (by omega)]; simp⟩

theorem own_clear (x : Nat) (hx : x < 6) (s : Int) : bit (img (mkL unitL (factN x) 0) s) (x + 1) = false := by
  rw [Bool.eq_false_iff]
  intro h
  obtain ⟨i, hi, h1, h2⟩ := (img_own x hx 0 s).1 h
  rw [bit_zero] at h2
  exact absurd h2 (by simp)

theorem own_mark (x : Nat) (hx : x < 6) (s : Int) (h0 : bit s 0 = true) : bit (img (mkL unitL (factN x) 1) s) (x + 1) = true :=
  (img_own x hx 1 s).2 ⟨0, by omega, h0, by decide⟩

theorem flowL_smalls {c k x y : Int} (h : stmtOk k x y = true) : Smalls (flowL c k x y) := by
  obtain ⟨i, rfl, hi⟩ := stmtOk_x6 h
  unfold flowL
  split
  · exact mkL_smalls i hi _
  split
  · exact mkL_smalls i hi _
  split
  · exact mkL_smalls i hi _
  split
  · exact mkL_smalls i hi _
  exact unit_smalls

end Go.Proofs.Ytnjbihfceckpfaa
