/-
  Lines whose head may be cut off, as they lie in memory; markInt64S, markInt64SS, heldInt64SS over them.
-/
import Derived.Test.YtjlpjjddnkceoaaQueM
namespace Go.Proofs.Ytjlpjjddnkceoaa
open Go.RowKit
set_option linter.unusedVariables false
set_option linter.unusedSimpArgs false
set_option maxHeartbeats 4000000
set_option maxRecDepth 20000

/-- u is nothing, or a part of a row of numbers from block base on: it holds xs. -/
def RowO (w : World) (base : Nat) (u : Value) (xs : List Value) : Prop :=
  (u = .slice none 0 0 ∧ xs = []) ∨ ∃ g off cap cur, u = .slice (some ⟨g, off, none⟩) xs.length cap ∧ base ≤ g ∧ w.heap[g]? = some (.cells cur 2 (0, 0)) ∧ off + xs.length ≤ cur.size ∧ (cur.toList.drop off).take xs.length = xs

theorem RowO.of_own {w : World} {base n : Nat} {u : Value} {xs : List Value} (h : w.ownsRow base 2 1 u n xs) : RowO w base u xs := by
  have hl := h.1
  simp only [Nat.mul_one] at hl
  rcases h.2 with ⟨rfl, hn⟩ | ⟨g, cap, cur, rfl, hbg, hg, h1, h2, h3, h4⟩
  · exact .inl ⟨rfl, List.eq_nil_of_length_eq_zero (by omega)⟩
  · simp only [Nat.mul_one] at h3 h4
    exact .inr ⟨g, 0, cap, cur, by rw [hl], hbg, hg, by omega, by rw [List.drop_zero, hl]; exact h4⟩

theorem RowO.lt {w : World} {base : Nat} {u : Value} {xs : List Value} (h : RowO w base u xs) : ∀ k, u.ownBlock = some k → base ≤ k ∧ k < w.heap.size := by
  intro k hk
  rcases h with ⟨rfl, _⟩ | ⟨g, off, cap, cur, rfl, hb, hg, _⟩
  · simp [Value.ownBlock] at hk
  · simp [Value.ownBlock] at hk
    subst hk
    exact ⟨hb, (Array.getElem?_eq_some_iff.1 hg).1⟩

theorem RowO.same {w w' : World} {base : Nat} {u : Value} {xs : List Value} (h : RowO w base u xs) (he : ∀ k, u.ownBlock = some k → w'.heap[k]? = w.heap[k]?) : RowO w' base u xs := by
  rcases h with h | ⟨g, off, cap, cur, rfl, hb, hg, r⟩
  · exact .inl h
  · exact .inr ⟨g, off, cap, cur, rfl, hb, (he g rfl).trans hg, r⟩

theorem RowO.below {w w' : World} {base : Nat} {u : Value} {xs : List Value} (h : RowO w base u xs) (hb : Below w.heap.size w w') : RowO w' base u xs := h.same (fun k hk => hb.block k (h.lt k hk).2)

theorem RowO.mono {w : World} {base base' : Nat} {u : Value} {xs : List Value} (h : RowO w base u xs) (hb : base' ≤ base) : RowO w base' u xs := by
  rcases h with h | ⟨g, off, cap, cur, rfl, hbg, r⟩
  · exact .inl h
  · exact .inr ⟨g, off, cap, cur, rfl, Nat.le_trans hb hbg, r⟩

theorem RowO.reads {w : World} {base : Nat} {u : Value} {xs : List Value} (h : RowO w base u xs) : Reads w u xs := by
  rcases h with ⟨rfl, rfl⟩ | ⟨g, off, cap, cur, rfl, hb, hg, hs, ht⟩
  · exact ⟨none, 0, rfl, fun j x hx => by simp at hx⟩
  · refine ⟨some ⟨g, off, none⟩, cap, rfl, fun j x hx => ⟨g, off, rfl, ?_⟩⟩
    rw [← ht, List.getElem?_take] at hx
    split at hx
    · rw [List.getElem?_drop] at hx
      rw [cell_of_row w g (off + j) cur _ (0, 0) hg]
      simpa using hx
    · cases hx

/-- A row of numbers is no row of slices. -/
theorem rowO_kind {w : World} {base base' : Nat} {s n : Nat} {u v : Value} {xs us : List Value} (h : RowO w base u xs) (h' : w.ownsRow base' 33 s v n us) {k : Nat} (hk : u.ownBlock = some k) : v.ownBlock ≠ some k := by
  intro hk'
  rcases h with ⟨rfl, _⟩ | ⟨g, off, cap, cur, rfl, _, hg, _⟩
  · simp [Value.ownBlock] at hk
  rcases h'.2 with ⟨rfl, _⟩ | ⟨g', cap', cur', rfl, _, hg', _⟩
  · simp [Value.ownBlock] at hk'
  simp [Value.ownBlock] at hk hk'
  subst hk
  subst hk'
  rw [hg] at hg'
  simp at hg'

theorem row_frozen {w : World} {g : Nat} {cur : Array Value} {t : TypeId} (h : w.heap[g]? = some (.cells cur t (0, 0))) (o : Nat) : w.frozen? ⟨g, o, none⟩ = false := by
  simp [World.frozen?, h]


/-- v holds the Lines us, which hold the lists X; all the call's own, from block base on; heads may be cut off. -/
structure OwnQ (w : World) (base : Nat) (v : Value) (us : List Value) (X : List (List Int)) : Prop where
  row : w.ownsRow base 33 1 v X.length us
  each : ∀ (j : Nat) (u : Value) (xs : List Int), us[j]? = some u → X[j]? = some xs → RowO w base u (ints xs)

theorem OwnQ.of_own {w : World} {base : Nat} {v : Value} {us : List Value} {X : List (List Int)} (h : OwnSS w base v us X) : OwnQ w base v us X := ⟨h.row, fun j u xs hj hx => RowO.of_own (h.each j u xs hj hx)⟩

theorem OwnQ.len {w : World} {base : Nat} {v : Value} {us : List Value} {X : List (List Int)} (h : OwnQ w base v us X) : us.length = X.length := by
  have := h.row.1
  omega

theorem OwnQ.inner {w : World} {base : Nat} {v : Value} {us : List Value} {X : List (List Int)} (h : OwnQ w base v us X) {u : Value} (hu : u ∈ us) : ∃ xs ∈ X, RowO w base u (ints xs) := by
  obtain ⟨j, hj⟩ := List.getElem?_of_mem hu
  have hjl : j < X.length := by rw [← h.len]; exact (List.getElem?_eq_some_iff.1 hj).1
  exact ⟨X[j], List.getElem_mem hjl, h.each j u X[j] hj (by simp [hjl])⟩

theorem OwnQ.ltI {w : World} {base : Nat} {v : Value} {us : List Value} {X : List (List Int)} (h : OwnQ w base v us X) {u : Value} (hu : u ∈ us) {k : Nat} (hk : u.ownBlock = some k) : base ≤ k ∧ k < w.heap.size := by
  obtain ⟨xs, _, ho⟩ := h.inner hu
  exact ho.lt k hk

theorem OwnQ.same {w w' : World} {base : Nat} {v : Value} {us : List Value} {X : List (List Int)} (h : OwnQ w base v us X) (h1 : ∀ k, v.ownBlock = some k → w'.heap[k]? = w.heap[k]?) (h2 : ∀ u ∈ us, ∀ k, u.ownBlock = some k → w'.heap[k]? = w.heap[k]?) : OwnQ w' base v us X :=
  ⟨own_same h.row h1, fun j u xs hj hx => (h.each j u xs hj hx).same (h2 u (List.mem_of_getElem? hj))⟩

theorem OwnQ.below {w w' : World} {base : Nat} {v : Value} {us : List Value} {X : List (List Int)} (h : OwnQ w base v us X) (hb : Below w.heap.size w w') : OwnQ w' base v us X :=
  h.same (fun k hk => hb.block k (h.row.lt k hk).2) (fun u hu k hk => hb.block k (h.ltI hu hk).2)

theorem OwnQ.mono {w : World} {base base' : Nat} {v : Value} {us : List Value} {X : List (List Int)} (h : OwnQ w base v us X) (hb : base' ≤ base) : OwnQ w base' v us X :=
  ⟨own_mono h.row hb, fun j u xs hj hx => (h.each j u xs hj hx).mono hb⟩

theorem OwnQ.set {w : World} {base b o : Nat} {x v : Value} {us : List Value} {X : List (List Int)} (h : OwnQ w base v us X) (hb : b < base) : OwnQ (w.setCell ⟨b, o, none⟩ x) base v us X :=
  h.same (fun k hk => Below.heap_setCell _ _ _ _ (by have := (h.row.lt k hk).1; simp; omega)) (fun u hu k hk => Below.heap_setCell _ _ _ _ (by have := (h.ltI hu hk).1; simp; omega))

theorem OwnQ.reads {w : World} {base : Nat} {v : Value} {us : List Value} {X : List (List Int)} (h : OwnQ w base v us X) : ReadsSS w v X := by
  have hl := h.len
  rcases h.row.2 with ⟨rfl, hn⟩ | ⟨g, cap, cur, rfl, _⟩
  · exact ⟨none, 0, by rw [hn], fun j xs hx => by rw [List.eq_nil_of_length_eq_zero hn] at hx; simp at hx⟩
  · refine ⟨some ⟨g, 0, none⟩, cap, rfl, fun j xs hx => ?_⟩
    have hj : j < X.length := (List.getElem?_eq_some_iff.1 hx).1
    have hju : us[j]? = some (us[j]'(by omega)) := by simp [hl, hj]
    refine ⟨g, 0, us[j]'(by omega), rfl, ?_, (h.each j _ xs hju hx).reads⟩
    rw [Nat.zero_add, h.row.cellAt j (by omega)]
    exact hju

/-- The rows of the first m lists bear their marks, the others hold what they held. -/
structure MarkedQ (base : Nat) (us : List Value) (X : List (List Int)) (k : Int) (m : Nat) (w : World) : Prop where
  done : ∀ (j : Nat) (u : Value) (hj : j < X.length), j < m → us[j]? = some u → RowO w base u (markI (k + tot (X.take j)) X[j].length)
  todo : ∀ (j : Nat) (u : Value) (hj : j < X.length), m ≤ j → us[j]? = some u → RowO w base u (ints X[j])

theorem MarkedQ.below {base : Nat} {us : List Value} {X : List (List Int)} {k : Int} {m : Nat} {w w' : World} (h : MarkedQ base us X k m w) (hb : Below w.heap.size w w') : MarkedQ base us X k m w' :=
  ⟨fun j u hj hm hu => (h.done j u hj hm hu).below hb, fun j u hj hm hu => (h.todo j u hj hm hu).below hb⟩

theorem tot_take_le (X : List (List Int)) (j : Nat) : tot (X.take j) ≤ tot X := by
  have := tot_append (X.take j) (X.drop j)
  rw [List.take_append_drop] at this
  omega

/-- Nothing from top on has turned. -/
def Above (top : Nat) (w w' : World) : Prop := w.heap.size ≤ w'.heap.size ∧ ∀ b, top ≤ b → b < w.heap.size → w'.heap[b]? = w.heap[b]?

theorem Above.refl (top : Nat) (w : World) : Above top w w := ⟨Nat.le_refl _, fun _ _ _ => rfl⟩



end Go.Proofs.Ytjlpjjddnkceoaa
