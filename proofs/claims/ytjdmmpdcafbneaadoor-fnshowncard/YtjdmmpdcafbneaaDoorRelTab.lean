/-
  Chapter 10: tables of relations as arrays: how they and their rows are read, written, compared.
-/
import Derived.Test.YtjdmmpdcafbneaaDoorTabM
namespace Go.Proofs.YtjdmmpdcafbneaaDoor
open Go.RowKit
set_option linter.unusedVariables false
set_option maxHeartbeats 1000000
set_option maxRecDepth 100000

/-- Here a walk stands still. -/
def Stop (p : Prop) : Prop := p
theorem stop_of {p : Prop} (h : Stop p) : p := h

/-- n rows of seven. -/
def Rows7 (n : Nat) (gs : List (List Int)) : Prop := gs.length = n ∧ ∀ r ∈ gs, r.length = 7

/-- A table as a value; a block that holds it. -/
def tabR (gs : List (List Int)) : Value := .agg (ints gs.flatten).toArray
def TabR (w : World) (G : Nat) (t : TypeId) (gs : List (List Int)) : Prop := w.heap[G]? = some (.cells (ints gs.flatten).toArray t (0, 0))

theorem flat7_get : ∀ (gs : List (List Int)), (∀ b ∈ gs, b.length = 7) → ∀ q r, r < 7 → gs.flatten[7 * q + r]? = (gs[q]?.bind (·[r]?))
  | [], _, q, r, _ => by simp
  | b :: gs, h, 0, r, hr => by
    have hb := h b (by simp)
    simp only [List.flatten_cons, Nat.mul_zero, Nat.zero_add, List.getElem?_cons_zero, Option.bind_some]
    rw [List.getElem?_append_left (by omega)]
  | b :: gs, h, q + 1, r, hr => by
    have hb := h b (by simp)
    have ih := flat7_get gs (fun c hc => h c (by simp [hc])) q r hr
    simp only [List.flatten_cons, List.getElem?_cons_succ]
    rw [List.getElem?_append_right (by omega), ← ih]
    congr 1
    omega

theorem flat7_length : ∀ (gs : List (List Int)), (∀ b ∈ gs, b.length = 7) → gs.flatten.length = 7 * gs.length
  | [], _ => rfl
  | b :: gs, h => by
    have hb := h b (by simp)
    have ih := flat7_length gs (fun c hc => h c (by simp [hc]))
    simp only [List.flatten_cons, List.length_append, List.length_cons]
    omega

theorem Rows7.flat {n : Nat} {gs : List (List Int)} (h : Rows7 n gs) : gs.flatten.length = 7 * n := by rw [flat7_length gs h.2, h.1]
theorem Rows7.row {n : Nat} {gs : List (List Int)} (h : Rows7 n gs) {j : Nat} (hj : j < n) : (gs.getD j []).length = 7 := by
  have hl : j < gs.length := by rw [h.1]; exact hj
  have e : gs.getD j [] = gs[j] := by simp [List.getD, hl]
  rw [e]; exact h.2 _ (List.getElem_mem _)
theorem Rows7.set {n : Nat} {gs : List (List Int)} (h : Rows7 n gs) {j : Nat} {r : List Int} (hr : r.length = 7) : Rows7 n (gs.set j r) :=
  ⟨by rw [List.length_set, h.1], fun c hc => by
    rcases List.mem_or_eq_of_mem_set hc with hc | rfl
    · exact h.2 c hc
    · exact hr⟩
theorem Rows7.zero (n : Nat) : Rows7 n (List.replicate n zero7) := ⟨by simp, fun r hr => by rw [List.eq_of_mem_replicate hr]; rfl⟩

theorem TabR.lt {w : World} {G : Nat} {t : TypeId} {gs : List (List Int)} (h : TabR w G t gs) : G < w.heap.size := (Array.getElem?_eq_some_iff.1 h).1
theorem TabR.kept {w w' : World} {G : Nat} {t : TypeId} {gs : List (List Int)} (h : TabR w G t gs) (hb : w'.heap[G]? = w.heap[G]?) : TabR w' G t gs := hb.trans h
theorem TabR.below {w w' : World} {G : Nat} {t : TypeId} {gs : List (List Int)} (h : TabR w G t gs) (hb : Below w.heap.size w w') : TabR w' G t gs := h.kept (hb.block G h.lt)
theorem TabR.grown {w w' : World} {G : Nat} {t : TypeId} {gs : List (List Int)} {row : Option Nat} (h : TabR w G t gs) (hb : w.grownBy w' row) (hr : row ≠ some G) : TabR w' G t gs := h.kept (hb.block G h.lt (fun e => hr e.symm))

theorem TabR.cell {w : World} {G : Nat} {t : TypeId} {gs : List (List Int)} (h : TabR w G t gs) (k : Nat) : w.cell? ⟨G, k, none⟩ = (ints gs.flatten)[k]? ∧ w.frozen? ⟨G, k, none⟩ = false :=
  ⟨by rw [cell_of_row w G k _ _ (0, 0) h]; simp, frozen_of_row w G k _ _ h⟩

theorem TabR.range {w : World} {G : Nat} {t : TypeId} {gs : List (List Int)} (h : TabR w G t gs) : w.rangeAt G 0 (ints gs.flatten) := fun j v hv => by
  rw [Nat.zero_add, (h.cell j).1, hv]

theorem TabR.row {w : World} {G n : Nat} {t : TypeId} {gs : List (List Int)} (h : TabR w G t gs) (hr : Rows7 n gs) {j : Nat} (hj : j < n) : w.rangeAt G (j * 7) (ints (gs.getD j [])) := fun k v hv => by
  have hl : j < gs.length := by rw [hr.1]; exact hj
  have hk : k < 7 := by
    have := (List.getElem?_eq_some_iff.1 hv).1
    rw [ints_length, hr.row hj] at this; exact this
  have e : gs.getD j [] = gs[j] := by simp [List.getD, hl]
  rw [(h.cell _).1, Nat.mul_comm j 7]
  unfold ints at hv ⊢
  rw [List.getElem?_map, flat7_get gs hr.2 j k hk, List.getElem?_eq_getElem hl, Option.bind_some, ← e, ← List.getElem?_map]
  exact hv

theorem TabR.there {w : World} {G n : Nat} {t : TypeId} {gs : List (List Int)} (h : TabR w G t gs) (hr : Rows7 n gs) : w.there G 0 (7 * n) := fun k hk => by
  rw [Nat.zero_add]
  refine ⟨?_, (h.cell k).2⟩
  rw [(h.cell k).1, List.getElem?_eq_getElem (by rw [ints_length, hr.flat]; exact hk)]
  rfl

theorem TabR.thereRow {w : World} {G n : Nat} {t : TypeId} {gs : List (List Int)} (h : TabR w G t gs) (hr : Rows7 n gs) {j : Nat} (hj : j < n) : w.there G (j * 7) 7 := fun k hk => by
  have := h.there hr (j * 7 + k) (by omega)
  rwa [Nat.zero_add] at this

/-- A block by its cells. -/
theorem tab_of_cells {w : World} {G : Nat} {t : TypeId} {C : Array Value} {L : List Value} (h : w.heap[G]? = some (.cells C t (0, 0))) (hs : C.size = L.length) (hc : ∀ k v, L[k]? = some v → w.cell? ⟨G, k, none⟩ = some v) : w.heap[G]? = some (.cells L.toArray t (0, 0)) := by
  rw [h]
  congr 2
  refine Array.ext' (List.ext_getElem (by simpa using hs) (fun j h1 h2 => ?_))
  have h3 := hc j L[j] (List.getElem?_eq_getElem (by simpa using h2))
  rw [cell_of_row w G j C t (0, 0) h, Array.getElem?_eq_getElem (by simpa using h1)] at h3
  simpa using h3

theorem TabR.store {w : World} {G n : Nat} {t : TypeId} {gs : List (List Int)} (h : TabR w G t gs) (hr : Rows7 n gs) {j : Nat} (hj : j < n) {xs : List Int} (hx : xs.length = 7) : TabR (w.setCells G (j * 7) (ints xs)) G t (gs.set j xs) := by
  obtain ⟨C, hC, hs⟩ := heap_setCells7 G t (ints xs) (j * 7) w _ h
  have hset := hr.set (j := j) hx
  refine tab_of_cells hC (by rw [hs, List.size_toArray, ints_length, ints_length, hset.flat, hr.flat]) (fun k v hv => ?_)
  obtain ⟨q, r, hq, rfl⟩ : ∃ q r, r < 7 ∧ k = 7 * q + r := ⟨k / 7, k % 7, Nat.mod_lt _ (by omega), by omega⟩
  have hjl : j < gs.length := by rw [hr.1]; exact hj
  unfold ints at hv
  rw [List.getElem?_map, flat7_get _ hset.2 q r hq] at hv
  by_cases e : j = q
  · subst e
    rw [List.getElem?_set_self hjl, Option.bind_some] at hv
    have := World.rangeAt_setCells_same w G (j * 7) (ints xs) (by rw [ints_length, hx]; exact h.thereRow hr hj) r v (by unfold ints; rw [List.getElem?_map]; exact hv)
    rw [Nat.mul_comm 7 j]
    exact this
  · rw [List.getElem?_set_ne e] at hv
    rw [World.cell?_setCells_out G (ints xs) (j * 7) w ⟨G, 7 * q + r, none⟩ (fun _ _ => by
      show 7 * q + r < j * 7 ∨ j * 7 + (ints xs).length ≤ 7 * q + r
      rw [ints_length, hx]
      omega), (h.cell _).1]
    unfold ints
    rw [List.getElem?_map, flat7_get _ hr.2 q r hq]
    exact hv

theorem TabR.copied {w : World} {G n : Nat} {t : TypeId} {gs hs : List (List Int)} (h : TabR w G t gs) (hr : Rows7 n gs) (hr' : Rows7 n hs) : TabR (w.setCells G 0 (ints hs.flatten)) G t hs := by
  obtain ⟨C, hC, hsz⟩ := heap_setCells7 G t (ints hs.flatten) 0 w _ h
  refine tab_of_cells hC (by rw [hsz, List.size_toArray, ints_length, ints_length, hr.flat, hr'.flat]) (fun k v hv => ?_)
  have := World.rangeAt_setCells_same w G 0 (ints hs.flatten) (by rw [ints_length, hr'.flat]; exact h.there hr) k v hv
  rwa [Nat.zero_add] at this

theorem tabR_new (w : World) (gs : List (List Int)) (t : TypeId) : TabR (w.alloc (.cells (ints gs.flatten).toArray t)) w.heap.size t gs := heap_alloc_new w _

theorem tab_extract7 (gs : List (List Int)) {n : Nat} (hr : Rows7 n gs) (i : Nat) (hi : i < n) : (ints gs.flatten).toArray.extract (i * 7) (i * 7 + 7) = (ints (gs.getD i [])).toArray := by
  have hig : i < gs.length := by rw [hr.1]; exact hi
  have e : gs.getD i [] = gs[i] := by simp [List.getD, hig]
  have hri : gs[i].length = 7 := hr.2 _ (List.getElem_mem _)
  have hfl := hr.flat
  rw [e]
  apply Array.ext_getElem?
  intro k
  rw [Array.getElem?_extract]
  simp only [List.size_toArray, List.getElem?_toArray, ints_length]
  unfold ints
  by_cases hk : k < 7
  · rw [if_pos (by omega), List.getElem?_map, List.getElem?_map, Nat.mul_comm i 7, flat7_get gs hr.2 i k hk, List.getElem?_eq_getElem hig]
    simp
  · rw [if_neg (by omega), List.getElem?_eq_none (by simp; omega)]

end Go.Proofs.YtjdmmpdcafbneaaDoor
