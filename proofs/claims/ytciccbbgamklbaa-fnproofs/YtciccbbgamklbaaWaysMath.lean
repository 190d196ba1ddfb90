/-
  Chapter 4, mathematics of FnWays: ways are ways, each once and in order; there is one just where one comes to.
-/
import Derived.Test.YtciccbbgamklbaaWaysBoth
import Derived.Test.YtciccbbgamklbaaG04VisitsM
import Derived.Test.YtciccbbgamklbaaImplShort
namespace Go.Proofs.Ytciccbbgamklbaa
open Go.RowKit
set_option linter.unusedVariables false
set_option maxHeartbeats 1000000

theorem nextsS_nodup (s : Stm) (i : Int) : (nextsS s i).Pairwise (· ≠ ·) := by
  unfold nextsS
  split
  · exact List.Pairwise.nil
  split
  · split
    · simp; omega
    split
    · simp; omega
    · simp
  · simp

theorem getD_snoc_ltW {way : List Int} {y : Int} {k : Nat} (h : k < way.length) : (way ++ [y]).getD k 0 = way.getD k 0 := by
  simp [List.getD, List.getElem?_append_left h]

theorem stepsOk_snoc {ss : List Stm} {way : List Int} {y : Int} : ∀ {k : Nat}, k < way.length → stepsOk ss way k = true → stepsOk ss (way ++ [y]) k = true
  | 0, _, _ => rfl
  | k + 1, hk, h => by
    simp only [stepsOk, Bool.and_eq_true] at h ⊢
    rw [getD_snoc_ltW hk, getD_snoc_ltW (Nat.lt_of_succ_lt hk)]
    exact ⟨stepsOk_snoc (Nat.lt_of_succ_lt hk) h.1, h.2⟩

/-- What is at level k is a way. -/
theorem levs_ok {ss : List Stm} (hp : procOk ss = true) : ∀ (k : Nat) (way : List Int), way ∈ levs ss k → way.getD 0 0 = 0 ∧ stepsOk ss way k = true
  | 0, way, h => by
    simp [levs] at h
    subst h
    exact ⟨rfl, rfl⟩
  | k + 1, way, h => by
    simp only [levs, List.mem_flatMap, grow1, List.mem_map] at h
    obtain ⟨w0, h0, y, hy, rfl⟩ := h
    obtain ⟨hl, j, hj, hlt⟩ := levs_mem hp k w0 h0
    obtain ⟨h1, h2⟩ := levs_ok hp k w0 h0
    refine ⟨by rw [getD_snoc_ltW (by omega)]; exact h1, ?_⟩
    simp only [stepsOk, Bool.and_eq_true]
    refine ⟨stepsOk_snoc (by omega) h2, ?_⟩
    have e1 : (w0 ++ [y]).getD k 0 = lastI w0 := by
      rw [getD_snoc_ltW (by omega)]
      unfold lastI
      rw [hl]
      rfl
    have e2 : (w0 ++ [y]).getD (k + 1) 0 = y := by
      simp [List.getD, ← hl]
    rw [e1, e2]
    unfold hasI
    rw [List.any_eq_true]
    refine ⟨y, ?_, by simp⟩
    rw [hj] at hy ⊢
    rw [Int.toNat_natCast] at hy ⊢
    exact hy

theorem waysTo_in {ss : List Stm} {i : Int} : ∀ {M : Nat} {way : List Int}, way ∈ waysTo ss i M → ∃ k, k < M ∧ way ∈ levs ss k ∧ lastI way = i
  | 0, way, h => by simp [waysTo] at h
  | M + 1, way, h => by
    simp only [waysTo, List.mem_append, List.mem_filter, decide_eq_true_eq] at h
    rcases h with h | ⟨h1, h2⟩
    · obtain ⟨k, hk, h⟩ := waysTo_in h
      exact ⟨k, by omega, h⟩
    · exact ⟨M, by omega, h1, h2⟩

theorem waysTo_has {ss : List Stm} {i : Int} : ∀ {M k : Nat} {way : List Int}, k < M → way ∈ levs ss k → lastI way = i → way ∈ waysTo ss i M
  | 0, k, way, h, _, _ => by omega
  | M + 1, k, way, h, h1, h2 => by
    simp only [waysTo, List.mem_append, List.mem_filter, decide_eq_true_eq]
    by_cases hk : k = M
    · subst hk
      exact .inr ⟨h1, h2⟩
    · exact .inl (waysTo_has (by omega) h1 h2)

/-- Levels are without doubles. -/
theorem levs_nodup (ss : List Stm) : ∀ k : Nat, (levs ss k).Pairwise (· ≠ ·)
  | 0 => by simp [levs]
  | k + 1 => by
    unfold levs
    rw [List.pairwise_flatMap]
    refine ⟨fun a ha => ?_, (levs_nodup ss k).imp (fun {a b} hab x hx y hy e => ?_)⟩
    · unfold grow1
      rw [List.pairwise_map]
      refine (nextsS_nodup _ _).imp (fun {a b} hab e => hab ?_)
      simpa using e
    · unfold grow1 at hx hy
      simp only [List.mem_map] at hx hy
      obtain ⟨p, _, rfl⟩ := hx
      obtain ⟨q, _, rfl⟩ := hy
      have := List.append_inj' e rfl
      exact hab this.1

/-- Sizes rise, and none is there twice. -/
theorem waysTo_order {ss : List Stm} (hp : procOk ss = true) (i : Int) : ∀ M : Nat, (waysTo ss i M).Pairwise (fun a b => a.length ≤ b.length ∧ a ≠ b)
  | 0 => by simp [waysTo]
  | M + 1 => by
    unfold waysTo
    rw [List.pairwise_append]
    refine ⟨waysTo_order hp i M, ?_, fun a ha b hb => ?_⟩
    · refine List.Pairwise.filter _ ?_
      refine (levs_nodup ss M).imp_of_mem (fun {a b} ha hb hab => ⟨?_, hab⟩)
      rw [(levs_mem hp M a ha).1, (levs_mem hp M b hb).1]
      exact Nat.le_refl _
    · obtain ⟨k, hk, h1, _⟩ := waysTo_in ha
      have h2 := (levs_mem hp k a h1).1
      have h3 := (levs_mem hp M b (List.mem_filter.1 hb).1).1
      exact ⟨by omega, fun e => by rw [e, h3] at h2; omega⟩

/-- At level k one is just where one comes to by k steps. -/
theorem levs_rk {ss : List Stm} (hp : procOk ss = true) : ∀ (k i : Nat), (∃ way ∈ levs ss k, lastI way = (i : Int)) ↔ rk ss (-1) k i
  | 0, i => by
    simp only [levs, List.mem_singleton, exists_eq_left, rk]
    have : lastI [0] = 0 := rfl
    rw [this]
    constructor
    · intro h; exact ⟨by omega, by omega⟩
    · rintro ⟨_, rfl⟩; rfl
  | k + 1, i => by
    simp only [rk]
    constructor
    · rintro ⟨way, h, hl⟩
      simp only [levs, List.mem_flatMap, grow1, List.mem_map] at h
      obtain ⟨w0, h0, y, hy, rfl⟩ := h
      rw [lastI_snoc] at hl
      subst hl
      obtain ⟨_, j, hj, _⟩ := levs_mem hp k w0 h0
      rw [hj, Int.toNat_natCast] at hy
      exact ⟨by omega, j, (levs_rk hp k j).1 ⟨w0, h0, hj⟩, hy⟩
    · rintro ⟨_, j, hj, hm⟩
      obtain ⟨w0, h0, hl⟩ := (levs_rk hp k j).2 hj
      refine ⟨w0 ++ [(i : Int)], ?_, lastI_snoc _ _⟩
      simp only [levs, List.mem_flatMap, grow1, List.mem_map]
      exact ⟨w0, h0, (i : Int), by rw [hl, Int.toNat_natCast]; exact hm, rfl⟩

/-- The nearest ones: no level is empty below a nearest one. -/
theorem near_below {ss : List Stm} : ∀ (k i : Nat), rk ss (-1) k i → (∀ k', k' < k → ¬ rk ss (-1) k' i) → ∀ m, m ≤ k → ∃ j, rk ss (-1) m j ∧ ∀ k', k' < m → ¬ rk ss (-1) k' j
  | 0, i, h, hn, m, hm => ⟨i, by obtain rfl : m = 0 := by omega
                                 exact h, fun k' hk => by omega⟩
  | k + 1, i, h, hn, m, hm => by
    by_cases e : m = k + 1
    · subst e
      exact ⟨i, h, hn⟩
    · obtain ⟨_, j, hj, hmem⟩ := h
      refine near_below k j hj (fun k' hk hr => hn (k' + 1) (by omega) ⟨by omega, j, hr, hmem⟩) m (by omega)

theorem pigeon : ∀ (n : Nat) (f : Nat → Nat), (∀ m, m ≤ n → f m < n) → (∀ a b, a < b → b ≤ n → f a ≠ f b) → False := by
  intro n f h1 h2
  have hnd : ((List.range (n + 1)).map f).Pairwise (· ≠ ·) := by
    rw [List.pairwise_map]
    refine List.Pairwise.imp_of_mem (R := (· < ·)) (fun {a b} ha hb hab => ?_) List.pairwise_lt_range
    exact h2 a b hab (by have := List.mem_range.1 hb; omega)
  have hsub : ∀ x ∈ (List.range (n + 1)).map f, x ∈ List.range n := fun x hx => by
    obtain ⟨m, hm, rfl⟩ := List.mem_map.1 hx
    exact List.mem_range.2 (h1 m (by have := List.mem_range.1 hm; omega))
  have := List.Nodup.length_le_of_subset (α := Nat) (l₁ := (List.range (n + 1)).map f) (l₂ := List.range n) hnd hsub
  simp at this
  omega

/-- What one comes to one comes to by fewer steps than there are statements. -/
theorem near_few {ss : List Stm} (hp : procOk ss = true) {k i : Nat} (h : rk ss (-1) k i) (hn : ∀ k', k' < k → ¬ rk ss (-1) k' i) : k < ss.length := by
  refine Classical.byContradiction (fun hk => ?_)
  have hex := near_below k i h hn
  let f : Nat → Nat := fun m => if hm : m ≤ k then Classical.choose (hex m hm) else 0
  have hf : ∀ m (hm : m ≤ k), rk ss (-1) m (f m) ∧ ∀ k', k' < m → ¬ rk ss (-1) k' (f m) := fun m hm => by
    have := Classical.choose_spec (hex m hm)
    simp only [f, dif_pos hm]
    exact this
  refine pigeon ss.length f (fun m hm => rk_in hp (hf m (by omega)).1) (fun a b hab hb e => ?_)
  exact (hf b (by omega)).2 a hab (e ▸ (hf a (by omega)).1)

theorem rk_nearest {ss : List Stm} {i : Nat} (h : Rch ss (-1) i) : ∃ k, rk ss (-1) k i ∧ ∀ k', k' < k → ¬ rk ss (-1) k' i := by
  obtain ⟨k, hk⟩ := h
  induction k using Nat.strongRecOn with
  | _ k ih =>
    by_cases hx : ∃ k', k' < k ∧ rk ss (-1) k' i
    · obtain ⟨k', h1, h2⟩ := hx
      exact ih k' h1 h2
    · exact ⟨k, hk, fun k' h1 h2 => hx ⟨k', h1, h2⟩⟩

theorem waysAns_parts {ss : List Stm} {i most : Int} {way : List Int} (h : way ∈ waysAns ss i most) : procOk ss = true ∧ (∃ j : Nat, i = (j : Int) ∧ j < ss.length) ∧ 1 ≤ most ∧ most ≤ 9 ∧ way ∈ waysTo ss i most.toNat := by
  unfold waysAns at h
  split at h
  · rename_i hc
    simp only [Bool.and_eq_true, inB, decide_eq_true_eq] at hc
    obtain ⟨hp, j, hj⟩ := hasS_true hc.1
    exact ⟨hp, ⟨j, hj⟩, hc.2.1, hc.2.2, h⟩
  · simp at h

/-- Each of them is a way there, and not too long. -/
theorem way_good {ss : List Stm} {i most : Int} {way : List Int} (h : way ∈ waysAns ss i most) : wayAns ss way = true ∧ lastI way = i ∧ (way.length : Int) ≤ most ∧ 1 ≤ way.length := by
  obtain ⟨hp, _, h1, h9, hm⟩ := waysAns_parts h
  obtain ⟨k, hk, hl, hi⟩ := waysTo_in hm
  have hlen := (levs_mem hp k way hl).1
  obtain ⟨h0, hs⟩ := levs_ok hp k way hl
  refine ⟨?_, hi, by omega, by omega⟩
  unfold wayAns
  rw [hlen]
  simp only [Nat.add_sub_cancel, hs, hp, h0]
  simp
  omega

theorem ways_order (ss : List Stm) (i most : Int) : (waysAns ss i most).Pairwise (fun a b => a.length ≤ b.length ∧ a ≠ b) := by
  unfold waysAns
  split
  · rename_i hc
    simp only [Bool.and_eq_true] at hc
    exact waysTo_order (hasS_true hc.1).1 i _
  · exact List.Pairwise.nil

/-- The first one is as long as the shortest, and one comes there. -/
theorem ways_first {ss : List Stm} {i most : Int} {x : List Int} {l : List (List Int)} (h : waysAns ss i most = x :: l) {S : Int} (hS : ShortAns ss i S) : (∃ j : Nat, i = (j : Int) ∧ Rch ss (-1) j) ∧ S = (x.length : Int) := by
  have hx : x ∈ waysAns ss i most := by rw [h]; simp
  obtain ⟨hp, ⟨j, rfl, hj⟩, h1, h9, hm⟩ := waysAns_parts hx
  obtain ⟨k, hk, hl, hi⟩ := waysTo_in hm
  have hr : rk ss (-1) k j := (levs_rk hp k j).1 ⟨x, hl, hi⟩
  refine ⟨⟨j, rfl, k, hr⟩, ?_⟩
  have hlen := (levs_mem hp k x hl).1
  have hh : hasS ss (j : Int) = true := by unfold hasS wiB; simp [hp, hj]
  have hmin : ∀ k', k' < k → ¬ rk ss (-1) k' j := fun k' hk' hr' => by
    obtain ⟨way, hw, hwl⟩ := (levs_rk hp k' j).2 hr'
    have hmem : way ∈ waysAns ss (j : Int) most := by
      unfold waysAns
      rw [if_pos (by simp [hh, inB, h1, h9])]
      exact waysTo_has (by omega) hw hwl
    have hwlen := (levs_mem hp k' way hw).1
    rw [h] at hmem
    have ho := ways_order ss (j : Int) most
    rw [h] at ho
    rcases List.mem_cons.1 hmem with e | e
    · rw [e] at hwlen; omega
    · have := (List.pairwise_cons.1 ho).1 way e
      omega
  rw [(hS.2 hh j rfl).2 k hr hmin, hlen]
  omega

/-- There is one just where one comes to. -/
theorem ways_some {ss : List Stm} {i : Int} (h7 : ss.length ≤ 7) {R : List Int} (hR1 : procOk ss = true → IsReached ss (-1) R) (hR2 : procOk ss = false → R = []) : 0 < (waysAns ss i 7).length ↔ i ∈ R := by
  constructor
  · intro h
    obtain ⟨x, hx⟩ := List.exists_mem_of_length_pos h
    obtain ⟨hp, ⟨j, rfl, hj⟩, h1, h9, hm⟩ := waysAns_parts hx
    obtain ⟨k, hk, hl, hi⟩ := waysTo_in hm
    exact ((hR1 hp).2 _).2 ⟨j, rfl, k, (levs_rk hp k j).1 ⟨x, hl, hi⟩⟩
  · intro h
    cases hp : procOk ss
    · rw [hR2 hp] at h
      simp at h
    · obtain ⟨j, rfl, hr⟩ := ((hR1 hp).2 _).1 h
      obtain ⟨k, hk, hmin⟩ := least_rk hr
      have hkl := near_few hp hk hmin
      have hj := rk_in hp hk
      obtain ⟨way, hw, hwl⟩ := (levs_rk hp k j).2 hk
      have hh : hasS ss (j : Int) = true := by unfold hasS wiB; simp [hp, hj]
      have hmem : way ∈ waysAns ss (j : Int) 7 := by
        unfold waysAns
        rw [if_pos (by simp [hh, inB])]
        exact waysTo_has (by show k < 7; omega) hw hwl
      exact List.length_pos_of_mem hmem

end Go.Proofs.Ytciccbbgamklbaa
