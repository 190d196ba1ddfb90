/-
  Mathematics: loops (no dump is spoken of).
-/
import Derived.Test.YtjlfmjoallnojadGatesM
namespace Go.Proofs.Ytjlfmjoallnojad
set_option linter.unusedVariables false

noncomputable def loopsPart (ss : List Stm) (j m : Nat) : List (List Int) := (((nx ss j).take m).filter (fun y => decide (y ∈ gatesL ss j))).map (fun y => [(j : Int), y])

noncomputable def loopsAt (ss : List Stm) (j : Nat) : List (List Int) := loopsPart ss j (nx ss j).length

noncomputable def loopsTo (ss : List Stm) : Nat → List (List Int)
  | 0 => []
  | k + 1 => loopsTo ss k ++ loopsAt ss k

noncomputable def loopsAns (ss : List Stm) : List (List Int) := if procOk ss then loopsTo ss ss.length else []

theorem loopsPart_zero (ss : List Stm) (j : Nat) : loopsPart ss j 0 = [] := by simp [loopsPart]

theorem loopsPart_next (ss : List Stm) (j m : Nat) (hm : m < (nx ss j).length) : loopsPart ss j (m + 1) = loopsPart ss j m ++ (if (nx ss j)[m] ∈ gatesL ss j then [[(j : Int), (nx ss j)[m]]] else []) := by
  unfold loopsPart
  rw [List.take_succ_eq_append_getElem hm, List.filter_append, List.map_append]
  congr 1
  split
  · rename_i h; simp [h]
  · rename_i h; simp [h]

theorem nx_length (ss : List Stm) (j : Nat) : (nx ss j).length ≤ 2 := by unfold nx; exact nextsS_length _ _

theorem loopsPart_length (ss : List Stm) (j m : Nat) : (loopsPart ss j m).length ≤ 2 := by
  unfold loopsPart
  rw [List.length_map]
  refine Nat.le_trans (List.length_filter_le _ _) (Nat.le_trans ?_ (nx_length ss j))
  rw [List.length_take]
  exact Nat.min_le_right _ _

theorem loopsTo_length (ss : List Stm) : ∀ k, (loopsTo ss k).length ≤ 2 * k
  | 0 => by simp [loopsTo]
  | k + 1 => by
    have := loopsTo_length ss k
    have := loopsPart_length ss k (nx ss k).length
    simp only [loopsTo, List.length_append, loopsAt]
    omega

theorem loopsPart_mem {ss : List Stm} {j m : Nat} {xs : List Int} (h : xs ∈ loopsPart ss j m) : ∃ y, xs = [(j : Int), y] ∧ y ∈ nx ss j ∧ y ∈ gatesL ss j := by
  unfold loopsPart at h
  simp only [List.mem_map, List.mem_filter, decide_eq_true_eq] at h
  obtain ⟨y, ⟨h1, h2⟩, rfl⟩ := h
  exact ⟨y, rfl, List.mem_of_mem_take h1, h2⟩

theorem loopsTo_mem {ss : List Stm} : ∀ {k : Nat} {xs : List Int}, xs ∈ loopsTo ss k → ∃ (j : Nat) (y : Int), j < k ∧ xs = [(j : Int), y] ∧ y ∈ nx ss j ∧ y ∈ gatesL ss j
  | 0, xs, h => by simp [loopsTo] at h
  | k + 1, xs, h => by
    rcases List.mem_append.1 h with h | h
    · obtain ⟨j, y, h1, h2⟩ := loopsTo_mem h
      exact ⟨j, y, by omega, h2⟩
    · obtain ⟨y, h2⟩ := loopsPart_mem h
      exact ⟨k, y, by omega, h2⟩

theorem loopsTo_has {ss : List Stm} : ∀ {k j : Nat} {y : Int}, j < k → y ∈ nx ss j → y ∈ gatesL ss j → [(j : Int), y] ∈ loopsTo ss k
  | 0, j, y, h, _, _ => by omega
  | k + 1, j, y, h, h1, h2 => by
    simp only [loopsTo, List.mem_append]
    by_cases e : j = k
    · subst e
      right
      unfold loopsAt loopsPart
      simp only [List.take_length, List.mem_map, List.mem_filter, decide_eq_true_eq]
      exact ⟨y, ⟨h1, h2⟩, rfl⟩
    · exact .inl (loopsTo_has (by omega) h1 h2)

theorem loopsAns_length (ss : List Stm) : (loopsAns ss).length ≤ 24 := by
  unfold loopsAns
  split
  · rename_i h
    have := loopsTo_length ss ss.length
    have := (procOk_parts h).2.1
    omega
  · simp

theorem loopsAns_each {ss : List Stm} {xs : List Int} (h : xs ∈ loopsAns ss) : xs.length ≤ 2 := by
  unfold loopsAns at h
  split at h
  · obtain ⟨j, y, _, rfl, _⟩ := loopsTo_mem h
    exact Nat.le_refl _
  · simp at h

theorem loopsAt_none {ss : List Stm} {j : Nat} (h : ¬ Rch ss (-1) j) : loopsAt ss j = [] := by
  rw [List.eq_nil_iff_forall_not_mem]
  intro xs hx
  obtain ⟨y, _, _, hy⟩ := loopsPart_mem hx
  obtain ⟨d, i, _, e, hd⟩ := gatesL_in hy
  obtain rfl : j = i := by omega
  exact h hd.1

/-- The loops, over those that are reached. -/
noncomputable def loopsR (ss : List Stm) (A : List Int) (m : Nat) : List (List Int) := (A.take m).flatMap (fun x => loopsAt ss x.toNat)

theorem loopsR_next (ss : List Stm) (A : List Int) (m : Nat) (j : Nat) (hm : m < A.length) (hj : A[m] = (j : Int)) : loopsR ss A (m + 1) = loopsR ss A m ++ loopsAt ss j := by
  unfold loopsR
  rw [List.take_succ_eq_append_getElem hm, List.flatMap_append, hj]
  simp

theorem loopsR_all {ss : List Stm} {A : List Int} (hp : procOk ss = true) (hA : IsReached ss (-1) A) : loopsR ss A A.length = loopsTo ss ss.length := by
  have key : ∀ k : Nat, (A.filter (fun x => decide (x < (k : Int)))).flatMap (fun x => loopsAt ss x.toNat) = loopsTo ss k := by
    intro k
    induction k with
    | zero =>
      have : A.filter (fun x => decide (x < ((0 : Nat) : Int))) = [] := by
        rw [List.filter_eq_nil_iff]
        intro x hx
        obtain ⟨i, rfl, _⟩ := (hA.2 x).1 hx
        simp
      rw [this]; rfl
    | succ k ih =>
      have hnext : A.filter (fun x => decide (x < ((k + 1 : Nat) : Int))) = A.filter (fun x => decide (x < (k : Int))) ++ (if (k : Int) ∈ A then [(k : Int)] else []) := by
        refine sorted_ext _ _ (hA.1.sublist List.filter_sublist) ?_ (fun x => ?_)
        · rw [List.pairwise_append]
          refine ⟨hA.1.sublist List.filter_sublist, by split <;> simp, fun a ha b hb => ?_⟩
          split at hb
          · simp at hb
            have := (List.mem_filter.1 ha).2
            simp at this
            omega
          · simp at hb
        · simp only [List.mem_append, List.mem_filter, decide_eq_true_eq]
          constructor
          · rintro ⟨h1, h2⟩
            by_cases e : x = (k : Int)
            · subst e; rw [if_pos h1]; simp
            · exact .inl ⟨h1, by omega⟩
          · rintro (⟨h1, h2⟩ | h)
            · exact ⟨h1, by omega⟩
            · split at h
              · simp at h; subst h; exact ⟨by assumption, by omega⟩
              · simp at h
      rw [hnext, List.flatMap_append, ih]
      show _ = loopsTo ss k ++ loopsAt ss k
      congr 1
      split
      · simp
      · rename_i h
        rw [loopsAt_none (fun hr => h ((hA.2 _).2 ⟨k, rfl, hr⟩))]
        rfl
  have hall : A.filter (fun x => decide (x < (ss.length : Int))) = A := by
    rw [List.filter_eq_self]
    intro x hx
    obtain ⟨i, rfl, hi⟩ := (hA.2 x).1 hx
    have := hi.lt hp
    simp; omega
  have := key ss.length
  rw [hall] at this
  unfold loopsR
  rw [List.take_length]
  exact this

end Go.Proofs.Ytjlfmjoallnojad
