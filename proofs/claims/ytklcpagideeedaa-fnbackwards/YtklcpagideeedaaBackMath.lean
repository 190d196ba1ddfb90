/-
  Mathematics: Before is Next backwards; what is reached is closed.
-/
import Derived.Test.YtklcpagideeedaaNextBoth
import Derived.Test.YtklcpagideeedaaBeforeBoth
import Derived.Test.YtklcpagideeedaaReachedBoth
namespace Go.Proofs.Ytklcpagideeedaa
set_option linter.unusedVariables false

theorem rises_of : ∀ {xs : List Int}, xs.Pairwise (· < ·) → ∀ (j : Nat) (x y : Int), xs[j]? = some x → xs[j + 1]? = some y → x < y
  | [], _, j, x, y, h, _ => by simp at h
  | a :: xs, hp, 0, x, y, h, h' => by
    rw [List.pairwise_cons] at hp
    simp at h
    subst h
    exact hp.1 y (List.mem_of_getElem? (i := 0) (by simpa using h'))
  | a :: xs, hp, j + 1, x, y, h, h' => by
    rw [List.pairwise_cons] at hp
    exact rises_of hp.2 j x y (by simpa using h) (by simpa using h')

theorem nextsS_sorted (s : Stm) (i : Int) : (nextsS s i).Pairwise (· < ·) := by
  unfold nextsS
  split
  · simp
  split
  · split
    · simp; omega
    split
    · simp; omega
    · simp
  · simp

theorem nextAns_sorted (ss : List Stm) (i : Int) : (nextAns ss i).Pairwise (· < ·) := by
  unfold nextAns
  split
  · exact nextsS_sorted _ _
  · simp

theorem nextAns_nx {ss : List Stm} {j : Nat} (hp : procOk ss = true) (hj : j < ss.length) : nextAns ss (j : Int) = nx ss j := by
  have h : hasS ss (j : Int) = true := by unfold hasS wiB; simp [hp, hj]
  unfold nextAns nx
  rw [if_pos h, Int.toNat_natCast]

theorem nextAns_mem {ss : List Stm} {i x : Int} (h : x ∈ nextAns ss i) : procOk ss = true ∧ ∃ j k : Nat, i = (j : Int) ∧ j < ss.length ∧ x = (k : Int) ∧ k < ss.length ∧ (k : Int) ∈ nx ss j := by
  unfold nextAns at h
  cases hs : hasS ss i
  · rw [hs] at h; simp at h
  · obtain ⟨hp, j, rfl, hj⟩ := hasS_true hs
    rw [hs, if_pos rfl, Int.toNat_natCast] at h
    obtain ⟨k, rfl, hk⟩ := nx_in hp hj x h
    exact ⟨hp, j, k, rfl, hj, rfl, hk, h⟩

theorem mem_befN (ss : List Stm) (i : Int) : ∀ (k : Nat) (x : Int), x ∈ befN ss i k ↔ ∃ j : Nat, j < k ∧ x = (j : Int) ∧ i ∈ nx ss j
  | 0, x => by simp [befN]
  | k + 1, x => by
    have hh : hasI (nextsS (ss.getD k ⟨0, 0, 0⟩) k) i = decide (i ∈ nx ss k) := by
      rw [Bool.eq_iff_iff]
      simp [hasI, nx]
    unfold befN
    rw [List.mem_append, mem_befN ss i k x, hh]
    constructor
    · rintro (⟨j, h1, h2, h3⟩ | h)
      · exact ⟨j, by omega, h2, h3⟩
      · by_cases hm : i ∈ nx ss k
        · rw [decide_eq_true hm] at h
          simp at h
          exact ⟨k, by omega, h, hm⟩
        · rw [decide_eq_false hm] at h
          simp at h
    · rintro ⟨j, h1, h2, h3⟩
      by_cases hj : j < k
      · exact .inl ⟨j, hj, h2, h3⟩
      · obtain rfl : j = k := by omega
        right
        rw [decide_eq_true h3]
        simp [h2]

theorem befN_sorted (ss : List Stm) (i : Int) : ∀ k : Nat, (befN ss i k).Pairwise (· < ·)
  | 0 => by simp [befN]
  | k + 1 => by
    unfold befN
    rw [List.pairwise_append]
    refine ⟨befN_sorted ss i k, by split <;> simp, fun x hx y hy => ?_⟩
    have := (befN_lt ss i k x hx).2
    split at hy
    · simp at hy; omega
    · simp at hy

theorem beforeAns_sorted (ss : List Stm) (i : Int) : (beforeAns ss i).Pairwise (· < ·) := by
  unfold beforeAns
  split
  · exact befN_sorted _ _ _
  · simp

theorem mem_before {ss : List Stm} {i : Int} (x : Int) : x ∈ beforeAns ss i ↔ procOk ss = true ∧ ∃ j k : Nat, i = (k : Int) ∧ k < ss.length ∧ x = (j : Int) ∧ j < ss.length ∧ i ∈ nx ss j := by
  unfold beforeAns
  cases hs : hasS ss i
  · rw [if_neg (by simp)]
    simp only [List.not_mem_nil, false_iff]
    rintro ⟨hp, j, k, rfl, hk, _⟩
    unfold hasS wiB at hs
    simp [hp, hk] at hs
  · obtain ⟨hp, k, rfl, hk⟩ := hasS_true hs
    rw [if_pos rfl, mem_befN]
    constructor
    · rintro ⟨j, h1, h2, h3⟩; exact ⟨hp, j, k, rfl, hk, h2, h1, h3⟩
    · rintro ⟨_, j, _, _, _, h2, h1, h3⟩; exact ⟨j, h1, h2, h3⟩

/-- Of what is next this one is before. -/
theorem back1 {ss : List Stm} {i x : Int} (h : x ∈ nextAns ss i) : i ∈ beforeAns ss x := by
  obtain ⟨hp, j, k, rfl, hj, rfl, hk, hm⟩ := nextAns_mem h
  exact (mem_before _).2 ⟨hp, j, k, rfl, hk, rfl, hj, hm⟩

theorem back2 {ss : List Stm} {i x : Int} (h : x ∈ beforeAns ss i) : i ∈ nextAns ss x := by
  obtain ⟨hp, j, k, rfl, hk, rfl, hj, hm⟩ := (mem_before _).1 h
  rw [nextAns_nx hp hj]; exact hm

/-- What is said of the list of what is reached. -/
def RAns (ss : List Stm) (R : List Int) : Prop := (procOk ss = true → IsReached ss (-1) R) ∧ (procOk ss = false → R = [])

theorem RAns.sorted {ss : List Stm} {R : List Int} (h : RAns ss R) : R.Pairwise (· < ·) := by
  cases hp : procOk ss
  · rw [h.2 hp]; simp
  · exact (h.1 hp).1

theorem RAns.closed {ss : List Stm} {R : List Int} (h : RAns ss R) {i x : Int} (hi : i ∈ R) (hx : x ∈ nextAns ss i) : x ∈ R := by
  obtain ⟨hp, j, k, rfl, hj, rfl, hk, hm⟩ := nextAns_mem hx
  have hR := h.1 hp
  obtain ⟨j', e, q, hq⟩ := (hR.2 _).1 hi
  obtain rfl : j = j' := by omega
  exact (hR.2 _).2 ⟨k, rfl, q + 1, by omega, j, hq, hm⟩

theorem RAns.from {ss : List Stm} {R : List Int} (h : RAns ss R) {x : Int} (hx : x ∈ R) : x = 0 ∨ ∃ y ∈ R, x ∈ nextAns ss y := by
  cases hp : procOk ss
  · rw [h.2 hp] at hx; simp at hx
  · have hR := h.1 hp
    obtain ⟨i, rfl, k, hk⟩ := (hR.2 _).1 hx
    cases k with
    | zero => left; have := hk.2; omega
    | succ k =>
      right
      obtain ⟨_, j, hj, hm⟩ := hk
      refine ⟨j, (hR.2 _).2 ⟨j, rfl, k, hj⟩, ?_⟩
      rw [nextAns_nx hp (rk_in hp hj)]; exact hm

theorem RAns.zero {ss : List Stm} {R : List Int} (h : RAns ss R) (hp : procOk ss = true) : (0 : Int) ∈ R :=
  ((h.1 hp).2 _).2 ⟨0, rfl, 0, by omega, rfl⟩

end Go.Proofs.Ytklcpagideeedaa
