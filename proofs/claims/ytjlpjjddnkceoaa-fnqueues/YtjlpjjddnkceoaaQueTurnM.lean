/-
  Chapter 17, mathematics: between two of one session each other one with a Line is Served.
-/
import Derived.Test.YtjlpjjddnkceoaaQueServ
namespace Go.Proofs.Ytjlpjjddnkceoaa
open Go.RowKit
set_option linter.unusedVariables false
set_option linter.unusedSimpArgs false

def StopT (p : Prop) : Prop := p
theorem stop_ofT {p : Prop} (h : StopT p) : p := h

/-- How far behind s + 1 a session stands; s itself is the last one. -/
def dst17 (s k : Nat) : Nat := (k + 7 - s) % 8

theorem fst17_inv {X : List (List Int)} {τ k : Nat} (h : fst17 X τ = some k) : k < 8 ∧ X.getD ((τ + k) % 8) [] ≠ [] ∧ ∀ i, i < k → X.getD ((τ + i) % 8) [] = [] := by
  unfold fst17 at h
  rw [List.find?_range_eq_some] at h
  obtain ⟨h1, h2, h3⟩ := h
  refine ⟨by simpa using h2, fun e => by rw [e] at h1; simp at h1, fun i hi => ?_⟩
  have := h3 i hi
  cases hx : X.getD ((τ + i) % 8) [] with
  | nil => rfl
  | cons a l => rw [hx] at this; simp at this

theorem fst17_no {X : List (List Int)} {τ : Nat} (h : fst17 X τ = none) (hτ : τ ≤ 7) : ∀ j, j < 8 → X.getD j [] = [] := by
  intro j hj
  unfold fst17 at h
  rw [List.find?_eq_none] at h
  have := h ((j + 8 - τ) % 8) (by simp; omega)
  have e : (τ + (j + 8 - τ) % 8) % 8 = j := by omega
  rw [e] at this
  cases hx : X.getD j [] with
  | nil => rfl
  | cons a l => rw [hx] at this; simp at this

theorem queB_tail {t : Int} {X : List (List Int)} (h : queB t X = true) {q j : Nat} (hq : q ≤ 7) (hj : j < 8) : queB (q : Int) (X.set j (X.getD j []).tail) = true := by
  unfold queB at h ⊢
  simp only [Bool.and_eq_true, decide_eq_true_eq, List.all_eq_true] at h ⊢
  obtain ⟨h1, h2, h3⟩ := h
  refine ⟨by unfold inB; simp; omega, by simpa using h2, fun x hx => ?_⟩
  rcases List.mem_or_eq_of_mem_set hx with hx | hx
  · exact h3 x hx
  · subst hx
    have hjX : j < X.length := by omega
    have e : X.getD j [] = X[j] := by simp [List.getD, hjX]
    rw [e]
    have h4 := h3 _ (List.getElem_mem hjX)
    unfold lnB at h4 ⊢
    simp only [Bool.and_eq_true, decide_eq_true_eq, List.all_eq_true] at h4 ⊢
    exact ⟨by simp; omega, fun y hy => h4.2 y (List.mem_of_mem_tail hy)⟩

/-- What is so between two of one session s: p are behind, S were served. -/
structure Turn17 (X0 : List (List Int)) (s p : Nat) (X : List (List Int)) (S : List Int) : Prop where
  hp : p ≤ 7
  rest : ∀ k, k < 8 → k ≠ s → p ≤ dst17 s k → X.getD k [] = X0.getD k []
  inS : ∀ k : Nat, k < 8 → k ≠ s → X0.getD k [] ≠ [] → dst17 s k < p → (k : Int) ∈ S
  ofS : ∀ x ∈ S, ∃ k : Nat, k < 8 ∧ x = (k : Int) ∧ dst17 s k < p
  len : S.length ≤ p

theorem getD_setL {α : Type} (X : List α) (j k : Nat) (v d : α) (hj : j < X.length) : (X.set j v).getD k d = if j = k then v else X.getD k d := by
  simp only [List.getD_eq_getElem?_getD, List.getElem?_set]
  split
  · simp [hj]
  · rfl

theorem Turn17.first {X0 : List (List Int)} {s : Nat} (h8 : X0.length = 8) (hs : s < 8) : Turn17 X0 s 0 (X0.set s (X0.getD s []).tail) [] :=
  ⟨by omega, fun k hk hne _ => by rw [getD_setL _ _ _ _ _ (by omega), if_neg (fun e => hne e.symm)], fun k _ _ _ h => by omega, fun x hx => by simp at hx, by simp⟩

theorem Turn17.step {X0 X : List (List Int)} {s p : Nat} {S : List Int} (h : Turn17 X0 s p X S) (h8 : X.length = 8) (hs : s < 8) (hne : X.getD s [] ≠ []) :
    ∃ k j : Nat, k < 8 ∧ j = ((s + 1 + p) % 8 + k) % 8 ∧ j < 8 ∧ fst17 X ((s + 1 + p) % 8) = some k ∧
      ((j = s ∧ ∀ i : Nat, i < 8 → i ≠ s → X0.getD i [] ≠ [] → (i : Int) ∈ S) ∨
       (j ≠ s ∧ (j : Int) ∉ S ∧ (X.set j (X.getD j []).tail).getD s [] = X.getD s [] ∧ (j + 1) % 8 = (s + 1 + (dst17 s j + 1)) % 8 ∧ Turn17 X0 s (dst17 s j + 1) (X.set j (X.getD j []).tail) (S ++ [(j : Int)]))) := by
  have hp := h.hp
  obtain ⟨τ, hτ⟩ : ∃ τ, (s + 1 + p) % 8 = τ := ⟨_, rfl⟩
  rw [hτ]
  have hτ7 : τ ≤ 7 := by omega
  cases hf : fst17 X τ with
  | none => exact absurd (fst17_no hf hτ7 s hs) hne
  | some k =>
    obtain ⟨hk, hjn, hmin⟩ := fst17_inv hf
    obtain ⟨j, hj⟩ : ∃ j, j = (τ + k) % 8 := ⟨_, rfl⟩
    rw [← hj] at hjn
    have hj8 : j < 8 := by omega
    have hk7 : k ≤ 7 - p := by
      rcases Nat.lt_or_ge (7 - p) k with hlt | hge
      · have h1 := hmin (7 - p) hlt
        have e : (τ + (7 - p)) % 8 = s := by omega
        rw [e] at h1
        exact absurd h1 hne
      · exact hge
    have hdj : dst17 s j = p + k := by unfold dst17; omega
    have hbet : ∀ i, i < 8 → p ≤ dst17 s i → dst17 s i < p + k → X.getD i [] = [] := fun i hi h1 h2 => by
      have h3 := hmin (dst17 s i - p) (by omega)
      have e : (τ + (dst17 s i - p)) % 8 = i := by unfold dst17 at h1 h2 ⊢; omega
      rw [e] at h3
      exact h3
    refine ⟨k, j, hk, hj, hj8, rfl, ?_⟩
    by_cases hjs : j = s
    · refine .inl ⟨hjs, fun i hi hne' hx => ?_⟩
      have h7 : p + k = 7 := by rw [← hdj, hjs]; unfold dst17; omega
      have hdi : dst17 s i < 7 := by unfold dst17; omega
      rcases Nat.lt_or_ge (dst17 s i) p with h1 | h1
      · exact h.inS i hi hne' hx h1
      · have h2 := hbet i hi h1 (by omega)
        rw [h.rest i hi hne' h1] at h2
        exact absurd h2 hx
    · have hd7 : dst17 s j < 7 := by unfold dst17; omega
      refine .inr ⟨hjs, fun hm => ?_, by rw [getD_setL _ _ _ _ _ (by omega), if_neg hjs], by unfold dst17; omega, ⟨by omega, fun i hi hne' hd => ?_, fun i hi hne' hx hd => ?_, fun x hx => ?_, ?_⟩⟩
      · obtain ⟨i, hi, e, hd⟩ := h.ofS _ hm
        have e' : j = i := by omega
        subst e'
        omega
      · rw [getD_setL _ _ _ _ _ (by omega), if_neg (fun e => by subst e; omega)]
        exact h.rest i hi hne' (by omega)
      · rw [List.mem_append]
        rcases Nat.lt_or_ge (dst17 s i) p with h1 | h1
        · exact .inl (h.inS i hi hne' hx h1)
        · right
          rcases Nat.lt_or_ge (dst17 s i) (p + k) with h2 | h2
          · have h3 := hbet i hi h1 h2
            rw [h.rest i hi hne' h1] at h3
            exact absurd h3 hx
          · have e : i = j := by
              have e1 : dst17 s i = dst17 s j := by omega
              unfold dst17 at e1
              omega
            simp [e]
      · rw [List.mem_append] at hx
        rcases hx with hx | hx
        · obtain ⟨i, hi, e, hd⟩ := h.ofS x hx
          exact ⟨i, hi, e, by omega⟩
        · exact ⟨j, hj8, by simpa using hx, by omega⟩
      · have := h.len
        simp
        omega

theorem serv_some {τ k : Nat} {X : List (List Int)} (hq : queB (τ : Int) X = true) (hf : fst17 X τ = some k) :
    servA (τ : Int) X = (((((τ + k) % 8 + 1) % 8 : Nat) : Int), X.set ((τ + k) % 8) (X.getD ((τ + k) % 8) []).tail, (((τ + k) % 8 : Nat) : Int), (X.getD ((τ + k) % 8) []).headD 0) := by
  unfold servA
  rw [hq, Int.toNat_natCast, hf]
  rfl

theorem serv_cases {t T s n : Int} {X Y : List (List Int)} (h : servA t X = (T, Y, s, n)) :
    (s = -1 ∧ n = 0 ∧ (queB t X = true → T = t ∧ Y = X ∧ ∀ j, j < 8 → X.getD j [] = []) ∧ (queB t X = false → T = 0 ∧ Y = [])) ∨
    ∃ τ k j : Nat, queB t X = true ∧ t = (τ : Int) ∧ τ ≤ 7 ∧ fst17 X τ = some k ∧ k < 8 ∧ j = (τ + k) % 8 ∧ j < 8 ∧ s = (j : Int) ∧ T = (((j + 1) % 8 : Nat) : Int) ∧ Y = X.set j (X.getD j []).tail ∧ n = (X.getD j []).headD 0 ∧ X.getD j [] ≠ [] := by
  cases hq : queB t X with
  | false =>
    unfold servA at h
    rw [hq] at h
    simp at h
    obtain ⟨rfl, rfl, rfl, rfl⟩ := h
    exact .inl ⟨rfl, rfl, fun h => by simp at h, fun _ => ⟨rfl, rfl⟩⟩
  | true =>
    obtain ⟨h0, h7, h8, h5, hb⟩ := queB_parts hq
    obtain ⟨τ, rfl⟩ : ∃ τ : Nat, t = (τ : Int) := ⟨t.toNat, by omega⟩
    cases hf : fst17 X τ with
    | none =>
      unfold servA at h
      rw [hq, Int.toNat_natCast, hf] at h
      simp at h
      obtain ⟨rfl, rfl, rfl, rfl⟩ := h
      exact .inl ⟨rfl, rfl, fun _ => ⟨rfl, rfl, fst17_no hf (by omega)⟩, fun h => by simp at h⟩
    | some k =>
      rw [serv_some hq hf] at h
      simp only [Prod.mk.injEq] at h
      obtain ⟨rfl, rfl, rfl, rfl⟩ := h
      obtain ⟨hk, hne, _⟩ := fst17_inv hf
      exact .inr ⟨τ, k, (τ + k) % 8, rfl, rfl, by omega, hf, hk, rfl, by omega, rfl, rfl, rfl, rfl, hne⟩

theorem ownI_box {w : World} {base C o n : Nat} {v x : Value} {xs : List Value} {cs : Array Value} (h : w.ownsRow base 2 1 v n xs) (hb : w.heap[C]? = some (.cells cs 26 (0, 0))) : (w.setCell ⟨C, o, none⟩ x).ownsRow base 2 1 v n xs :=
  own_same h (fun k hk => Below.heap_setCell _ _ _ _ (fun e => row_not_box h hb (by rw [hk]; simp [e])))

/-- What the loop of FnTurns has in hand. -/
structure FT (W3 : World) (bX : Nat) (X0 : List (List Int)) (s : Nat) (tl : List Int) (m p : Nat) (X : List (List Int) × List Int) (us : List Value) (xv a : Value) (W : World) : Prop where
  low : Below W3.heap.size W3 W
  box : W.heap[bX]? = some (.cells #[.int .i64 (((s + 1 + p) % 8 : Nat) : Int), xv] 26 (0, 0))
  own : OwnQ W 0 xv us X.1
  serv : W.ownsRow W3.heap.size 2 1 a X.2.length (ints X.2)
  turn : Turn17 X0 s p X.1 X.2
  hq : queB (((s + 1 + p) % 8 : Nat) : Int) X.1 = true
  first : X.1.getD s [] = tl
  hm : m ≤ X.2.length

end Go.Proofs.Ytjlpjjddnkceoaa
