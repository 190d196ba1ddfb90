/-
  Mathematics: the nearest gate (no dump is spoken of).
-/
import Derived.Test.YtjlfmjoallnojacGatesM
namespace Go.Proofs.Ytjlfmjoallnojac
set_option linter.unusedVariables false

open Classical in
/-- d is a gate but n itself that has all the others but n. -/
noncomputable def goodGate (ss : List Stm) (n d : Int) : Bool := decide (d ≠ n ∧ ∀ x ∈ gatesL ss n, x = n ∨ x ∈ gatesL ss d)

noncomputable def gateAns (ss : List Stm) (n : Int) : Int := if hasS ss n then ((gatesL ss n).find? (goodGate ss n)).getD (-1) else -1

theorem goodGate_iff (ss : List Stm) (n d : Int) : goodGate ss n d = true ↔ d ≠ n ∧ ∀ x ∈ gatesL ss n, x = n ∨ x ∈ gatesL ss d := by
  unfold goodGate
  simp only [decide_eq_true_eq]

theorem find_take {α : Type} (p : α → Bool) (xs : List α) (k : Nat) (hk : k < xs.length) (h : ∀ x ∈ xs.take k, p x = false) (hp : p xs[k] = true) : xs.find? p = some xs[k] := by
  have e : xs = xs.take k ++ xs[k] :: xs.drop (k + 1) := by rw [← List.drop_eq_getElem_cons hk, List.take_append_drop]
  have h1 : (xs.take k).find? p = none := by
    rw [List.find?_eq_none]
    intro x hx
    rw [h x hx]; simp
  conv => lhs; rw [e]
  rw [List.find?_append, h1, Option.none_or, List.find?_cons_of_pos hp]

theorem find_none {α : Type} (p : α → Bool) (xs : List α) (h : ∀ x ∈ xs, p x = false) : xs.find? p = none := by
  rw [List.find?_eq_none]
  intro x hx
  rw [h x hx]; simp

/-- How the program asks whether d is the nearest gate. -/
theorem goodGate_row {ss : List Stm} {gs : List (List Bool)} (hp : procOk ss = true) (hl : gs.length = 12) (hr : ∀ b ∈ gs, b.length = 12) (hd : ∀ i d, dm gs i d = true ↔ Dom ss d i) {i d : Nat} (hdi : Dom ss d i) (hne : d ≠ i) :
    (gs.getD d []).set i true = gs.getD i [] ↔ goodGate ss i d = true := by
  have h12 := (procOk_parts hp).2.1
  have hil := hdi.1.lt hp
  have hdl := hdi.2.1
  have row : ∀ k, k < 12 → (gs.getD k []).length = 12 := fun k hk => by
    have : k < gs.length := by rw [hl]; exact hk
    rw [show gs.getD k [] = gs[k] by simp [List.getD, this]]
    exact hr _ (List.getElem_mem _)
  have hii : dm gs i i = true := (hd i i).2 (Dom.self hp hdi.1)
  rw [goodGate_iff]
  constructor
  · intro he
    refine ⟨by omega, fun x hx => ?_⟩
    obtain ⟨c, i', rfl, e, hc⟩ := gatesL_in hx
    obtain rfl : i = i' := by omega
    have h1 : (gs.getD i []).getD c false = true := (hd i c).2 hc
    rw [← he, getDG_set _ _ _ _ (by rw [row d (by omega)]; omega)] at h1
    split at h1
    · rename_i e; exact .inl (by omega)
    · exact .inr (mem_gatesL.2 ((hd d c).1 h1))
  · rintro ⟨_, hall⟩
    have key : ∀ j, j < 12 → ((gs.getD d []).set i true).getD j false = (gs.getD i []).getD j false := fun j hj => by
      rw [getDG_set _ _ _ _ (by rw [row d (by omega)]; omega)]
      split
      · rename_i e; subst e; exact hii.symm
      · rename_i hji
        rw [Bool.eq_iff_iff]
        constructor
        · intro h
          exact (hd i j).2 (((hd d j).1 h).trans hdi)
        · intro h
          rcases hall (j : Int) (mem_gatesL.2 ((hd i j).1 h)) with e | e
          · omega
          · exact (hd d j).2 (mem_gatesL.1 e)
    refine List.ext_getElem (by rw [List.length_set, row d (by omega), row i (by omega)]) (fun j h1 h2 => ?_)
    have := key j (by rw [row i (by omega)] at h2; exact h2)
    have e1 : ((gs.getD d []).set i true).getD j false = ((gs.getD d []).set i true)[j] := by rw [List.getD_eq_getElem?_getD (l := (gs.getD d []).set i true), List.getElem?_eq_getElem h1]; rfl
    have e2 : (gs.getD i []).getD j false = (gs.getD i [])[j] := by rw [List.getD_eq_getElem?_getD (l := gs.getD i []) (i := j), List.getElem?_eq_getElem h2]; rfl
    rw [e1, e2] at this
    exact this

end Go.Proofs.Ytjlfmjoallnojac
