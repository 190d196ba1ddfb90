/-
  Chapter 11, mathematics: what the functions of the chapter answer.
-/
import Derived.Test.YtnjbihfceckpfaaImplNoFind
namespace Go.Proofs.Ytnjbihfceckpfaa
open Go.RowKit
set_option linter.unusedVariables false
set_option maxHeartbeats 1000000

theorem goesIn_congr {c : Int} {I J : Nat → Nat → List Int} {E : List Int} {i k : Nat} (h : I i k = J i k) : goesIn c I E i k = goesIn c J E i k := by unfold goesIn; rw [h]

theorem IsEnt.congr {c : Int} {ps : List (List Stm)} {I J : Nat → Nat → List Int} (h : ∀ i (hi : i < ps.length) k, k < ps[i].length → I i k = J i k) {E : List Int} (hE : IsEnt c ps I E) : IsEnt c ps J E := by
  have cl : ∀ {I J : Nat → Nat → List Int}, (∀ i (hi : i < ps.length) k, k < ps[i].length → I i k = J i k) → ∀ F, CloE c ps I F → CloE c ps J F := fun {I J} h F hF => ⟨hF.1, fun i hi k hk h8 => by
    rw [← goesIn_congr (h i hi k hk)]; exact hF.2 i hi k hk h8⟩
  exact ⟨hE.small, cl h E hE.clo, fun F hF hcl => hE.low F hF (cl (fun i hi k hk => (h i hi k hk).symm) F hcl)⟩

theorem ini_some {c : Int} (hc : c = 1 ∨ c = 2) {ps : List (List Stm)} (hp : CanP ps) : ∃ I, InI c ps I := by
  obtain ⟨T, _, hT⟩ := tables_some hc hp
  have h : ∀ a (ha : a < ps.length), ∃ R, IsInner (effN c T ps[a]) ps[a] R := fun a ha => by
    obtain ⟨R, _, h⟩ := inner_some (hp a ha).1 (fun j hj => effN_smalls hc hp hT.good ha hj)
    exact ⟨R, h⟩
  refine ⟨fun a k => if ha : a < ps.length then (Classical.choose (h a ha)).getD k [] else [], T, hT, fun a ha => ⟨Classical.choose (h a ha), Classical.choose_spec (h a ha), fun k hk => ?_⟩⟩
  simp only [dif_pos ha]

/-- The relations and the sets at the entries. -/
structure FA (ps : List (List Stm)) (c : Int) (I : Nat → Nat → List Int) (E : List Int) : Prop where
  inn : InI c ps I
  len : E.length = ps.length
  ent : IsEnt c ps I E

theorem ok_one {ps : List (List Stm)} {c : Int} (h : okB ps c = true) : 1 ≤ ps.length := by
  unfold okB programOk at h
  simp only [Bool.and_eq_true, decide_eq_true_eq] at h
  omega

theorem fa_some {ps : List (List Stm)} {c : Int} (h : okB ps c = true) : ∃ I E, FA ps c I E := by
  obtain ⟨_, hc, hp, _⟩ := okB_parts h
  obtain ⟨I, hI⟩ := ini_some hc hp
  obtain ⟨E, h1, h2⟩ := ent_some hc hp (ok_one h) hI.good
  exact ⟨I, E, hI, h1, h2⟩

theorem FA.eq {ps : List (List Stm)} {c : Int} (hp : CanP ps) {I J : Nat → Nat → List Int} {E F : List Int} (h : FA ps c I E) (hJ : InI c ps J) (hF : IsEnt c ps J F) {i : Nat} (hi : i < ps.length) : F.getD i 0 = E.getD i 0 :=
  (hF.congr (fun i hi k hk => hJ.uniq hp h.inn hi hk)).uniq h.ent hi

theorem InI.inner {c : Int} {ps : List (List Stm)} (hp : CanP ps) {I : Nat → Nat → List Int} (h : InI c ps I) {T : List (List Int)} (hT : IsTables c ps T) (i : Nat) (hi : i < ps.length) (R : List (List Int)) (hR : IsInner (effN c T ps[i]) ps[i] R) (k : Nat) (hk : k < ps[i].length) : R.getD k [] = I i k := by
  obtain ⟨U, hU, hQ⟩ := h
  obtain ⟨Q, q1, q2⟩ := hQ i hi
  rw [q2 k hk]
  have q1' : IsInner (effN c T ps[i]) ps[i] Q := inner_eq (fun j hj => by
    rw [effN_eq hj, effN_eq hj]
    exact effL_eq (fun a ha => hU.uniq hT ha) ((hp i hi).2 _ (List.getElem_mem hj))) q1
  exact hR.uniq q1' hk

/-- What Entries answers. -/
def EntA (ps : List (List Stm)) (c : Int) (A : List Int) : Prop := (okB ps c = true → ∃ I, FA ps c I A) ∧ (okB ps c = false → A = [])

theorem entA_some (ps : List (List Stm)) (c : Int) : ∃ A, EntA ps c A := by
  cases h : okB ps c with
  | false => exact ⟨[], by simp [h], fun _ => rfl⟩
  | true =>
    obtain ⟨I, E, hE⟩ := fa_some h
    exact ⟨E, fun _ => ⟨I, hE⟩, by simp [h]⟩

theorem entA_len {ps : List (List Stm)} {c : Int} {A : List Int} (h : EntA ps c A) : A.length ≤ 4 := by
  cases ho : okB ps c with
  | false => rw [h.2 ho]; simp
  | true =>
    obtain ⟨I, hI⟩ := h.1 ho
    have := (okB_parts ho).2.2.2
    rw [hI.len]; exact this

/-- The facts of a procedure; of all. -/
def rowF (I : Nat → Nat → List Int) (E : List Int) (i n : Nat) : List Int := (List.range n).map fun k => img (I i k) (E.getD i 0)
def factL (ps : List (List Stm)) (I : Nat → Nat → List Int) (E : List Int) : List (List Int) := (List.range ps.length).map fun i => rowF I E i (ps.getD i []).length

/-- What Facts answers. -/
def FactA (ps : List (List Stm)) (c : Int) (A : List (List Int)) : Prop := (okB ps c = true → ∃ I E, FA ps c I E ∧ A = factL ps I E) ∧ (okB ps c = false → A = [])

theorem factA_some (ps : List (List Stm)) (c : Int) : ∃ A, FactA ps c A := by
  cases h : okB ps c with
  | false => exact ⟨[], by simp [h], fun _ => rfl⟩
  | true =>
    obtain ⟨I, E, hE⟩ := fa_some h
    exact ⟨factL ps I E, fun _ => ⟨I, E, hE, rfl⟩, by simp [h]⟩

theorem factA_len {ps : List (List Stm)} {c : Int} {A : List (List Int)} (h : FactA ps c A) : A.length ≤ 12 ∧ ∀ xs ∈ A, xs.length ≤ 1000 := by
  cases ho : okB ps c with
  | false => rw [h.2 ho]; simp
  | true =>
    obtain ⟨I, E, hI, rfl⟩ := h.1 ho
    obtain ⟨_, _, hp, h4⟩ := okB_parts ho
    refine ⟨by simp [factL]; omega, fun xs hx => ?_⟩
    unfold factL at hx
    rw [List.mem_map] at hx
    obtain ⟨i, hi, rfl⟩ := hx
    have hi : i < ps.length := by simpa using hi
    have := (procOk_parts (hp i hi).1).2.1
    simp [rowF, List.getD, hi]
    omega

theorem factL_get {ps : List (List Stm)} {I : Nat → Nat → List Int} {E : List Int} {i : Nat} (hi : i < ps.length) : (factL ps I E)[i]? = some (rowF I E i ps[i].length) := by
  simp [factL, hi, List.getD]

theorem FA.rows {ps : List (List Stm)} {c : Int} (hp : CanP ps) {I J : Nat → Nat → List Int} {E F : List Int} (h : FA ps c I E) (hJ : InI c ps J) (hF : IsEnt c ps J F) {i : Nat} (hi : i < ps.length) {k : Nat} (hk : k < ps[i].length) : img (J i k) (F.getD i 0) = img (I i k) (E.getD i 0) := by
  rw [h.eq hp hJ hF hi, hJ.uniq hp h.inn hi hk]

end Go.Proofs.Ytnjbihfceckpfaa
