/-
  Chapter 5, mathematics of FnLoops: what is in a loop's body and reached has the loop's gate among its gates.
-/
import Derived.Test.YtjlfmjoallnojadBodyM
namespace Go.Proofs.Ytjlfmjoallnojad
open Go.RowKit
set_option linter.unusedVariables false
set_option maxHeartbeats 1000000

theorem bkn_dom {ss : List Stm} (hp : procOk ss = true) {f g : Nat} (hd : Dom ss g f) : ∀ (k i : Nat), bkn ss f g k i → Rch ss (-1) i → Dom ss g i
  | 0, i, h, hr => by
    obtain rfl : i = f := h
    exact hd
  | k + 1, i, h, hr => by
    obtain ⟨hi, y, hy, hne, hm⟩ := h
    have hry : Rch ss (-1) y := hr.next hm (by omega)
    exact (bkn_dom hp hd k y hy hry).back hr hm (fun e => hne e.symm)

theorem loops_in {ss : List Stm} {xs : List Int} (h : xs ∈ loopsAns ss) : ∃ j y : Nat, xs = [(j : Int), (y : Int)] ∧ procOk ss = true ∧ j < ss.length ∧ y < ss.length ∧ (y : Int) ∈ nx ss j ∧ Dom ss y j := by
  unfold loopsAns at h
  split at h
  · rename_i hp
    obtain ⟨j, y, hj, rfl, h1, h2⟩ := loopsTo_mem h
    obtain ⟨d, i, rfl, e, hd⟩ := gatesL_in h2
    obtain rfl : j = i := by omega
    exact ⟨j, d, rfl, hp, hj, hd.2.1, h1, hd⟩
  · simp at h

theorem body_in {ss : List Stm} {f g : Int} {A : List Int} (hl : [f, g] ∈ loopsAns ss) (hb : IsBody ss f g A) : f ∈ A ∧ g ∈ A := by
  obtain ⟨j, y, e, hp, hj, hy, hm, hd⟩ := loops_in hl
  simp at e
  obtain ⟨rfl, rfl⟩ := e
  exact ⟨(hb.2 _).2 ⟨j, y, j, rfl, rfl, rfl, .inr (Bk.start ss j y)⟩, (hb.2 _).2 ⟨j, y, y, rfl, rfl, rfl, .inl rfl⟩⟩

theorem body_gate {ss : List Stm} {f g : Int} {A : List Int} (hl : [f, g] ∈ loopsAns ss) (hb : IsBody ss f g A) {x : Int} (hx : x ∈ A) {R : List Int} (hR : IsReached ss (-1) R) (hr : x ∈ R) : g ∈ gatesL ss x := by
  obtain ⟨j, y, e, hp, hj, hy, hm, hd⟩ := loops_in hl
  simp at e
  obtain ⟨rfl, rfl⟩ := e
  obtain ⟨f', g', i, e1, e2, rfl, hB⟩ := (hb.2 x).1 hx
  obtain rfl : j = f' := by omega
  obtain rfl : y = g' := by omega
  obtain ⟨i', e3, hri⟩ := (hR.2 _).1 hr
  obtain rfl : i = i' := by omega
  rw [mem_gatesL]
  rcases hB with rfl | ⟨k, hk⟩
  · exact Dom.self hp hri
  · exact bkn_dom hp hd k i hk hri

theorem gatesL_rises (ss : List Stm) (n : Int) : (gatesL ss n).Pairwise (· < ·) := (gatesL_is ss n).1

end Go.Proofs.Ytjlfmjoallnojad
