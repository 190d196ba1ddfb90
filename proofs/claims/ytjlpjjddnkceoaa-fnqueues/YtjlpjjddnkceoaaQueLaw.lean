/-
  Chapter 17, the laws' helpers: szQueue, toQueue, eqQueue; a Queue that came in.
-/
import Derived.Test.YtjlpjjddnkceoaaQueOk
import Derived.Test.YtjlpjjddnkceoaaToLists
import Derived.Test.YtjlpjjddnkceoaaOpenProc
import Derived.Deep.RegionHeld
namespace Go.Proofs.Ytjlpjjddnkceoaa
open Go.ChangeShapes Go.WideShapes Go.ChangeAt Go.RowKit
set_option linter.unusedVariables false
set_option maxHeartbeats 4000000
set_option maxRecDepth 20000

theorem apartSS_nil : ApartSS [] := fun i j a b k _ h => by simp at h

theorem apartSS_snoc {us : List Value} {u : Value} {N : Nat} (h : ApartSS us) (ho : ∀ x ∈ us, ∀ k, x.ownBlock = some k → k < N) (hn : ∀ k, u.ownBlock = some k → N ≤ k) : ApartSS (us ++ [u]) := by
  intro i j a b k hij ha hb hka hkb
  by_cases hi : i < us.length
  · rw [List.getElem?_append_left hi] at ha
    by_cases hj : j < us.length
    · rw [List.getElem?_append_left hj] at hb
      exact h i j a b k hij ha hb hka hkb
    · have hj' : b = u := by
        rw [List.getElem?_append_right (by omega)] at hb
        have := (List.getElem?_eq_some_iff.1 hb).1
        simp at this
        have h0 : j - us.length = 0 := by omega
        rw [h0] at hb
        simpa using hb.symm
      subst hj'
      have := ho a (List.mem_of_getElem? ha) k hka
      have := hn k hkb
      omega
  · have hi' : a = u ∧ i = us.length := by
      rw [List.getElem?_append_right (by omega)] at ha
      have := (List.getElem?_eq_some_iff.1 ha).1
      simp at this
      have h0 : i - us.length = 0 := by omega
      rw [h0] at ha
      exact ⟨by simpa using ha.symm, by omega⟩
    obtain ⟨rfl, rfl⟩ := hi'
    by_cases hj : j < us.length
    · rw [List.getElem?_append_left hj] at hb
      have := ho b (List.mem_of_getElem? hb) k hkb
      have := hn k hka
      omega
    · rw [List.getElem?_append_right (by omega)] at hb
      have := (List.getElem?_eq_some_iff.1 hb).1
      simp at this
      omega



theorem two_setQ {w : World} {b : Nat} {p q : Value} {t : TypeId} (h : w.heap[b]? = some (.cells #[p, q] t (0, 0))) (x y : Value) :
    ((w.setCell ⟨b, 0, none⟩ x).setCell ⟨b, 1, none⟩ y).heap[b]? = some (.cells #[x, y] t (0, 0)) := by
  have h1 := heap_setCell_same w b 0 _ t x h
  have h2 := heap_setCell_same _ b 1 _ t y h1
  simpa using h2

theorem OwnSS.set {w : World} {base b o : Nat} {x v : Value} {us : List Value} {X : List (List Int)} (h : OwnSS w base v us X) (hb : b < base) : OwnSS (w.setCell ⟨b, o, none⟩ x) base v us X :=
  h.same (fun k hk => Below.heap_setCell _ _ _ _ (by have := (h.row.lt k hk).1; simp; omega)) (fun u hu k hk => Below.heap_setCell _ _ _ _ (by have := (h.ltI hu hk).1; simp; omega))

theorem own_sliceQ {w : World} {base n : Nat} {e : TypeId} {s : Nat} {v : Value} {xs : List Value} (h : w.ownsRow base e s v n xs) : ∃ a m c, v = .slice a m c := by
  rcases h.2 with ⟨rfl, _⟩ | ⟨g, cap, cur, rfl, _⟩
  · exact ⟨_, _, _, rfl⟩
  · exact ⟨_, _, _, rfl⟩




end Go.Proofs.Ytjlpjjddnkceoaa
