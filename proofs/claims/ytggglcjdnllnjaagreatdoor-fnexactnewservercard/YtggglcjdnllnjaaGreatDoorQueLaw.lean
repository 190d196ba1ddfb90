/-
  Chapter 17, the laws' helpers: szQueue, toQueue, eqQueue; a Queue that came in.
-/
import Derived.Test.YtggglcjdnllnjaaGreatDoorQueOk
import Derived.Test.YtggglcjdnllnjaaGreatDoorToLists
import Derived.Test.YtggglcjdnllnjaaGreatDoorOpenProc
import Derived.Deep.RegionHeld
namespace Go.Proofs.YtggglcjdnllnjaaGreatDoor
open Go.ChangeShapes Go.WideShapes Go.ChangeAt Go.RowKit
set_option linter.unusedVariables false
set_option maxHeartbeats 4000000
set_option maxRecDepth 20000

theorem apartSS_nil : ApartSS [] := fun i j a b k _ h => by simp at h

theorem apartSS_snoc {us : List Value} {u : Value} {N : Nat} (h : ApartSS us) (ho : ∀ x ∈ us, ∀ k, x.ownBlock = some k → k < N) (hn : ∀ k, u.ownBlock = some k → N ≤ k) : ApartSS (us ++ [u]) := by
  intro i j a b k hij ha hb hka hkb
  by_cases hi : i < us.length
  · rw [List.getElem?_append_left hi] at ha
    by_cases hj : j < us.length
    · rw [List.getElem?_append_left hj] at hb
      exact h i j a b k hij ha hb hka hkb
    · have hj' : b = u := by
        rw [List.getElem?_append_right (by omega)] at hb
        have := (List.getElem?_eq_some_iff.1 hb).1
        simp at this
        have h0 : j - us.length = 0 := by omega
        rw [h0] at hb
        simpa using hb.symm
      subst hj'
      have := ho a (List.mem_of_getElem? ha) k hka
      have := hn k hkb
      omega
  · have hi' : a = u ∧ i = us.length := by
      rw [List.getElem?_append_right (by omega)] at ha
      have := (List.getElem?_eq_some_iff.1 ha).1
      simp at this
      have h0 : i - us.length = 0 := by omega
      rw [h0] at ha
      exact ⟨by simpa using ha.symm, by omega⟩
    obtain ⟨rfl, rfl⟩ := hi'
    by_cases hj : j < us.length
    · rw [List.getElem?_append_left hj] at hb
      have := ho b (List.mem_of_getElem? hb) k hkb
      have := hn k hka
      omega
    · rw [List.getElem?_append_right (by omega)] at hb
      have := (List.getElem?_eq_some_iff.1 hb).1
      simp at this
      omega



theorem two_setQ {w : World} {b : Nat} {p q : Value} {t : TypeId} (h : w.heap[b]? = some (.cells #[p, q] t (0, 0))) (x y : Value) :
    ((w.setCell ⟨b, 0, none⟩ x).setCell ⟨b, 1, none⟩ y).heap[b]? = some (.cells #[x, y] t (0, 0)) := by
  have h1 := heap_setCell_same w b 0 _ t x h
  have h2 := heap_setCell_same _ b 1 _ t y h1
  simpa using h2

theorem OwnSS.set {w : World} {base b o : Nat} {x v : Value} {us : List Value} {X : List (List Int)} (h : OwnSS w base v us X) (hb : b < base) : OwnSS (w.setCell ⟨b, o, none⟩ x) base v us X :=
  h.same (fun k hk => Below.heap_setCell _ _ _ _ (by have := (h.row.lt k hk).1; simp; omega)) (fun u hu k hk => Below.heap_setCell _ _ _ _ (by have := (h.ltI hu hk).1; simp; omega))

theorem own_sliceQ {w : World} {base n : Nat} {e : TypeId} {s : Nat} {v : Value} {xs : List Value} (h : w.ownsRow base e s v n xs) : ∃ a m c, v = .slice a m c := by
  rcases h.2 with ⟨rfl, _⟩ | ⟨g, cap, cur, rfl, _⟩
  · exact ⟨_, _, _, rfl⟩
  · exact ⟨_, _, _, rfl⟩


theorem eqQueue (t : Int) (X : List (List Int)) (v u : Value) (w : World) (hl : X.length ≤ maxLen) (hx : ∀ xs ∈ X, xs.length ≤ maxLen) (hv : ReadsSS w v X) (hu : ReadsSS w u X) :
    Calls Tryz.prog 15 #[.agg #[.int .i64 t, v], .agg #[.int .i64 t, u]] w fun e w' => e = .returned (.bool true) ∧ Below w.heap.size w w' := by
  obtain ⟨va, vm, vc, hvv⟩ : ∃ a m c, v = .slice a m c := by obtain ⟨a, c, e, _⟩ := hv; exact ⟨_, _, _, e⟩
  obtain ⟨ua, um, uc, huu⟩ : ∃ a m c, u = .slice a m c := by obtain ⟨a, c, e, _⟩ := hu; exact ⟨_, _, _, e⟩
  subst hvv
  subst huu
  obtain ⟨W0, hW0⟩ : ∃ W0, (w.alloc (.cells #[.int .i64 t, .slice va vm vc] 28)).alloc (.cells #[.int .i64 t, .slice ua um uc] 28) = W0 := ⟨_, rfl⟩
  have b0 : Below w.heap.size w W0 := by rw [← hW0]; go_grown
  have he := eqInt64SS X (.slice va vm vc) (.slice ua um uc) W0 hl hx (readsSS_below hv b0) (readsSS_below hu b0)
  have H1 : W0.heap[w.heap.size]? = some (.cells #[.int .i64 t, .slice va vm vc] 28 (0, 0)) := by
    rw [← hW0, old_block (by simp)]
    exact heap_alloc_new w _
  have H2 : W0.heap[w.heap.size + 1]? = some (.cells #[.int .i64 t, .slice ua um uc] 28 (0, 0)) := by
    rw [← hW0]
    have := heap_alloc_new (w.alloc (.cells #[.int .i64 t, .slice va vm vc] 28)) (.cells #[.int .i64 t, .slice ua um uc] 28)
    simpa using this
  obtain ⟨o0, o1, _, _⟩ := two_cellsQ H1
  obtain ⟨p0, p1, _, _⟩ := two_cellsQ H2
  clear hv hu H1 H2
  go_enter Tryz.func15, Tryz.ntmps15
  go_wp2_with fail
  go_at_call 37
  refine he.mono ?_
  rintro e w1 ⟨rfl, b1⟩
  go_wp2
  go_ret
  exact ⟨rfl, b0.trans (b1.mono b0.size)⟩


end Go.Proofs.YtggglcjdnllnjaaGreatDoor
