/-
  Chapter 10, the program's side: Tables, Inner, Effect.
-/
import Derived.Test.YtgandekciocalaaImplTop
namespace Go.Proofs.Ytgandekciocalaa
open Go.RowKit
set_option linter.unusedVariables false
set_option linter.unusedSimpArgs false
set_option maxHeartbeats 4000000
set_option maxRecDepth 20000

theorem tab_rows {w : World} {G n m : Nat} {t : TypeId} {gs : List (List Int)} (h : TabR w G t gs) (hr : Rows7 n gs) (hm : m ≤ n) : ∀ j, j < m → (gs.getD j []).length = 7 ∧ w.rangeAt G (0 + j * 7) (ints (gs.getD j [])) := fun j hj =>
  ⟨hr.row (by omega), by rw [Nat.zero_add]; exact h.row hr (by omega)⟩

theorem take_tables {c : Int} {ps : List (List Stm)} {A R : List (List Int)} (hA : IsTables c ps A) (hR : IsTables c ps R) (hl : A.length = ps.length) (hr : Rows7 4 R) (h4 : ps.length ≤ 4) : R.take ps.length = A := by
  refine list_getD (by simp [hr.1, hl]; omega) (fun i hi => ?_)
  have hi' : i < ps.length := by simp at hi; omega
  rw [← hR.uniq hA hi', List.getD_eq_getElem?_getD, List.getElem?_take, if_pos hi', ← List.getD_eq_getElem?_getD]

theorem implTables (ps : List (List Stm)) (c : Int) (A : List (List Int)) (hA : TabA ps c A) (v : Value) (w : World) (hl : ps.length ≤ maxLen) (hp : ∀ p ∈ ps, p.length ≤ maxLen) (hv : ReadsP w v ps) :
    Calls Try.prog 7 #[.agg #[v], .int .i64 c] w fun e w' => ∃ u us, e = .returned u ∧ OwnSS w' w.heap.size u us A ∧ ApartSS us ∧ Below w.heap.size w w' := by
  have b0 : Below w.heap.size w (w.alloc (.cells #[v] 26)) := by go_grown
  have H0 := heap_alloc_new w (.cells #[v] 26)
  have hcs := canSum ps c v _ hl hp (readsP_below hv b0)
  cases hok : okB ps c
  · rw [hok] at hcs
    rw [hA.2 hok]
    go_enter Try.func7, Try.ntmps7
    go_wp2_with (go_at_call 30; refine hcs.mono ?_; rintro e w2 ⟨rfl, b2⟩)
    go_ret
    exact ⟨_, [], rfl, nilS _ _, fun i j a b k _ h => by simp at h, b0.trans (b2.mono b0.size)⟩
  · rw [hok] at hcs
    obtain ⟨hAl, hAT⟩ := hA.1 hok
    obtain ⟨hpo, hc, hcp, h4⟩ := okB_parts hok
    have h1 : 1 ≤ ps.length := by
      unfold programOk at hpo
      simp only [Bool.and_eq_true, decide_eq_true_eq] at hpo
      omega
    have hz : ∀ w, (zeroValue 61).run Try.prog w = .ok (.agg (ints (List.replicate 4 zero7).flatten).toArray) w := isTab4.zero
    obtain ⟨zs, hzs⟩ : ∃ zs, ints (List.replicate 4 zero7).flatten = zs := ⟨_, rfl⟩
    rw [hzs] at hz
    have HZS : Hid _ := hzs
    obtain ⟨ao, cap, rfl, hcell⟩ := id hv
    have h4' : (ps.length : Int) ≤ 4 := by omega
    clear hzs hcell
    go_enter Try.func7, Try.ntmps7
    go_wp2_with fail
    go_at_call 30
    refine hcs.mono ?_
    rintro e w2 ⟨rfl, b2⟩
    have L2 := b0.trans (b2.mono b0.size)
    have P2 := (b2.block w.heap.size (by simp)).trans H0
    obtain ⟨c2, f2⟩ := one_cell P2
    have HP2 : Hid (w2.heap[w.heap.size]? = some (.cells #[.slice ao ps.length cap] 26 (0, 0))) := P2
    have hto := tablesOf ps c (.slice ao ps.length cap) w2 hc hcp h4 (readsP_below hv L2)
    clear hcs H0 P2
    go_wp2_with fail
    go_at_call 31
    refine hto.mono ?_
    rintro e w3 ⟨R, rfl, hRR, hRI, b3⟩
    have L3 := L2.trans (b3.mono L2.size)
    have HRR : Hid (Rows7 4 R) := hRR
    have HRI : Hid _ := hRI
    have HP3 : Hid (w3.heap[w.heap.size]? = some (.cells #[.slice ao ps.length cap] 26 (0, 0))) := (b3.block _ (Array.getElem?_eq_some_iff.1 HP2.out).1).trans HP2.out
    obtain ⟨w4, hw4⟩ : ∃ z, w3.alloc (.cells zs.toArray 61) = z := ⟨_, rfl⟩
    have T4 : Hid (TabR w4 w3.heap.size 61 (List.replicate 4 zero7)) := by
      show TabR _ _ _ _
      rw [← hw4, ← HZS.out]; exact tabR_new w3 _ _
    have B4 : Below w3.heap.size w3 w4 := by rw [← hw4]; go_grown
    have HW4 : Hid _ := hw4
    have L4 : Hid _ := L3.trans (B4.mono L3.size)
    have HP4 : Hid (w4.heap[w.heap.size]? = some (.cells #[.slice ao ps.length cap] 26 (0, 0))) := (B4.block _ (Array.getElem?_eq_some_iff.1 HP3.out).1).trans HP3.out
    have z3 : w.heap.size < w3.heap.size := (Array.getElem?_eq_some_iff.1 HP3.out).1
    clear hto hRR hRI b3 hw4 B4 c2 f2 HP2 HP3
    go_wp2_with (first
      | (rw [HW4.out]; (with_reducible refine wpList_storeTabL (x := .tmp 5) (y := .tmp 12) isTab4 w3.heap.size (List.replicate 4 zero7) R ?hx ?hy (Rows7.zero 4) HRR.out T4.out ?_); (case hx => rfl); (case hy => rfl); intro w5 T5 g5; have HT5 : Hid (TabR w5 w3.heap.size 61 R) := T5; have G5 : Hid _ := g5; clear T5 g5; refine stop_of ?_))
    unfold Stop
    have P5 := (G5.out.block _ (Array.getElem?_eq_some_iff.1 HP4.out).1 (fun e => by have := Option.some.inj e; omega)).trans HP4.out
    obtain ⟨c5, f5⟩ := one_cell P5
    have L5 : Hid (Below w.heap.size w w5) := L4.out.grown G5.out L4.out.size (fun q hq => by cases hq; omega)
    have hlo := listsOf R w3.heap.size 0 ps.length 4 w5 h1 (by omega) (tab_rows HT5.out HRR.out h4) (by rw [HRR.out.1]; exact h4)
    have HAT : Hid _ := take_tables hAT HRI.out hAl HRR.out h4
    clear HP4 P5 G5 L4 T4 HW4 hz
    go_wp2_with fail

    go_at_call 32
    refine hlo.mono ?_
    rintro e w6 ⟨u, us, rfl, o6, a6, b6⟩
    rw [HAT.out] at o6
    have HO6 : Hid _ := o6
    clear hlo o6
    go_wp2
    go_ret
    exact ⟨u, us, rfl, HO6.out.mono L5.out.size, a6, L5.out.trans (b6.mono L5.out.size)⟩

end Go.Proofs.Ytgandekciocalaa
