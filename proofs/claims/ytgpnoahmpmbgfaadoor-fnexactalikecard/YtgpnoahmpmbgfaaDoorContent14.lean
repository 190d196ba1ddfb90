/-
  impl.Content, spec.Content.
-/
import Derived.Test.YtgpnoahmpmbgfaaDoorCloS14
import Derived.Test.YtgpnoahmpmbgfaaDoorCloJ14
import Derived.Test.YtgpnoahmpmbgfaaDoorShowI
import Derived.Test.YtgpnoahmpmbgfaaDoorShowS
namespace Go.Proofs.YtgpnoahmpmbgfaaDoor
open Go.RowKit
set_option linter.unusedVariables false
set_option linter.unusedSimpArgs false
set_option maxHeartbeats 4000000
set_option maxRecDepth 20000

theorem cloA_maxlen (ps : List (List Stm)) (i : Int) : (cloA ps i).length ≤ maxLen ∧ ∀ p ∈ cloA ps i, p.length ≤ maxLen := by
  unfold cloA
  cases hok : hasB ps i
  · simp
  · have hO := (ord14_of hok).1
    have hok1 : programOk ps = true := by unfold hasB at hok; simp only [Bool.and_eq_true] at hok; exact hok.1
    obtain ⟨h4, _, hpr⟩ := programOk_len hok1
    simp only [if_true]
    refine ⟨by rw [clo14_length]; have := hO.o.len; unfold maxLen; omega, fun p hp => ?_⟩
    unfold clo14 at hp
    obtain ⟨t, ht, rfl⟩ := List.mem_map.1 hp
    obtain ⟨h0, h1⟩ := hO.o.inn t ht
    obtain ⟨h2, h3⟩ := getD14 h0 h1
    rw [h3, List.length_map]
    have := procOk_len (hpr _ (List.getElem_mem h2)).1
    unfold maxLen
    omega

/-- What Content answers. -/
def conA (ps : List (List Stm)) (i : Int) : List UInt8 := showA (cloA ps i)

theorem conA_no {ps : List (List Stm)} {i : Int} (h : hasB ps i = false) : conA ps i = [] := by
  unfold conA cloA
  rw [h]
  rfl
theorem cloA_yes {ps : List (List Stm)} {i : Int} (h : hasB ps i = true) : cloA ps i = clo14 ps (ord14 ps i) := by
  unfold cloA
  rw [h]
  rfl

theorem implContent (ps : List (List Stm)) (i : Int) (v : Value) (w : World) (hl : ps.length ≤ maxLen) (hp : ∀ p ∈ ps, p.length ≤ maxLen) (hv : ReadsP w v ps) :
    Calls Tryd.prog 12 #[.agg #[v], .int .i64 i] w fun e w' => e = .returned (.string ⟨(conA ps i).toArray⟩) ∧ Below w.heap.size w w' := by
  obtain ⟨W0, hW0⟩ : ∃ W0, w.alloc (.cells #[v] 29) = W0 := ⟨_, rfl⟩
  have b0 : Below w.heap.size w W0 := by rw [← hW0]; go_grown
  have s0 : W0.heap.size = w.heap.size + 1 := by rw [← hW0]; simp
  have H0 : W0.heap[w.heap.size]? = some (.cells #[v] 29 (0, 0)) := by rw [← hW0]; exact heap_alloc_new w _
  obtain ⟨hm1, hm2⟩ := cloA_maxlen ps i
  have hcl := implClosure ps i v W0 hl hp (readsP_below hv b0)
  have hsh := fun u W => implShow (cloA ps i) u W hm1 hm2
  obtain ⟨D, hD⟩ : ∃ D, showA (cloA ps i) = D := ⟨_, rfl⟩
  have hD2 : conA ps i = D := hD
  rw [hD] at hsh
  rw [hD2]
  have c0 := (one_cell H0).1
  obtain ⟨ao, vcap, rfl, _⟩ := hv
  clear hD hD2
  go_enter Tryd.func12, Tryd.ntmps12
  go_wp2_with fail
  go_at_call 30
  refine hcl.mono ?_
  rintro e w1 ⟨u, us, rfl, o1, b1⟩
  have L1 : Below w.heap.size w w1 := below_le b0 b1 (by omega)
  have hsh1 := hsh u w1 (readsP_own o1.ownP)
  obtain ⟨ua, um, uc, rfl⟩ := own_slice o1.row
  clear hcl c0 H0 b0 hW0 hsh o1 b1
  go_wp2_with fail
  go_at_call 9
  refine hsh1.mono ?_
  rintro e w2 ⟨rfl, b2⟩
  have L2 : Hid (Below w.heap.size w w2) := below_le L1 b2 L1.size
  clear hsh1 L1 b2
  go_wp2
  go_ret
  exact ⟨rfl, L2.out⟩

theorem specContent (ps : List (List Stm)) (i : Int) (v : Value) (w : World) (hl : ps.length ≤ maxLen) (hp : ∀ p ∈ ps, p.length ≤ maxLen) (hv : ReadsP w v ps) :
    Calls Tryd.prog 11 #[.agg #[v], .int .i64 i] w fun e w' => e = .returned (.string ⟨(conA ps i).toArray⟩) ∧ Below w.heap.size w w' := by
  obtain ⟨W0, hW0⟩ : ∃ W0, w.alloc (.cells #[v] 29) = W0 := ⟨_, rfl⟩
  have b0 : Below w.heap.size w W0 := by rw [← hW0]; go_grown
  have s0 : W0.heap.size = w.heap.size + 1 := by rw [← hW0]; simp
  have H0 : W0.heap[w.heap.size]? = some (.cells #[v] 29 (0, 0)) := by rw [← hW0]; exact heap_alloc_new w _
  have hin := l3In ps i v W0 hl hp (readsP_below hv b0)
  have c0 := (one_cell H0).1
  cases hok : hasB ps i
  · rw [conA_no hok]
    rw [hok] at hin
    clear hok
    obtain ⟨ao, vcap, rfl, _⟩ := hv
    go_enter Tryd.func11, Tryd.ntmps11
    go_wp2_with fail
    go_at_call 28
    refine hin.mono ?_
    rintro e w1 ⟨rfl, b1⟩
    have L1 : Hid (Below w.heap.size w w1) := below_le b0 b1 (by omega)
    clear hin c0 H0 b0 b1 hW0
    go_wp2
    go_ret
    exact ⟨rfl, L1.out⟩
  · rw [hok] at hin
    obtain ⟨hm1, hm2⟩ := cloA_maxlen ps i
    have hcl := fun W hW => l14Closure ps i v W hok hW
    have hsh := fun u W => specShow (cloA ps i) u W hm1 hm2
    obtain ⟨D, hD⟩ : ∃ D, showA (cloA ps i) = D := ⟨_, rfl⟩
    have hD2 : conA ps i = D := hD
    rw [hD] at hsh
    rw [hD2]
    rw [← cloA_yes hok] at hcl
    have HHV : Hid _ := hv
    obtain ⟨ao, vcap, rfl, _⟩ := hv
    clear hD hD2 hok
    go_enter Tryd.func11, Tryd.ntmps11
    go_wp2_with fail
    go_at_call 28
    refine hin.mono ?_
    rintro e w1 ⟨rfl, b1⟩
    have s1 := b1.size
    have H1 := (b1.block w.heap.size (by omega)).trans H0
    have L1 : Below w.heap.size w w1 := below_le b0 b1 (by omega)
    have hcl1 := hcl w1 (readsP_below HHV.out L1)
    have c1 := (one_cell H1).1
    clear hin c0 H0 b0 b1 hcl hW0
    go_wp2_with fail
    go_at_call 29
    refine hcl1.mono ?_
    rintro e w2 ⟨u, us, rfl, o2, b2⟩
    have L2 : Below w.heap.size w w2 := below_le L1 b2 (by omega)
    have hsh2 := hsh u w2 (readsP_own o2.ownP)
    obtain ⟨ua, um, uc, rfl⟩ := own_slice o2.row
    clear hcl1 c1 H1 L1 hsh o2 b2
    go_wp2_with fail
    go_at_call 7
    refine hsh2.mono ?_
    rintro e w3 ⟨rfl, b3⟩
    have L3 : Hid (Below w.heap.size w w3) := below_le L2 b3 L2.size
    clear hsh2 L2 b3
    go_wp2
    go_ret
    exact ⟨rfl, L3.out⟩

end Go.Proofs.YtgpnoahmpmbgfaaDoor
