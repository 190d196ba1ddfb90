/-
  Order: both sides.
-/
import Derived.Test.YtefdagbdoaaogaaSpecOrder
import Derived.Test.YtefdagbdoaaogaaOrderW
namespace Go.Proofs.Ytefdagbdoaaogaa
set_option linter.unusedVariables false

theorem ordA_len {ps : List (List Stm)} {o : List (List Nat)} (ho : OrdA ps o) : (castLL o).length ≤ 12 ∧ ∀ xs ∈ castLL o, xs.length ≤ 1000 := by
  cases hok : programOk ps with
  | false => rw [ho.2 hok]; simp [castLL]
  | true =>
    obtain ⟨r, c, hG⟩ := ho.1 hok
    obtain ⟨h4, h1, _⟩ := programOk_len hok
    have e1 := hG.asked.on
    refine ⟨?_, fun xs hx => ?_⟩
    · have := foldS_len ps.length r ps.length
      have e2 : (circS ps.length r).length ≤ ps.length := this
      rw [hG.circ] at e2
      have e3 := hG.asked.len
      simp [castLL]
      omega
    · obtain ⟨g, hg, rfl⟩ := List.mem_map.1 hx
      have := mem_flat_len hg
      simp
      omega

end Go.Proofs.Ytefdagbdoaaogaa
