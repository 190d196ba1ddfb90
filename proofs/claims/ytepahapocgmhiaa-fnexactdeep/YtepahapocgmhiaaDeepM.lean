/-
  Chapter 1, mathematics: how deep a value is.
-/
import Derived.Test.YtepahapocgmhiaaRightV
namespace Go.Proofs.Ytepahapocgmhiaa
open Go.RowKit
set_option linter.unusedVariables false
set_option linter.unusedSimpArgs false

def deepV : (d : Nat) → Val d → Nat
  | 0, _ => 0
  | d + 1, (k, n, t, its, ks) => (its.map (deepV d)).foldl max 0 + 1
def deepL {d : Nat} (its : List (Val d)) : Nat := (its.map (deepV d)).foldl max 0

theorem deepL_take {d : Nat} (its : List (Val d)) (j : Nat) (h : j < its.length) : deepL (its.take (j + 1)) = max (deepL (its.take j)) (deepV d its[j]) := by
  unfold deepL
  rw [List.take_succ_eq_append_getElem h, List.map_append, List.foldl_append]
  simp
theorem fold_max_le {c : Nat} : ∀ (l : List Nat) (a : Nat), a ≤ c → (∀ x ∈ l, x ≤ c) → l.foldl max a ≤ c
  | [], a, ha, _ => ha
  | x :: l, a, ha, h => fold_max_le l (max a x) (by have := h x (by simp); omega) (fun y hy => h y (by simp [hy]))
theorem deepV_le : ∀ {d : Nat} {x : Val d} {deep : Int}, RightV d x deep → (deepV d x : Int) ≤ deep
  | 0, _, _, h => h.elim
  | d + 1, (k, n, t, its, ks), deep, h => by
    have h1 : deepL its ≤ (deep - 1).toNat := fold_max_le _ 0 (Nat.zero_le _) (fun x hx => by
      obtain ⟨y, hy, rfl⟩ := List.mem_map.1 hx
      have h2 := deepV_le (h.2.2 y hy)
      omega)
    have h3 : deepV (d + 1) (k, n, t, its, ks) = deepL its + 1 := rfl
    have h4 := h.1
    rw [h3]; omega
theorem deepL_le {d : Nat} {its : List (Val d)} {deep : Int} (h0 : 0 ≤ deep) (h : ∀ x ∈ its, RightV d x deep) : (deepL its : Int) ≤ deep := by
  have h1 : deepL its ≤ deep.toNat := fold_max_le _ 0 (Nat.zero_le _) (fun x hx => by
    obtain ⟨y, hy, rfl⟩ := List.mem_map.1 hx
    have h2 := deepV_le (h y hy)
    omega)
  omega
theorem deepL_mono {d : Nat} {its : List (Val d)} {deep : Int} (j : Nat) (h0 : 0 ≤ deep) (h : ∀ x ∈ its, RightV d x deep) : (deepL (its.take j) : Int) ≤ deep :=
  deepL_le h0 (fun x hx => h x (List.mem_of_mem_take hx))

end Go.Proofs.Ytepahapocgmhiaa
