/-
  Put together out of: Ord14, Ren14, Need14, CloI14, CloS14.
-/
import Derived.Test.YtjdmmpdcafbneaaDoorG37Ord14M
import Derived.BigRegion
import Derived.Test.YtjdmmpdcafbneaaDoorG23EditOk
import Derived.Defers
import Derived.Recover
import Derived.WalkLawsBesides
import Derived.Test.YtjdmmpdcafbneaaDoorG25SpecCp
/-
  impl.comingOrder, spec.l14Numbers: the order in which one comes to procedures.
-/
namespace Go.Proofs.YtjdmmpdcafbneaaDoor
open Go.RowKit
set_option linter.unusedVariables false
set_option linter.unusedSimpArgs false
set_option maxHeartbeats 4000000
set_option maxRecDepth 20000

theorem come14_no {out : List Int} {s : Stm} (h : ¬ s.k = 8) : come14 out s = out := if_neg (fun hh => h hh.1)
theorem come14_old {out : List Int} {s : Stm} (h : hasI out s.y = true) : come14 out s = out := if_neg (fun hh => by rw [h] at hh; exact absurd hh.2 (by decide))
theorem come14_new {out : List Int} {s : Stm} (hk : s.k = 8) (h : hasI out s.y = false) : come14 out s = out ++ [s.y] := if_pos ⟨hk, h⟩
theorem scan14_all (out : List Int) (p : List Stm) : scan14 out (p.take p.length) = scan14 out p := by rw [List.take_length]
theorem scan14_zero (out : List Int) (p : List Stm) : scan14 out (p.take 0) = out := rfl
theorem go14_step {ps : List (List Stm)} {f i : Nat} {out : List Int} {R : List Int} (h : go14 ps f i out = R) (hi : i < out.length) (hf : f + i = 5) (h4 : out.length ≤ 4) : ∃ f', f' + (i + 1) = 5 ∧ go14 ps f' (i + 1) (scan14 out (ps.getD (out.getD i 0).toNat [])) = R := by
  cases f with
  | zero => omega
  | succ f =>
    refine ⟨f, by omega, ?_⟩
    rw [← h]
    conv => rhs; unfold go14
    rw [if_pos hi]
theorem go14_end {ps : List (List Stm)} {f i : Nat} {out : List Int} {R : List Int} (h : go14 ps f i out = R) (hi : ¬ i < out.length) : out = R := by
  cases f with
  | zero => exact h
  | succ f =>
    unfold go14 at h
    rw [if_neg hi] at h
    exact h

theorem lit14 (W : World) (b : Nat) (hb : b ≤ W.heap.size) (i : Int) : (W.alloc (.cells #[.int .i64 i] 2)).ownsRow b 2 1 (.slice (some ⟨W.heap.size, 0, none⟩) 1 1) 1 (ints [i]) :=
  own_mono (World.ownsRow_lit W (e := 2) #[.int .i64 i] 1 (size := 1) (Nat.le_refl _) (by decide) (by simp)) hb

theorem own_pos {w : World} {base : Nat} {e : TypeId} {v : Value} {n : Nat} {xs : List Value} (h : w.ownsRow base e 1 v n xs) (h0 : 0 < n) : ∃ g cap, v = .slice (some ⟨g, 0, none⟩) n cap := by
  rcases h.2 with ⟨rfl, hn⟩ | ⟨g, cap, cur, rfl, _⟩
  · omega
  · exact ⟨g, cap, rfl⟩



end Go.Proofs.YtjdmmpdcafbneaaDoor

/-
  slices.Index where the number is there; impl.renumbered.
-/
namespace Go.Proofs.YtjdmmpdcafbneaaDoor
open Go.RowKit
set_option linter.unusedVariables false
set_option linter.unusedSimpArgs false
set_option maxHeartbeats 4000000
set_option maxRecDepth 20000

end Go.Proofs.YtjdmmpdcafbneaaDoor

/-
  impl.need, impl.cameThrough's deferred closure.
-/
namespace Go.Proofs.YtjdmmpdcafbneaaDoor
open Go.RowKit
set_option linter.unusedVariables false
set_option linter.unusedSimpArgs false
set_option maxHeartbeats 4000000
set_option maxRecDepth 20000

/-- What need gives up with. -/
def notTold : Value := .iface 9 (.string ⟨#[110, 111, 116, 32, 97, 115, 32, 116, 111, 108, 100]⟩)

/-- A world that only grows, whatever the two sizes. -/
theorem below_le {a w w' : World} {B : Nat} (h : Below B a w) (k : Below w.heap.size w w') (hB : B ≤ w.heap.size) : Below B a w' := h.trans (k.mono hB)

end Go.Proofs.YtjdmmpdcafbneaaDoor

/-
  impl.closureOf, impl.Closure.
-/
namespace Go.Proofs.YtjdmmpdcafbneaaDoor
open Go.RowKit
set_option linter.unusedVariables false
set_option linter.unusedSimpArgs false
set_option maxHeartbeats 4000000
set_option maxRecDepth 20000

theorem Apart13.snoc {us : List Value} {x : Value} (h : Apart13 us) (hf : ∀ y ∈ us, ∀ k, y.ownBlock = some k → x.ownBlock ≠ some k) : Apart13 (us ++ [x]) := by
  intro a b y z k hne hy hz hk hk'
  have sp : ∀ {i : Nat} {a : Value}, (us ++ [x])[i]? = some a → (i < us.length ∧ us[i]? = some a) ∨ (i = us.length ∧ a = x) := by
    intro i a h
    by_cases hi : i < us.length
    · rw [List.getElem?_append_left hi] at h
      exact .inl ⟨hi, h⟩
    · have h9 := (List.getElem?_eq_some_iff.1 h).1
      simp at h9
      have hi' : i = us.length := by omega
      subst hi'
      simp at h
      exact .inr ⟨rfl, h.symm⟩
  rcases sp hy with ⟨_, h1⟩ | ⟨e1, rfl⟩
  · rcases sp hz with ⟨_, h2⟩ | ⟨e2, rfl⟩
    · exact h a b y z k hne h1 h2 hk hk'
    · exact hf y (List.mem_of_getElem? h1) k hk hk'
  · rcases sp hz with ⟨_, h2⟩ | ⟨e2, rfl⟩
    · exact hf z (List.mem_of_getElem? h2) k hk' hk
    · omega

theorem clo14_get {ps : List (List Stm)} {R : List Int} {k : Nat} (h : k < R.length) (hO : O14 ps R) : ∃ h2 : R[k].toNat < ps.length, (clo14 ps R)[k]? = some (ps[R[k].toNat].map (ren14 R)) := by
  obtain ⟨h0, h1⟩ := hO.inn R[k] (List.getElem_mem h)
  obtain ⟨h2, h3⟩ := getD14 h0 h1
  refine ⟨h2, ?_⟩
  unfold clo14
  rw [List.getElem?_map, List.getElem?_eq_getElem h]
  simp only [Option.map_some, h3]
theorem clo14_length (ps : List (List Stm)) (R : List Int) : (clo14 ps R).length = R.length := by simp [clo14]


end Go.Proofs.YtjdmmpdcafbneaaDoor

/-
  spec.l14Closure, spec.Closure.
-/
namespace Go.Proofs.YtjdmmpdcafbneaaDoor
open Go.RowKit
set_option linter.unusedVariables false
set_option linter.unusedSimpArgs false
set_option maxHeartbeats 8000000
set_option maxRecDepth 20000

theorem later14 {G : Prop} {F R : Nat → Value → Nat → Nat → World → Prop} (h : (∀ X u g c y, F X u g c y → R X u g c y) → G) (k : ∀ X u g c y, F X u g c y → R X u g c y) : G := h k

def Stop14 (p : Prop) : Prop := p
theorem stop_of14 {p : Prop} (h : Stop14 p) : p := h

theorem kind14 {w : World} {base n : Nat} {z : Value} {xs : List Value} {X gn cn : Nat} (hX : w.heap[X]? = some (.cells #[z] 39 (0, 0))) (ho : w.ownsRow base 42 3 (.slice (some ⟨gn, 0, none⟩) n cn) n xs) (hne : (39 : Nat) ≠ 42) (e : X = gn) : False := by
  subst e
  rcases ho.2 with ⟨h, _⟩ | ⟨g', cap', cur, h, _, h4, _⟩
  · cases h
  · cases h
    rw [hX] at h4
    injection h4 with h4
    injection h4 with _ h4
    exact hne h4



end Go.Proofs.YtjdmmpdcafbneaaDoor
