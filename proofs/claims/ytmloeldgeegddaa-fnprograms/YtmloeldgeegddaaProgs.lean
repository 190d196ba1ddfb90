/-
  Programs: toProcS, toProgram, szProcS, szProgram, eqProcS, eqProgram.
-/
import Derived.Test.YtmloeldgeegddaaOpenProc
namespace Go.Proofs.Ytmloeldgeegddaa
open Go.RowKit
set_option linter.unusedVariables false
set_option maxHeartbeats 1000000

/-- What toProgram makes: rows of its own, from block base on and below top. -/
def OwnP (w : World) (base top : Nat) (v : Value) (ps : List (List Stm)) : Prop :=
  ∃ us : List Value, w.ownsRow base 34 1 v ps.length us ∧ (∀ k, v.ownBlock = some k → k < top) ∧
    ∀ (j : Nat) (u : Value) (p : List Stm), us[j]? = some u → ps[j]? = some p → w.ownsRow base 37 3 u p.length (cells3 p) ∧ ∀ k, u.ownBlock = some k → k < top

theorem readsP_own {w : World} {base top : Nat} {v : Value} {ps : List (List Stm)} (h : OwnP w base top v ps) : ReadsP w v ps := by
  obtain ⟨us, ho, _, hu⟩ := h
  have hl := ho.1
  simp only [Nat.mul_one] at hl
  obtain ⟨ao, cap, rfl, hc⟩ := reads_own ho
  refine ⟨ao, cap, by rw [hl], fun j p hp => ?_⟩
  have hj : j < us.length := by
    rw [hl]
    exact (List.getElem?_eq_some_iff.1 hp).1
  obtain ⟨g, off, hg, hcell⟩ := hc j us[j] (by simp [hj])
  exact ⟨g, off, us[j], hg, hcell, reads3_own (hu j us[j] p (by simp [hj]) hp).1⟩

theorem ownP_kept {w w' : World} {base top : Nat} {v : Value} {ps : List (List Stm)} (h : OwnP w base top v ps) (hb : Below w.heap.size w w') : OwnP w' base top v ps := by
  obtain ⟨us, ho, ht, hu⟩ := h
  exact ⟨us, own_kept ho hb, ht, fun j u p h1 h2 => ⟨own_kept (hu j u p h1 h2).1 hb, (hu j u p h1 h2).2⟩⟩

theorem infoProc : (Try.prog.info? 34).map (fun i => (i.zero, i.size, i.bytes)) = some (some (.agg #[.slice none 0 0]), 1, 24) := by kernel_rfl

theorem set_snoc (us zs : List Value) (u : Value) (k : Nat) (hk : us.length = k) (hz : k < zs.length) : (us ++ zs.drop k).set k u = (us ++ [u]) ++ zs.drop (k + 1) := by
  subst hk
  rw [List.set_append_right _ _ (Nat.le_refl _), Nat.sub_self, List.drop_eq_getElem_cons hz, List.set_cons_zero, List.append_assoc]
  rfl

theorem ownP_other {w : World} {base top : Nat} {v : Value} {ps : List (List Stm)} (h : OwnP w base top v ps) {a : Addr} (ha : a.block < base ∨ top ≤ a.block) (u : Value) : OwnP (w.setCell a u) base top v ps := by
  obtain ⟨us, ho, ht, hu⟩ := h
  refine ⟨us, ownsRow_setCell_other ho (fun e => ?_) u, ht, fun j x p h1 h2 => ⟨ownsRow_setCell_other (hu j x p h1 h2).1 (fun e => ?_) u, (hu j x p h1 h2).2⟩⟩
  · have h1 := ht _ e
    have h2 := (ho.lt _ e).1
    omega
  · have h3 := (hu j x p h1 h2).2 _ e
    have h4 := ((hu j x p h1 h2).1.lt _ e).1
    omega

theorem ownP_mono {w : World} {base top base' top' : Nat} {v : Value} {ps : List (List Stm)} (h : OwnP w base top v ps) (hb : base' ≤ base) (ht' : top ≤ top') : OwnP w base' top' v ps := by
  obtain ⟨us, ho, ht, hu⟩ := h
  exact ⟨us, own_mono ho hb, fun k hk => Nat.lt_of_lt_of_le (ht k hk) ht', fun j x p h1 h2 => ⟨own_mono (hu j x p h1 h2).1 hb, fun k hk => Nat.lt_of_lt_of_le ((hu j x p h1 h2).2 k hk) ht'⟩⟩

theorem ownP_slice {w : World} {base top : Nat} {v : Value} {ps : List (List Stm)} (h : OwnP w base top v ps) : ∃ a m c, v = .slice a m c := by
  obtain ⟨us, ho, _⟩ := h
  exact own_slice ho

end Go.Proofs.Ytmloeldgeegddaa
