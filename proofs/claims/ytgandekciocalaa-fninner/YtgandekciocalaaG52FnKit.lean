/-
  Put together out of: InnerMath, OpenCode, FnKit.
-/
import Derived.Test.YtgandekciocalaaTabEx
import Derived.Test.YtgandekciocalaaG51NextBoth
import Derived.Test.YtgandekciocalaaG22Progs
import Derived.WalkLawsBesides
import Derived.Test.YtgandekciocalaaG41MarkSS
import Derived.Test.YtgandekciocalaaBase
/-
  FnInner, FnTables: what the laws ask, of the relations and tables (no dump is spoken of).
-/
namespace Go.Proofs.Ytgandekciocalaa
open Go.RowKit
set_option linter.unusedVariables false

theorem within_of {xs ys : List Int} (hx : Smalls xs) (hy : Smalls ys) (h : SubR xs ys) : withinAns xs ys = true := by
  have e : joi xs ys = ys := subR_eq (joi_smalls hx hy) hy (joi_least hx hy h (SubR.refl _)) (joi_r hx hy)
  unfold withinAns
  rw [relOk_iff.2 hx, relOk_iff.2 hy, e]
  simp
theorem sub_of_within {xs ys : List Int} (h : withinAns xs ys = true) : Smalls xs ∧ Smalls ys ∧ SubR xs ys := by
  unfold withinAns at h
  simp only [Bool.and_eq_true, decide_eq_true_eq] at h
  obtain ⟨⟨h1, h2⟩, h3⟩ := h
  have hx := relOk_iff.1 h1
  have hy := relOk_iff.1 h2
  refine ⟨hx, hy, ?_⟩
  have := joi_l hx hy
  rwa [h3] at this

/-- What the law FnInner meets where there are relations: those of procedure j. -/
structure InnL (ps : List (List Stm)) (c i : Int) (A : List (List Int)) (j : Nat) (ss : List Stm) : Prop where
  at' : ps[j]? = some ss
  num : i = j
  len : A.length = ss.length
  small : ss.length ≤ 12
  four : ps.length ≤ 4
  eff : ∀ k, k < ss.length → ∀ s, ss[k]? = some s → ∀ E, EffA ps c s E → E.length = 7 ∧ (compAns (A.getD k []) E).length = 7 ∧ (A.getD k []).length = 7 ∧ ∀ x ∈ nextAns ss (k : Nat), ∃ m : Nat, x = m ∧ m < A.length ∧ withinAns (compAns (A.getD k []) E) (A.getD m []) = true
  back : ∀ k, k < ss.length → ∀ s, ss[k]? = some s → (s.k = 9 → joinAns (backsK ss A k) (A.getD k []) = backsK ss A (k + 1)) ∧ (s.k ≠ 9 → backsK ss A k = backsK ss A (k + 1)) ∧ (backsK ss A k).length = 7
  unit : withinAns unitL (A.getD 0 []) = true
  tab : ∀ T, TabA ps c T → T.length = ps.length ∧ T.getD j [] = backsK ss A ss.length ∧ (backsK ss A ss.length).length = 7

theorem inner_asked {ps : List (List Stm)} {c i : Int} {A : List (List Int)} (h : InnA ps c i A) (h0 : 0 < A.length) : ∃ j ss, InnL ps c i A j ss := by
  have hb : inB10 ps c i = true := by
    cases hb : inB10 ps c i with
    | true => rfl
    | false => rw [h.2 hb] at h0; cases h0
  obtain ⟨T, hj, hTl, hT, hl, hR⟩ := h.1 hb
  obtain ⟨hok, j, rfl, hj'⟩ := inB10_parts hb
  obtain ⟨hpo, hc, hp, h4⟩ := okB_parts hok
  simp only [Int.toNat_natCast] at hl hR
  obtain ⟨h1, h12, _⟩ := procOk_parts (hp j hj').1
  have hS : ∀ k (hk : k < ps[j].length), CanS ps.length ps[j][k] := fun k hk => (hp j hj').2 _ (List.getElem_mem hk)
  have hE : ∀ k, k < ps[j].length → ∀ s, ps[j][k]? = some s → ∀ E, EffA ps c s E → E = effN c T ps[j] k := by
    intro k hk s hs E hEA
    have e : ps[j][k] = s := by simpa [hk] using hs
    subst e
    have hcan : canB ps c ps[j][k] = true := by
      have := hS k hk
      unfold canB
      rw [hok, this.1]
      by_cases h8 : ps[j][k].k = 8
      · have h9 := this.2 h8
        simp [h9]
      · simp [h8]
    obtain ⟨T', hl', hT', rfl⟩ := hEA.1 hcan
    rw [effN_eq hk, tables_eq hT' hT hl' hTl]
  refine ⟨j, ps[j], ⟨by simp [hj'], rfl, hl, h12, h4, ?_, ?_, ?_, ?_⟩⟩
  · intro k hk s hs E hEA
    have hEe := hE k hk s hs E hEA
    have hsm : Smalls E := by rw [hEe]; exact effN_smalls hc hp hT.good hj' hk
    have gk := hR.good k hk
    have ec : compAns (A.getD k []) E = comp (A.getD k []) E := by
      unfold compAns
      rw [relOk_iff.2 gk, relOk_iff.2 hsm]
      simp
    rw [ec]
    refine ⟨hsm.1, (comp_smalls gk hsm).1, gk.1, fun x hx => ?_⟩
    have hns : nextAns ps[j] (k : Nat) = nextsS ps[j][k] k := by
      unfold nextAns
      have : hasS ps[j] (k : Nat) = true := by
        unfold hasS wiB
        simp [(hp j hj').1, hk]
      rw [this]
      simp [List.getD, hk]
    rw [hns] at hx
    obtain ⟨m, rfl, hm⟩ := nextsS_in (hp j hj').1 hk x hx
    refine ⟨m, rfl, by omega, within_of (comp_smalls gk hsm) (hR.good m hm) ?_⟩
    have := hR.clo.2 k hk _ hx
    rw [hEe]
    simpa using this
  · intro k hk s hs
    have e : ps[j][k] = s := by simpa [hk] using hs
    have gk := hR.good k hk
    have gb := backsK_smalls hR.good k (Nat.le_of_lt hk)
    have eg : ps[j].getD k ⟨0, 0, 0⟩ = s := by simp [List.getD, hk, e]
    refine ⟨fun h9 => ?_, fun h9 => ?_, gb.1⟩
    · unfold joinAns
      rw [relOk_iff.2 gk, relOk_iff.2 gb, backsK, eg, if_pos h9]
      simp
    · rw [backsK, eg, if_neg h9]
  · exact within_of unit_smalls (hR.good 0 (by omega)) hR.clo.1
  · intro U hU
    obtain ⟨hUl, hUt⟩ := hU.1 hok
    refine ⟨hUl, ?_, (backsK_smalls hR.good _ (Nat.le_refl _)).1⟩
    have e : U = T := tables_eq hUt hT hUl hTl
    subst e
    obtain ⟨R, hR', e2⟩ := hT.self j hj'
    rw [e2]
    exact backsK_eq (fun q hq => hR'.uniq hR hq) _ (Nat.le_refl _)

end Go.Proofs.Ytgandekciocalaa

/-
  The code that came in; laws.big.
-/
namespace Go.Proofs.Ytgandekciocalaa
open Go.ChangeShapes Go.WideShapes Go.ChangeAt Go.RowKit
set_option linter.unusedVariables false
set_option maxHeartbeats 2000000

theorem lawBig (bs : List Int) (v : Value) (w : World) (hl : bs.length ≤ maxLen) (hv : Reads w v (bs.map (Value.int .u8))) :
    Calls Try.prog 5 #[v] w fun e w' => e = .returned (.bool (decide ((4096 : Int) < (bs.length : Int)))) ∧ w = w' := by
  obtain ⟨ao, cap, rfl, hc⟩ := hv
  simp only [List.length_map]
  go_enter Try.func5, Try.ntmps5
  go_wp2
  go_ret
  exact ⟨rfl, rfl⟩

theorem open_code {H : Type} {enc : TypeId × Value → H} {P : Program} {W : World} {base : Nat} {held : Bool} {t e : TypeId} {r : Reach} {b0 : Nat} {v : Value} {d : DataW H} {p : List MemPlace}
    (ht : P.underlying t = some (.slice e)) (he : P.underlying e = some (.int .u8)) (hc : P.cellsOf e = 1) (hv : Value.okWide P W r b0 t v) (h : DataW.Trod enc P W base (fun _ => true) held t v d p) :
    ∃ bs : List Int, Reads W v (bs.map (Value.int .u8)) ∧ bs.length ≤ maxLen ∧ ∀ x ∈ bs, 0 ≤ x ∧ x ≤ 255 := by
  obtain ⟨a0, len, cap, rfl⟩ := okWide_slice ht hv
  obtain ⟨fuel, hf⟩ := h
  rcases open_ints ht he hc hf with ⟨hcs, _⟩ | ⟨a, len', cap', zs, hcs, _, hl, hm, hz, _, hcell, hwz⟩
  · simp [Value.cells] at hcs
    obtain ⟨rfl, rfl, rfl⟩ := hcs
    exact ⟨[], ⟨none, 0, rfl, fun j x hx => by simp at hx⟩, by simp, by simp⟩
  · simp [Value.cells] at hcs
    obtain ⟨rfl, rfl, rfl⟩ := hcs
    simp only [if_true] at hz
    have hlen : (zs.take len).length = len := by simp; omega
    refine ⟨zs.take len, ⟨some a, cap, by rw [List.length_map, hlen], ?_⟩, by omega, fun x hx => ?_⟩
    · intro j x hx
      have hj : j < len := by
        rcases Nat.lt_or_ge j len with h | h
        · exact h
        · rw [List.getElem?_eq_none (by simp; omega)] at hx; simp at hx
      have hcj := hcell j (by omega)
      obtain ⟨b, off, spot⟩ := a
      have hspot : spot = none := by
        have h0 := hcell 0 (by omega)
        simpa [Addr.add] using World.cell?_spot h0
      subst hspot
      refine ⟨b, off, rfl, ?_⟩
      have hadd : (⟨b, off, none⟩ : Addr).add j = ⟨b, off + j, none⟩ := by unfold Addr.add; split <;> simp_all
      rw [hadd] at hcj
      rw [hcj]
      have hjs : j < zs.length := by omega
      simp [hj, List.getElem?_eq_getElem hjs] at hx
      rw [List.getD_eq_getElem?_getD, List.getElem?_eq_getElem hjs]
      simp [hx]
    · have := hwz x (List.mem_of_mem_take hx)
      simp only [Lit.wf, Bool.and_eq_true, decide_eq_true_eq] at this
      have h1 : IntKind.u8.min = 0 := by decide
      have h2 : IntKind.u8.max = 255 := by decide
      rw [h1, h2] at this
      exact this

theorem cellsByte : Try.prog.cellsOf 5 = 1 := by kernel_rfl

end Go.Proofs.Ytgandekciocalaa

/-
  What is kept by whatever is made: one lemma a kind of fact.
-/
namespace Go.Proofs.Ytgandekciocalaa
open Go.RowKit

theorem box_step {W W' : World} {b : Nat} {o : Obj} (h : W.heap[b]? = some o) (hb : Below W.heap.size W W') : W'.heap[b]? = some o :=
  (hb.block b (Array.getElem?_eq_some_iff.1 h).1).trans h
theorem low_step {w W W' : World} (h : Below w.heap.size w W) (hb : Below W.heap.size W W') : Below w.heap.size w W' := h.trans (hb.mono h.size)
theorem low_box {w W : World} (h : Below w.heap.size w W) (o : Obj) : Below w.heap.size w (W.alloc o) := h.alloc h.size o

end Go.Proofs.Ytgandekciocalaa
