/-
  A row of a table of sets by value; what a row's numbers are.
-/
import Derived.Test.YtjlfmjoallnojacGatesOf
namespace Go.Proofs.Ytjlfmjoallnojac
open Go.RowKit
set_option linter.unusedVariables false
set_option maxHeartbeats 1000000

theorem tab_extract (gs : List (List Bool)) (hl : gs.length = 12) (hr : ∀ b ∈ gs, b.length = 12) (i : Nat) (hi : i < 12) : (bls gs.flatten).toArray.extract (i * 12) (i * 12 + 12) = (bls (gs.getD i [])).toArray := by
  have hig : i < gs.length := by rw [hl]; exact hi
  have e : gs.getD i [] = gs[i] := by simp [List.getD, hig]
  have hri : gs[i].length = 12 := hr _ (List.getElem_mem _)
  have hfl := flat_length gs hr
  rw [e]
  apply Array.ext_getElem?
  intro k
  rw [Array.getElem?_extract]
  simp only [List.size_toArray, List.getElem?_toArray, List.length_map]
  by_cases hk : k < 12
  · rw [if_pos (by omega), List.getElem?_map, List.getElem?_map, Nat.mul_comm i 12, flat_get gs hr i k hk, List.getElem?_eq_getElem hig]
    simp
  · rw [if_neg (by omega), List.getElem?_eq_none (by simp; omega)]

theorem run_indexTab (w : World) (gs : List (List Bool)) (hl : gs.length = 12) (hr : ∀ b ∈ gs, b.length = 12) (i : Nat) (hi : i < 12) : (Instr.index 41 (tabV gs) (.int .i64 (i : Int))).run Try.prog w = .ok (setV (gs.getD i [])) w := by
  obtain ⟨t, ht⟩ : ∃ t, Try.prog.info? 40 = some t := Option.isSome_iff_exists.1 (by kernel_rfl)
  have hz : t.size = 12 := by have := setInfo; rw [ht] at this; simpa using this
  have h1 : (0 : Int) ≤ (i : Int) ∧ (i : Int) < ((12 : Nat) : Int) := by omega
  have hx := tab_extract gs hl hr i hi
  unfold Instr.index tabV setV
  generalize (bls gs.flatten).toArray = C at hx ⊢
  generalize (bls (gs.getD i [])).toArray = D at hx ⊢
  simp only [asIntOf, Sem.run_bind, Sem.run_pure, Result.andThen_ok, run_underlying setsUnd, if_pos h1, sizeOf, typeInfo, part, isAgg, run_underlying setUnd, Int.toNat_natCast]
  simp [ht, hz, hx]

theorem wpList_indexTab {ops : Array Oper} {rest : List Oper} {op : Oper} {a : Act} {w : World} {Q : Exit → Act → World → Prop} (hgd : op.guard = none) (x y : Operand) (ho : op.op = .index 41 x y)
    (gs : List (List Bool)) (i : Nat) (hx : a.eval x = tabV gs) (hy : a.eval y = .int .i64 (i : Int)) (hl : gs.length = 12) (hr : ∀ b ∈ gs, b.length = 12) (hi : i < 12)
    (h : wpList Try.prog ops Q rest (a.put op.dst (setV (gs.getD i []))) w) : wpList Try.prog ops Q (op :: rest) a w := by
  refine wpList_plain hgd fun K hK => ?_
  unfold Oper.wp execOp
  simp only [ho, hx, hy, Sem.run_bind, run_indexTab w gs hl hr i hi, Result.andThen_ok]
  exact hK _ _ h

theorem reads_set {w : World} {X : Nat} {bs : List Bool} (hl : bs.length = 12) (h : w.rangeAt X 0 (bls bs)) : Reads w (.slice (some ⟨X, 0, none⟩) 12 12) (bs.map .bool) := by
  refine ⟨some ⟨X, 0, none⟩, 12, by rw [List.length_map, hl], fun j x hx => ⟨X, 0, rfl, h j x hx⟩⟩

/-- The numbers of a row are the gates. -/
theorem row_gates {ss : List Stm} {gs : List (List Bool)} (hd : ∀ i d, dm gs i d = true ↔ Dom ss d i) (i : Nat) {A : List Int} (hA : IsGates ss i A) : nums (gs.getD i []) 0 = A := by
  refine sorted_ext _ _ (nums_sorted _ _) hA.1 (fun x => ?_)
  rw [mem_nums, hA.2]
  constructor
  · rintro ⟨j, e, h⟩
    exact ⟨j, i, by omega, rfl, (hd i j).1 h⟩
  · rintro ⟨d, i', e, e2, h⟩
    obtain rfl : i = i' := by omega
    exact ⟨d, by omega, (hd i d).2 h⟩

/-- The world behind the store as a name. -/
theorem wpList_storeTabG {ops : Array Oper} {rest : List Oper} {op : Oper} {a : Act} {w : World} {Q : Exit → Act → World → Prop} (hgd : op.guard = none) (hdst : op.dst = none) (x y : Operand) (ho : op.op = .store 41 x y)
    (b : Nat) (gs : List (List Bool)) (hx : a.eval x = .pointer (some ⟨b, 0, none⟩)) (hy : a.eval y = tabV gs) (hl : gs.length = 12) (hr : ∀ c ∈ gs, c.length = 12) (ht : w.there b 0 144)
    (h : ∀ w', TabAt w' b gs → w.grownBy w' (some b) → wpList Try.prog ops Q rest a w') : wpList Try.prog ops Q (op :: rest) a w :=
  wpList_storeTab hgd hdst x y ho b gs hx hy (by rw [flat_length gs hr, hl]) ht (h _ (TabAt.copied hl hr ht) (grown_setCells _ _ _ _))

theorem wpList_storeSetG {ops : Array Oper} {rest : List Oper} {op : Oper} {a : Act} {w : World} {Q : Exit → Act → World → Prop} (hgd : op.guard = none) (hdst : op.dst = none) (x y : Operand) (ho : op.op = .store 40 x y)
    (b o : Nat) (bs : List Bool) (hx : a.eval x = .pointer (some ⟨b, o, none⟩)) (hy : a.eval y = setV bs) (hl : bs.length = 12) (ht : w.there b o 12)
    (h : ∀ w', w'.rangeAt b o (bls bs) → w'.there b o 12 → w.grownBy w' (some b) → wpList Try.prog ops Q rest a w') : wpList Try.prog ops Q (op :: rest) a w :=
  wpList_storeSet hgd hdst x y ho b o bs hx hy hl ht (h _ (World.rangeAt_setCells_same w b o _ (by rw [List.length_map, hl]; exact ht)) (World.there_setCells ht _ _ _) (grown_setCells _ _ _ _))

end Go.Proofs.Ytjlfmjoallnojac
