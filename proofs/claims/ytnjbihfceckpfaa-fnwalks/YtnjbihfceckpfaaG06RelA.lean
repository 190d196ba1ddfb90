/-
 Put together out of: SpecRel, RelA.
-/
import Derived.Test.YtnjbihfceckpfaaG05RelM
import Derived.Deep.AppendLies
import Derived.Deep.RegionHeld3
import Derived.Deep.WholeRow
import Derived.Deep.MidRow
import Derived.ChangeKeysEq
import Derived.Laws.Cover3
/-
 Chapter 6, the specification's side: l6Image, Image, l6Compose, l6Join, Compose, Join, Within, Unit.
-/
namespace Go.Proofs.Ytnjbihfceckpfaa
open Go.RowKit
set_option linter.unusedVariables false
set_option maxHeartbeats 1000000

theorem l6Image (rs : List Int) (s : Int) (v : Value) (w : World) (hr : Smalls rs) (hs : Small s) (hv : Reads w v (ints rs)) :
 Calls Try.prog 70 #[v, .int .i64 s] w fun e w' => e = .returned (.int .i64 (img rs s)) ∧ Below w.heap.size w w' := by
 obtain ⟨ao, cap, rfl, hc⟩ := hv
 have h7 := hr.1
 simp only [ints_length, h7]
 go_enter Try.func70, Try.ntmps70
 go_wp2
 go_loopw [5, 6] (fun n i wr => ∃ k : Nat, k ≤ 7 ∧ i = .int .i64 k ∧ n = .int .i64 (imgK rs s k) ∧ w = wr) (fun _ i _ => 7 - (intOf i).toNat)
 case atStart => exact ⟨0, by omega, rfl, rfl, rfl⟩
 case round =>
  obtain ⟨k, hk, rfl, rfl, rfl⟩ := hrel
  by_cases hlt : k < 7
  · have hlt' : (k : Int) < 7 := by omega
    obtain ⟨g, off, rfl, hg⟩ := hc k (.int .i64 (rs.getD k 0)) (by simp [ints, List.getD, h7, hlt])
    have hb := bit_tmod k hs
    have HI : Hid (imgK rs s (k + 1) = if bit s k = true then lor (imgK rs s k) (rs.getD k 0) else imgK rs s k) := by exact rfl
    clear hc
    generalize rs.getD k 0 = y at *
    generalize imgK rs s k = z at *
    by_cases hbit : bit s k = true
    · rw [if_pos hbit] at hb
      have HI2 := HI.out
      rw [if_pos hbit] at HI2
      have HI3 : Hid _ := HI2
      clear HI HI2
      go_wp2
      go_roundw
      case rel => exact ⟨k + 1, by omega, by go_num, by rw [HI3.out]; rfl, trivial⟩
      case measure => simp [intOf]; omega
    · rw [if_neg hbit] at hb
      have HI2 := HI.out
      rw [if_neg hbit] at HI2
      have HI3 : Hid _ := HI2
      clear HI HI2
      go_wp2
      go_roundw
      case rel => exact ⟨k + 1, by omega, by go_num, by rw [HI3.out], trivial⟩
      case measure => simp [intOf]; omega
  · have hkk : k = 7 := by omega
    subst hkk
    go_wp2
    go_ret
    exact ⟨rfl, Below.refl _ _⟩

theorem ints_append (xs ys : List Int) : ints (xs ++ ys) = ints xs ++ ints ys := by simp [ints]

end Go.Proofs.Ytnjbihfceckpfaa

/-
 Chapter 6: relations as arrays of seven numbers: loaded, stored, indexed, compared.
-/
namespace Go.Proofs.Ytnjbihfceckpfaa
set_option maxRecDepth 100000
open Go.RowKit
set_option linter.unusedVariables false
set_option maxHeartbeats 1000000

/-- A relation as a value. -/
def relV (xs : List Int) : Value := .agg (ints xs).toArray

theorem relInfo : (Try.prog.info? 64).map (·.size) = some 7 := by kernel_rfl
theorem relUnd : Try.prog.underlying 64 = some (.array 7 2) := by kernel_rfl

theorem ints_one (xs : List Int) : (ints xs).toArray.all (·.oneCell') = true := all_oneCell_toArray (fun v hv => ints_oneCell xs v hv)

theorem wpList_loadRel {ops : Array Oper} {rest : List Oper} {op : Oper} {a : Act} {w : World} {Q : Exit → Act → World → Prop} (hgd : op.guard = none) (x : Operand) (ho : op.op = .load 64 x)
 (b o : Nat) (xs : List Int) (hx : a.eval x = .pointer (some ⟨b, o, none⟩)) (hl : xs.length = 7) (hc : w.rangeAt b o (ints xs))
 (h : wpList Try.prog ops Q rest (a.put op.dst (relV xs)) w) : wpList Try.prog ops Q (op :: rest) a w :=
 wpList_load_mid hgd 64 x ho b o hx (ints xs) _ hc relUnd rfl (by rw [relInfo]; simp [ints, hl]) h

theorem wpList_storeRel {ops : Array Oper} {rest : List Oper} {op : Oper} {a : Act} {w : World} {Q : Exit → Act → World → Prop} (hgd : op.guard = none) (hdst : op.dst = none) (x y : Operand) (ho : op.op = .store 64 x y)
 (b o : Nat) (xs : List Int) (hx : a.eval x = .pointer (some ⟨b, o, none⟩)) (hy : a.eval y = relV xs) (hl : xs.length = 7) (ht : w.there b o 7)
 (h : wpList Try.prog ops Q rest a (w.setCells b o (ints xs))) : wpList Try.prog ops Q (op :: rest) a w :=
 wpList_store_mid hgd 64 x y ho b o (ints xs).toArray hx hy (by simpa [ints, hl] using ht) (by rw [relInfo]; simp [ints, hl]) (ints_one xs) (by rw [hdst, List.toList_toArray]; exact h)

theorem rangeR_new (w : World) (cs : List Value) (t : TypeId) : (w.alloc (.cells cs.toArray t)).rangeAt w.heap.size 0 cs := fun j v hv => by
 rw [Nat.zero_add, cell_of_row _ _ j _ t (0, 0) (heap_alloc_last w _)]
 simpa using hv

theorem bodyPost_cellR {fn : Func} {p : Tmp} {ty : TypeId} {R : Ending → World → Prop} {a : Act} {w : World} (h : fn.results = #[.cell p ty]) (b o : Nat) (cs : List Value) (d : TypeDesc)
 (hp : a.tmps.getD p undef = .pointer (some ⟨b, o, none⟩)) (hc : w.rangeAt b o cs) (hu : Try.prog.underlying ty = some d) (hd : d.isRow = true) (hi : (Try.prog.info? ty).map (·.size) = some cs.length)
 (hdf : a.defers = []) (hR : R (.returned (.agg cs.toArray)) w) : bodyPost Try.prog fn R .ret a w := by
 refine bodyPost_ret (v := .agg cs.toArray) ?_ hdf hR
 simp only [results, h]
 simp [Sem.run_bind, Result.andThen, asAddr]
 rw [← Array.getD_eq_getD_getElem?, hp]
 simp [run_loadVar_mid w b o ty cs d hc hu hd hi]

/-- The block B holds the relation xs. -/
abbrev RelAt (w : World) (B : Nat) (xs : List Int) : Prop := w.heap[B]? = some (.cells (ints xs).toArray 64 (0, 0))

theorem RelAt.cell {w : World} {B : Nat} {xs : List Int} (h : RelAt w B xs) (j : Nat) (hj : j < xs.length) : w.cell? ⟨B, j, none⟩ = some (.int .i64 (xs.getD j 0)) ∧ w.frozen? ⟨B, j, none⟩ = false := by
 refine ⟨?_, frozen_of_row w B j _ _ h⟩
 rw [cell_of_row w B j _ _ (0, 0) h]
 simp [ints, List.getD, hj]

theorem RelAt.set {w : World} {B : Nat} {xs : List Int} (h : RelAt w B xs) (j : Nat) (x : Int) : RelAt (w.setCell ⟨B, j, none⟩ (.int .i64 x)) B (xs.set j x) := by
 have := heap_setCell_same w B j _ _ (.int .i64 x) h
 show (w.setCell ⟨B, j, none⟩ (.int .i64 x)).heap[B]? = _
 rw [this]
 simp [ints, List.map_set]

theorem RelAt.range {w : World} {B : Nat} {xs : List Int} (h : RelAt w B xs) : w.rangeAt B 0 (ints xs) := fun j v hv => by
 rw [Nat.zero_add, cell_of_row w B j _ _ (0, 0) h]
 simpa using hv

theorem RelAt.there {w : World} {B : Nat} {xs : List Int} (h : RelAt w B xs) : w.there B 0 xs.length := fun j hj => by
 rw [Nat.zero_add]
 obtain ⟨h1, h2⟩ := h.cell j hj
 exact ⟨by rw [h1]; rfl, h2⟩

theorem RelAt.lt {w : World} {B : Nat} {xs : List Int} (h : RelAt w B xs) : B < w.heap.size := (Array.getElem?_eq_some_iff.1 h).1

/-- What is cut of a whole relation is a row of its own. -/
theorem RelAt.own {w : World} {B : Nat} {xs : List Int} (h : RelAt w B xs) {base : Nat} (hb : base ≤ B) (hl : xs.length = 7) : w.ownsRow base 64 1 (.slice (some ⟨B, 0, none⟩) 7 7) 7 (ints xs) :=
 ⟨by simp [ints, hl], .inr ⟨B, 7, (ints xs).toArray, rfl, hb, h, by omega, by unfold maxLen; omega, by simp [ints, hl], by rw [List.toList_toArray, Nat.mul_one]; exact List.take_of_length_le (by simp [ints, hl])⟩⟩

theorem run_indexRel (w : World) (xs : List Int) (hl : xs.length = 7) (i : Nat) (hi : i < 7) : (Instr.index 64 (relV xs) (.int .i64 (i : Int))).run Try.prog w = .ok (.int .i64 (xs.getD i 0)) w := by
 obtain ⟨t, ht⟩ : ∃ t, Try.prog.info? 2 = some t := Option.isSome_iff_exists.1 (by kernel_rfl)
 have hz : t.size = 1 := by
  have h1 := infoInt
  rw [ht] at h1
  simp at h1
  exact h1.2.1
 have hu : Try.prog.underlying 2 = some (.int .i64) := by kernel_rfl
 have h1 : (0 : Int) ≤ (i : Int) ∧ (i : Int) < ((7 : Nat) : Int) := by omega
 have hg : (ints xs).toArray[i]? = some (.int .i64 (xs.getD i 0)) := by simp [ints, List.getD, hl, hi]
 unfold Instr.index relV
 generalize (ints xs).toArray = C at hg ⊢
 simp only [asIntOf, Sem.run_bind, Sem.run_pure, Result.andThen_ok, run_underlying relUnd, if_pos h1, sizeOf, typeInfo, part, isAgg, run_underlying hu, Int.toNat_natCast]
 simp [ht, hz, hg]

theorem wpList_indexRel {ops : Array Oper} {rest : List Oper} {op : Oper} {a : Act} {w : World} {Q : Exit → Act → World → Prop} (hgd : op.guard = none) (x y : Operand) (ho : op.op = .index 64 x y)
 (xs : List Int) (i : Nat) (hx : a.eval x = relV xs) (hy : a.eval y = .int .i64 (i : Int)) (hl : xs.length = 7) (hi : i < 7) (y : Int) (hxy : xs.getD i 0 = y)
 (h : wpList Try.prog ops Q rest (a.put op.dst (.int .i64 y)) w) : wpList Try.prog ops Q (op :: rest) a w := by
 subst hxy
 refine wpList_plain hgd fun K hK => ?_
 unfold Oper.wp execOp
 simp only [ho, hx, hy, Sem.run_bind, run_indexRel w xs hl i hi, Result.andThen_ok]
 exact hK _ _ h

theorem run_eqInts (d : Nat) (w : World) (bs cs : List Int) : ∀ is : List Nat, (∀ i ∈ is, i < bs.length ∧ i < cs.length) →
 (Op.eqItems (d + 1) 2 1 (ints bs).toArray (ints cs).toArray is).run Try.prog w = .ok (is.all (fun i => decide (bs.getD i 0 = cs.getD i 0))) w
 | [], _ => by simp [Op.eqItems]
 | i :: is, h => by
  obtain ⟨h1, h2⟩ := h i (by simp)
  have ih := run_eqInts d w bs cs is (fun j hj => h j (by simp [hj]))
  have hu : Try.prog.underlying 2 = some (.int .i64) := by kernel_rfl
  have p1 : (part 2 (ints bs).toArray (i * 1)).run Try.prog w = .ok (.int .i64 bs[i]) w := by
   simp [part, isAgg, run_underlying hu, h1, ints]
  have p2 : (part 2 (ints cs).toArray (i * 1)).run Try.prog w = .ok (.int .i64 cs[i]) w := by
   simp [part, isAgg, run_underlying hu, h2, ints]
  have p3 : (Op.equalIn (d + 1) 2 (.int .i64 bs[i]) (.int .i64 cs[i])).run Try.prog w = .ok (decide (bs[i] = cs[i])) w := by
   simp [Op.equalIn, run_underlying hu]
   rw [Bool.eq_iff_iff]; simp
  have e1 : bs.getD i 0 = bs[i] := by simp [List.getD, h1]
  have e2 : cs.getD i 0 = cs[i] := by simp [List.getD, h2]
  simp only [Op.eqItems, Sem.run_bind, p1, p2, p3, Result.andThen_ok, List.all_cons, e1, e2]
  cases hb : (decide (bs[i] = cs[i]))
  · simp
  · simpa using ih

theorem list7 {L M : List Int} (hl : L.length = 7) (hm : M.length = 7) (h : ∀ j, j < 7 → L.getD j 0 = M.getD j 0) : L = M := by
 refine List.ext_getElem (by omega) (fun j h1 h2 => ?_)
 have := h j (by omega)
 simpa [List.getD, h1, h2] using this

end Go.Proofs.Ytnjbihfceckpfaa
