/-
  Put together out of: RelA, ImplRel, RelTop.
-/
import Derived.Test.YtmloeldgeegddaaG38SpecRel
import Derived.Deep.WholeRow
import Derived.Deep.MidRow
import Derived.ChangeKeysEq
import Derived.Laws.Cover3
import Derived.Test.YtmloeldgeegddaaG25RegionInv
/-
  Chapter 6: relations as arrays of seven numbers: loaded, stored, indexed, compared.
-/
namespace Go.Proofs.Ytmloeldgeegddaa
set_option maxRecDepth 100000
open Go.RowKit
set_option linter.unusedVariables false
set_option maxHeartbeats 1000000

/-- A relation as a value. -/
def relV (xs : List Int) : Value := .agg (ints xs).toArray

theorem relInfo : (Try.prog.info? 95).map (·.size) = some 7 := by kernel_rfl
theorem relUnd : Try.prog.underlying 95 = some (.array 7 2) := by kernel_rfl

theorem ints_one (xs : List Int) : (ints xs).toArray.all (·.oneCell') = true := all_oneCell_toArray (fun v hv => ints_oneCell xs v hv)

theorem wpList_loadRel {ops : Array Oper} {rest : List Oper} {op : Oper} {a : Act} {w : World} {Q : Exit → Act → World → Prop} (hgd : op.guard = none) (x : Operand) (ho : op.op = .load 95 x)
    (b o : Nat) (xs : List Int) (hx : a.eval x = .pointer (some ⟨b, o, none⟩)) (hl : xs.length = 7) (hc : w.rangeAt b o (ints xs))
    (h : wpList Try.prog ops Q rest (a.put op.dst (relV xs)) w) : wpList Try.prog ops Q (op :: rest) a w :=
  wpList_load_mid hgd 95 x ho b o hx (ints xs) _ hc relUnd rfl (by rw [relInfo]; simp [ints, hl]) h

theorem wpList_storeRel {ops : Array Oper} {rest : List Oper} {op : Oper} {a : Act} {w : World} {Q : Exit → Act → World → Prop} (hgd : op.guard = none) (hdst : op.dst = none) (x y : Operand) (ho : op.op = .store 95 x y)
    (b o : Nat) (xs : List Int) (hx : a.eval x = .pointer (some ⟨b, o, none⟩)) (hy : a.eval y = relV xs) (hl : xs.length = 7) (ht : w.there b o 7)
    (h : wpList Try.prog ops Q rest a (w.setCells b o (ints xs))) : wpList Try.prog ops Q (op :: rest) a w :=
  wpList_store_mid hgd 95 x y ho b o (ints xs).toArray hx hy (by simpa [ints, hl] using ht) (by rw [relInfo]; simp [ints, hl]) (ints_one xs) (by rw [hdst, List.toList_toArray]; exact h)

theorem rangeR_new (w : World) (cs : List Value) (t : TypeId) : (w.alloc (.cells cs.toArray t)).rangeAt w.heap.size 0 cs := fun j v hv => by
  rw [Nat.zero_add, cell_of_row _ _ j _ t (0, 0) (heap_alloc_last w _)]
  simpa using hv

theorem bodyPost_cellR {fn : Func} {p : Tmp} {ty : TypeId} {R : Ending → World → Prop} {a : Act} {w : World} (h : fn.results = #[.cell p ty]) (b o : Nat) (cs : List Value) (d : TypeDesc)
    (hp : a.tmps.getD p undef = .pointer (some ⟨b, o, none⟩)) (hc : w.rangeAt b o cs) (hu : Try.prog.underlying ty = some d) (hd : d.isRow = true) (hi : (Try.prog.info? ty).map (·.size) = some cs.length)
    (hdf : a.defers = []) (hR : R (.returned (.agg cs.toArray)) w) : bodyPost Try.prog fn R .ret a w := by
  refine bodyPost_ret (v := .agg cs.toArray) ?_ hdf hR
  simp only [results, h]
  simp [Sem.run_bind, Result.andThen, asAddr]
  rw [← Array.getD_eq_getD_getElem?, hp]
  simp [run_loadVar_mid w b o ty cs d hc hu hd hi]

/-- The block B holds the relation xs. -/
abbrev RelAt (w : World) (B : Nat) (xs : List Int) : Prop := w.heap[B]? = some (.cells (ints xs).toArray 95 (0, 0))

theorem RelAt.cell {w : World} {B : Nat} {xs : List Int} (h : RelAt w B xs) (j : Nat) (hj : j < xs.length) : w.cell? ⟨B, j, none⟩ = some (.int .i64 (xs.getD j 0)) ∧ w.frozen? ⟨B, j, none⟩ = false := by
  refine ⟨?_, frozen_of_row w B j _ _ h⟩
  rw [cell_of_row w B j _ _ (0, 0) h]
  simp [ints, List.getD, hj]

theorem RelAt.set {w : World} {B : Nat} {xs : List Int} (h : RelAt w B xs) (j : Nat) (x : Int) : RelAt (w.setCell ⟨B, j, none⟩ (.int .i64 x)) B (xs.set j x) := by
  have := heap_setCell_same w B j _ _ (.int .i64 x) h
  show (w.setCell ⟨B, j, none⟩ (.int .i64 x)).heap[B]? = _
  rw [this]
  simp [ints, List.map_set]

theorem RelAt.range {w : World} {B : Nat} {xs : List Int} (h : RelAt w B xs) : w.rangeAt B 0 (ints xs) := fun j v hv => by
  rw [Nat.zero_add, cell_of_row w B j _ _ (0, 0) h]
  simpa using hv

theorem RelAt.there {w : World} {B : Nat} {xs : List Int} (h : RelAt w B xs) : w.there B 0 xs.length := fun j hj => by
  rw [Nat.zero_add]
  obtain ⟨h1, h2⟩ := h.cell j hj
  exact ⟨by rw [h1]; rfl, h2⟩

theorem RelAt.lt {w : World} {B : Nat} {xs : List Int} (h : RelAt w B xs) : B < w.heap.size := (Array.getElem?_eq_some_iff.1 h).1

/-- What is cut of a whole relation is a row of its own. -/
theorem RelAt.own {w : World} {B : Nat} {xs : List Int} (h : RelAt w B xs) {base : Nat} (hb : base ≤ B) (hl : xs.length = 7) : w.ownsRow base 95 1 (.slice (some ⟨B, 0, none⟩) 7 7) 7 (ints xs) :=
  ⟨by simp [ints, hl], .inr ⟨B, 7, (ints xs).toArray, rfl, hb, h, by omega, by unfold maxLen; omega, by simp [ints, hl], by rw [List.toList_toArray, Nat.mul_one]; exact List.take_of_length_le (by simp [ints, hl])⟩⟩

theorem run_indexRel (w : World) (xs : List Int) (hl : xs.length = 7) (i : Nat) (hi : i < 7) : (Instr.index 95 (relV xs) (.int .i64 (i : Int))).run Try.prog w = .ok (.int .i64 (xs.getD i 0)) w := by
  obtain ⟨t, ht⟩ : ∃ t, Try.prog.info? 2 = some t := Option.isSome_iff_exists.1 (by kernel_rfl)
  have hz : t.size = 1 := by
    have h1 := infoInt
    rw [ht] at h1
    simp at h1
    exact h1.2.1
  have hu : Try.prog.underlying 2 = some (.int .i64) := by kernel_rfl
  have h1 : (0 : Int) ≤ (i : Int) ∧ (i : Int) < ((7 : Nat) : Int) := by omega
  have hg : (ints xs).toArray[i]? = some (.int .i64 (xs.getD i 0)) := by simp [ints, List.getD, hl, hi]
  unfold Instr.index relV
  generalize (ints xs).toArray = C at hg ⊢
  simp only [asIntOf, Sem.run_bind, Sem.run_pure, Result.andThen_ok, run_underlying relUnd, if_pos h1, sizeOf, typeInfo, part, isAgg, run_underlying hu, Int.toNat_natCast]
  simp [ht, hz, hg]

theorem wpList_indexRel {ops : Array Oper} {rest : List Oper} {op : Oper} {a : Act} {w : World} {Q : Exit → Act → World → Prop} (hgd : op.guard = none) (x y : Operand) (ho : op.op = .index 95 x y)
    (xs : List Int) (i : Nat) (hx : a.eval x = relV xs) (hy : a.eval y = .int .i64 (i : Int)) (hl : xs.length = 7) (hi : i < 7) (y : Int) (hxy : xs.getD i 0 = y)
    (h : wpList Try.prog ops Q rest (a.put op.dst (.int .i64 y)) w) : wpList Try.prog ops Q (op :: rest) a w := by
  subst hxy
  refine wpList_plain hgd fun K hK => ?_
  unfold Oper.wp execOp
  simp only [ho, hx, hy, Sem.run_bind, run_indexRel w xs hl i hi, Result.andThen_ok]
  exact hK _ _ h

theorem run_eqInts (d : Nat) (w : World) (bs cs : List Int) : ∀ is : List Nat, (∀ i ∈ is, i < bs.length ∧ i < cs.length) →
    (Op.eqItems (d + 1) 2 1 (ints bs).toArray (ints cs).toArray is).run Try.prog w = .ok (is.all (fun i => decide (bs.getD i 0 = cs.getD i 0))) w
  | [], _ => by simp [Op.eqItems]
  | i :: is, h => by
    obtain ⟨h1, h2⟩ := h i (by simp)
    have ih := run_eqInts d w bs cs is (fun j hj => h j (by simp [hj]))
    have hu : Try.prog.underlying 2 = some (.int .i64) := by kernel_rfl
    have p1 : (part 2 (ints bs).toArray (i * 1)).run Try.prog w = .ok (.int .i64 bs[i]) w := by
      simp [part, isAgg, run_underlying hu, h1, ints]
    have p2 : (part 2 (ints cs).toArray (i * 1)).run Try.prog w = .ok (.int .i64 cs[i]) w := by
      simp [part, isAgg, run_underlying hu, h2, ints]
    have p3 : (Op.equalIn (d + 1) 2 (.int .i64 bs[i]) (.int .i64 cs[i])).run Try.prog w = .ok (decide (bs[i] = cs[i])) w := by
      simp [Op.equalIn, run_underlying hu]
      rw [Bool.eq_iff_iff]; simp
    have e1 : bs.getD i 0 = bs[i] := by simp [List.getD, h1]
    have e2 : cs.getD i 0 = cs[i] := by simp [List.getD, h2]
    simp only [Op.eqItems, Sem.run_bind, p1, p2, p3, Result.andThen_ok, List.all_cons, e1, e2]
    cases hb : (decide (bs[i] = cs[i]))
    · simp
    · simpa using ih

theorem list7 {L M : List Int} (hl : L.length = 7) (hm : M.length = 7) (h : ∀ j, j < 7 → L.getD j 0 = M.getD j 0) : L = M := by
  refine List.ext_getElem (by omega) (fun j h1 h2 => ?_)
  have := h j (by omega)
  simpa [List.getD, h1, h2] using this

theorem run_equalRels (w : World) (bs cs : List Int) (hl : bs.length = 7) (hc : cs.length = 7) : (Op.equal 95 (relV bs) (relV cs)).run Try.prog w = .ok (decide (bs = cs)) w := by
  obtain ⟨i, hi⟩ : ∃ i, Try.prog.info? 2 = some i := Option.isSome_iff_exists.1 (by kernel_rfl)
  have hcell : Try.prog.cellsOf 2 = 1 := by kernel_rfl
  unfold Op.equal relV
  have hd : Op.maxDepth = 9998 + 1 + 1 := rfl
  rw [hd, run_equalIn_array w (9998 + 1) _ _ relUnd hi, hcell, run_eqInts 9998 w bs cs _ (fun i hi => by simp at hi; omega)]
  congr 1
  rw [Bool.eq_iff_iff]
  simp only [List.all_eq_true, List.mem_range, decide_eq_true_eq]
  exact ⟨fun h => list7 hl hc h, fun h j _ => by rw [h]⟩

end Go.Proofs.Ytmloeldgeegddaa

/-
  Chapter 6, the program's side: relation's methods; Image, Compose, Join, Within, Unit.
-/
namespace Go.Proofs.Ytmloeldgeegddaa
open Go.RowKit
set_option linter.unusedVariables false
set_option maxHeartbeats 1000000

theorem relImage (rs : List Int) (s : Int) (w : World) (hr : Smalls rs) (hs : Small s) :
    Calls Try.prog 73 #[relV rs, .int .i64 s] w fun e w' => e = .returned (.int .i64 (img rs s)) ∧ Below w.heap.size w w' := by
  have h7 := hr.1
  obtain ⟨cs, hcs⟩ : ∃ cs, ints rs = cs := ⟨_, rfl⟩
  unfold relV
  rw [hcs]
  go_enter Try.func73, Try.ntmps73
  subst hcs
  have HR := rangeR_new w (ints rs) 95
  go_wp2_with (refine wpList_loadRel rfl (.tmp 2) rfl w.heap.size 0 rs rfl h7 HR ?_)
  have B0 : Below w.heap.size w (w.alloc (.cells (ints rs).toArray 95)) := by go_grown
  go_loopw [5, 9] (fun n i wr => ∃ k : Nat, k ≤ 7 ∧ i = .int .i64 k ∧ n = .int .i64 (imgK rs s k) ∧ Below w.heap.size w wr) (fun _ i _ => 7 - (intOf i).toNat)
  case atStart => exact ⟨0, by omega, rfl, rfl, B0⟩
  case round =>
    obtain ⟨k, hk, rfl, rfl, hb⟩ := hrel
    by_cases hlt : k < 7
    · have hlt' : (k : Int) < 7 := by omega
      have hbt := bit_and k hs
      have HI : Hid (imgK rs s (k + 1) = if bit s k = true then lor (imgK rs s k) (rs.getD k 0) else imgK rs s k) := by exact rfl
      clear HR B0
      obtain ⟨y, hy⟩ : ∃ y, rs.getD k 0 = y := ⟨_, rfl⟩
      rw [hy] at HI
      have HY : Hid _ := hy
      clear hy
      generalize imgK rs s k = z at *
      by_cases hbit : bit s k = true
      · rw [if_pos hbit] at hbt
        have HI2 := HI.out
        rw [if_pos hbit] at HI2
        have HI3 : Hid _ := HI2
        clear HI HI2
        go_wp2_with (refine wpList_indexRel rfl (.tmp 8) (.tmp 9) rfl rs k rfl rfl h7 hlt y HY.out ?_)
        go_roundw
        case rel => exact ⟨k + 1, by omega, by go_num, by rw [HI3.out]; rfl, hb⟩
        case measure => simp [intOf]; omega
      · rw [if_neg hbit] at hbt
        have HI2 := HI.out
        rw [if_neg hbit] at HI2
        have HI3 : Hid _ := HI2
        clear HI HI2
        go_wp2_with (refine wpList_indexRel rfl (.tmp 8) (.tmp 9) rfl rs k rfl rfl h7 hlt y HY.out ?_)
        go_roundw
        case rel => exact ⟨k + 1, by omega, by go_num, by rw [HI3.out], hb⟩
        case measure => simp [intOf]; omega
    · have hkk : k = 7 := by omega
      subst hkk
      go_wp2
      go_ret
      exact ⟨rfl, hb⟩

theorem heap_setCells7 (b : Nat) (t : TypeId) : ∀ (vs : List Value) (o : Nat) (w : World) (C : Array Value), w.heap[b]? = some (.cells C t (0, 0)) → ∃ C' : Array Value, (w.setCells b o vs).heap[b]? = some (.cells C' t (0, 0)) ∧ C'.size = C.size
  | [], o, w, C, h => ⟨C, h, rfl⟩
  | v :: r, o, w, C, h => by
    rw [World.setCells]
    obtain ⟨C', h1, h2⟩ := heap_setCells7 b t r (o + 1) _ _ (heap_setCell_same w b o C t v h)
    exact ⟨C', h1, by simpa using h2⟩

theorem RelAt.store {w : World} {B : Nat} {xs zs : List Int} (h : RelAt w B xs) (hl : zs.length = xs.length) : RelAt (w.setCells B 0 (ints zs)) B zs := by
  obtain ⟨C, hC, hs⟩ := heap_setCells7 B 95 (ints zs) 0 w _ h
  have hr := World.rangeAt_setCells_same w B 0 (ints zs) (by rw [ints_length, hl]; exact h.there)
  rw [RelAt, hC]
  congr 2
  refine Array.ext' ?_
  have hs' : C.size = xs.length := by rw [hs, List.size_toArray, ints_length]
  refine List.ext_getElem (by rw [Array.length_toList, hs', List.toList_toArray, ints_length, hl]) (fun j h1 h2 => ?_)
  have h3 := hr j (ints zs)[j] (by simp)
  rw [Nat.zero_add, cell_of_row _ B j C _ (0, 0) hC] at h3
  have h4 : C[j]? = some C[j] := Array.getElem?_eq_getElem (by simpa using h1)
  rw [h4] at h3
  simpa using h3

theorem zeros7 : (#[.int .i64 0, .int .i64 0, .int .i64 0, .int .i64 0, .int .i64 0, .int .i64 0, .int .i64 0] : Array Value) = (ints (List.replicate 7 0)).toArray := rfl

theorem grown_setCell7 (w : World) (b o : Nat) (v : Value) : w.grownBy (w.setCell ⟨b, o, none⟩ v) (some b) :=
  ⟨rfl, rfl, rfl, by simp [World.setCell], fun k _ hk => Below.heap_setCell w ⟨b, o, none⟩ v k (fun e => hk (by rw [e]))⟩

theorem grown_setCells7 (b : Nat) : ∀ (vs : List Value) (o : Nat) (w : World), w.grownBy (w.setCells b o vs) (some b)
  | [], _, w => World.grownBy.refl _ _
  | v :: r, o, w => by
    rw [World.setCells]
    exact grown_trans (grown_setCell7 w b o v) (grown_setCells7 b r (o + 1) _)

theorem reads_range {w : World} {v : Value} {xs : List Int} (h : Reads w v (ints xs)) (h7 : xs.length = 7) : ∃ g off cap, v = .slice (some ⟨g, off, none⟩) 7 cap ∧ w.rangeAt g off (ints xs) := by
  obtain ⟨ao, cap, rfl, hc⟩ := h
  obtain ⟨g, off, rfl, _⟩ := hc 0 (.int .i64 (xs.getD 0 0)) (by simp [ints, List.getD, h7])
  refine ⟨g, off, cap, by rw [ints_length, h7], fun j x hx => ?_⟩
  obtain ⟨g', off', e, h⟩ := hc j x hx
  simp at e
  obtain ⟨rfl, rfl⟩ := e
  exact h

theorem range_below {w w' : World} {g off : Nat} {cs : List Value} (h : w.rangeAt g off cs) (hb : Below w.heap.size w w') : w'.rangeAt g off cs := fun j x hx => by
  have := h j x hx
  exact (hb.cell (World.block_lt_of_cell? w _ this)).trans this

end Go.Proofs.Ytmloeldgeegddaa

/-
  Chapter 6, the program's side: Image, ofTwo, Compose, Join, Within, Unit.
-/
namespace Go.Proofs.Ytmloeldgeegddaa
open Go.RowKit
set_option linter.unusedVariables false
set_option maxHeartbeats 1000000

theorem wpList_arrayAt {ops : Array Oper} {rest : List Oper} {op : Oper} {a : Act} {w : World} {Q : Exit → Act → World → Prop} (hgd : op.guard = none) (x : Operand) (ho : op.op = .sliceToArrayPointer 95 x)
    (g off cap : Nat) (hx : a.eval x = .slice (some ⟨g, off, none⟩) 7 cap)
    (h : wpList Try.prog ops Q rest (a.put op.dst (.pointer (some ⟨g, off, none⟩))) w) : wpList Try.prog ops Q (op :: rest) a w := by
  refine wpList_plain hgd fun K hK => ?_
  unfold Oper.wp execOp
  simp only [ho, hx, Sem.run_bind, run_arrayAt w 95 2 7 (some ⟨g, off, none⟩) 7 cap relUnd (by omega), Result.andThen_ok]
  exact hK _ _ h

theorem lor_comm {a b : Int} (ha : Small a) (hb : Small b) : lor a b = lor b a :=
  bit_ext (lor_small ha hb) (lor_small hb ha) (fun t _ => by rw [bit_lor ha hb, bit_lor hb ha, Bool.or_comm])

theorem joi_comm {xs ys : List Int} (hx : Smalls xs) (hy : Smalls ys) : joi xs ys = joi ys xs := by
  refine list7 (by simp [joi, hx.1, hy.1]) (by simp [joi, hx.1, hy.1]) (fun j hj => ?_)
  have h1 : (joi xs ys).getD j 0 = lor (xs.getD j 0) (ys.getD j 0) := by simp [joi, List.getD, hx.1, hy.1, hj]
  have h2 : (joi ys xs).getD j 0 = lor (ys.getD j 0) (xs.getD j 0) := by simp [joi, List.getD, hx.1, hy.1, hj]
  rw [h1, h2, lor_comm (hx.getD j) (hy.getD j)]


/-- What ofTwo's region has, operation by operation. -/
def OFct (va vb : Value) (g off g' off' f : Nat) (xs ys zs : List Int) (base : Nat) (l : Nat → Bool) (x7 x16 x17 x18 x19 x20 x21 x22 x23 : Value) (wr : World) : Prop :=
  (l 0 = true → x16 = .func (.func f) #[] #[]) ∧ (l 1 = true → x17 = va) ∧ (l 2 = true → x18 = .pointer (some ⟨g, off, none⟩)) ∧ (l 3 = true → x19 = relV xs) ∧
  (l 4 = true → x20 = vb) ∧ (l 5 = true → x21 = .pointer (some ⟨g', off', none⟩)) ∧ (l 6 = true → x22 = relV ys) ∧ (l 7 = true → x23 = relV zs) ∧
  (l 8 = true → ∃ B, x7 = .pointer (some ⟨B, 0, none⟩) ∧ base ≤ B ∧ ∃ L : List Int, L.length = 7 ∧ RelAt wr B L ∧ (l 9 = true → L = zs)) ∧ (l 9 = true → l 8 = true)

/-- The invariant of that region. -/
def OInv (va vb vf : Value) (g off g' off' f : Nat) (xs ys zs : List Int) (w : World) (l : Nat → Bool) (a : Act) (wr : World) : Prop :=
  ∃ y3 y4 y5 y6 y8 y9 y10 y11 y12 y13 y14 y15 y24 x7 x16 x17 x18 x19 x20 x21 x22 x23 : Value,
    a = { tmps := List.toArray (va :: vb :: vf :: y3 :: y4 :: y5 :: y6 :: x7 :: y8 :: y9 :: y10 :: y11 :: y12 :: y13 :: y14 :: y15 :: x16 :: x17 :: x18 :: x19 :: x20 :: x21 :: x22 :: x23 :: y24 :: []), defers := [] } ∧
    Below w.heap.size w wr ∧ OFct va vb g off g' off' f xs ys zs w.heap.size l x7 x16 x17 x18 x19 x20 x21 x22 x23 wr

theorem implUnit (w : World) : Calls Try.prog 105 #[] w fun e w' => ∃ a, e = .returned a ∧ w'.ownsRow w.heap.size 95 1 a unitL.length (ints unitL) ∧ Below w.heap.size w w' := by
  have hb0 : Below w.heap.size w (w.alloc (.cells (ints (List.replicate 7 0)).toArray 95)) := by go_grown
  have B0 : RelAt (w.alloc (.cells (ints (List.replicate 7 0)).toArray 95)) w.heap.size (List.replicate 7 0) := heap_alloc_new w _
  go_enter Try.func105, Try.ntmps105
  go_wp2
  rw [zeros7]
  go_loopw [3] (fun i wr => ∃ (k : Nat), k ≤ 7 ∧ i = .int .i64 k ∧ RelAt wr w.heap.size (unitL.take k ++ List.replicate (7 - k) 0) ∧ Below w.heap.size w wr) (fun i _ => 7 - (intOf i).toNat)
  case atStart => exact ⟨0, by omega, rfl, B0, hb0⟩
  case round =>
    obtain ⟨k, hk, rfl, b0, hb⟩ := hrel
    clear B0 hb0
    by_cases hlt : k < 7
    · have hlt' : (k : Int) < 7 := by omega
      have hpl : (unitL.take k ++ List.replicate (7 - k) (0 : Int)).length = 7 := by simp [unitL]; omega
      obtain ⟨c0, f0⟩ := b0.cell k (by omega)
      have hset : ∀ x, x = (2 : Int) ^ k → (unitL.take k ++ List.replicate (7 - k) (0 : Int)).set k x = unitL.take (k + 1) ++ List.replicate (7 - (k + 1)) 0 := by
        rintro x rfl
        have hc : k = 0 ∨ k = 1 ∨ k = 2 ∨ k = 3 ∨ k = 4 ∨ k = 5 ∨ k = 6 := by omega
        rcases hc with rfl | rfl | rfl | rfl | rfl | rfl | rfl <;> rfl
      have hpow : (1 : Int) * 2 ^ k ≤ 64 ∧ (1 : Int) ≤ 2 ^ k := by
        have hc : k = 0 ∨ k = 1 ∨ k = 2 ∨ k = 3 ∨ k = 4 ∨ k = 5 ∨ k = 6 := by omega
        rcases hc with rfl | rfl | rfl | rfl | rfl | rfl | rfl <;> decide
      have HS : Hid _ := hset
      have H0 : Hid _ := b0
      clear hset b0
      go_wp2
      go_roundw
      case rel =>
        refine ⟨k + 1, by omega, by go_num, ?_, hb.setCell (Nat.le_refl _) _⟩
        rw [← HS.out _ rfl]
        exact RelAt.set H0.out k (2 ^ k)
      case measure => simp [intOf]; omega
    · have hkk : k = 7 := by omega
      subst hkk
      have hR : RelAt wr w.heap.size unitL := b0
      have HR : Hid _ := hR
      clear hR b0
      go_wp2
      go_ret
      exact ⟨_, rfl, RelAt.own HR.out (Nat.le_refl _) rfl, hb⟩

/-- What Within's region has, operation by operation. -/
def WFct (va vb : Value) (g off g' off' : Nat) (xs ys : List Int) (l : Nat → Bool) (x13 x14 x15 x16 x17 x18 x19 x20 x21 x22 x23 x4 : Value) : Prop :=
  (l 0 = true → x13 = vb) ∧ (l 1 = true → x14 = .pointer (some ⟨g', off', none⟩)) ∧ (l 2 = true → x15 = relV ys) ∧ (l 3 = true → x16 = va) ∧ (l 4 = true → x17 = .pointer (some ⟨g, off, none⟩)) ∧ (l 5 = true → x18 = relV xs) ∧ (l 6 = true → x19 = relV (joi ys xs)) ∧ (l 7 = true → x20 = vb) ∧ (l 8 = true → x21 = .pointer (some ⟨g', off', none⟩)) ∧ (l 9 = true → x22 = relV ys) ∧ (l 10 = true → x23 = .bool (decide (joi ys xs = ys))) ∧ (l 11 = true → x4 = .bool (decide (joi ys xs = ys)))

/-- The invariant of that region. -/
def WInv (va vb : Value) (g off g' off' : Nat) (xs ys : List Int) (w : World) (l : Nat → Bool) (a : Act) (wr : World) : Prop :=
  ∃ y2 y3 y5 y6 y7 y8 y9 y10 y11 y12 x13 x14 x15 x16 x17 x18 x19 x20 x21 x22 x23 x4 : Value,
    a = { tmps := List.toArray (va :: vb :: y2 :: y3 :: x4 :: y5 :: y6 :: y7 :: y8 :: y9 :: y10 :: y11 :: y12 :: x13 :: x14 :: x15 :: x16 :: x17 :: x18 :: x19 :: x20 :: x21 :: x22 :: x23 :: []), defers := [] } ∧
    Below w.heap.size w wr ∧ WFct va vb g off g' off' xs ys l x13 x14 x15 x16 x17 x18 x19 x20 x21 x22 x23 x4


end Go.Proofs.Ytmloeldgeegddaa
