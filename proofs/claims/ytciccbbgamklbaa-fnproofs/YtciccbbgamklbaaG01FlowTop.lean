/-
  Put together out of: ImplRel, RegionInv, RelTop, FlowM, FlowTop.
-/
import Derived.Test.YtciccbbgamklbaaG00RelA
import Derived.Orders
import Derived.Laws.EntriesVeiled
/-
  Chapter 6, the program's side: relation's methods; Image, Compose, Join, Within, Unit.
-/
namespace Go.Proofs.Ytciccbbgamklbaa
open Go.RowKit
set_option linter.unusedVariables false
set_option maxHeartbeats 1000000

theorem relImage (rs : List Int) (s : Int) (w : World) (hr : Smalls rs) (hs : Small s) :
    Calls Try.prog 42 #[relV rs, .int .i64 s] w fun e w' => e = .returned (.int .i64 (img rs s)) ∧ Below w.heap.size w w' := by
  have h7 := hr.1
  obtain ⟨cs, hcs⟩ : ∃ cs, ints rs = cs := ⟨_, rfl⟩
  unfold relV
  rw [hcs]
  go_enter Try.func42, Try.ntmps42
  subst hcs
  have HR := rangeR_new w (ints rs) 80
  go_wp2_with (refine wpList_loadRel rfl (.tmp 2) rfl w.heap.size 0 rs rfl h7 HR ?_)
  have B0 : Below w.heap.size w (w.alloc (.cells (ints rs).toArray 80)) := by go_grown
  go_loopw [5, 9] (fun n i wr => ∃ k : Nat, k ≤ 7 ∧ i = .int .i64 k ∧ n = .int .i64 (imgK rs s k) ∧ Below w.heap.size w wr) (fun _ i _ => 7 - (intOf i).toNat)
  case atStart => exact ⟨0, by omega, rfl, rfl, B0⟩
  case round =>
    obtain ⟨k, hk, rfl, rfl, hb⟩ := hrel
    by_cases hlt : k < 7
    · have hlt' : (k : Int) < 7 := by omega
      have hbt := bit_and k hs
      have HI : Hid (imgK rs s (k + 1) = if bit s k = true then lor (imgK rs s k) (rs.getD k 0) else imgK rs s k) := by exact rfl
      clear HR B0
      obtain ⟨y, hy⟩ : ∃ y, rs.getD k 0 = y := ⟨_, rfl⟩
      rw [hy] at HI
      have HY : Hid _ := hy
      clear hy
      generalize imgK rs s k = z at *
      by_cases hbit : bit s k = true
      · rw [if_pos hbit] at hbt
        have HI2 := HI.out
        rw [if_pos hbit] at HI2
        have HI3 : Hid _ := HI2
        clear HI HI2
        go_wp2_with (refine wpList_indexRel rfl (.tmp 8) (.tmp 9) rfl rs k rfl rfl h7 hlt y HY.out ?_)
        go_roundw
        case rel => exact ⟨k + 1, by omega, by go_num, by rw [HI3.out]; rfl, hb⟩
        case measure => simp [intOf]; omega
      · rw [if_neg hbit] at hbt
        have HI2 := HI.out
        rw [if_neg hbit] at HI2
        have HI3 : Hid _ := HI2
        clear HI HI2
        go_wp2_with (refine wpList_indexRel rfl (.tmp 8) (.tmp 9) rfl rs k rfl rfl h7 hlt y HY.out ?_)
        go_roundw
        case rel => exact ⟨k + 1, by omega, by go_num, by rw [HI3.out], hb⟩
        case measure => simp [intOf]; omega
    · have hkk : k = 7 := by omega
      subst hkk
      go_wp2
      go_ret
      exact ⟨rfl, hb⟩

theorem heap_setCells7 (b : Nat) (t : TypeId) : ∀ (vs : List Value) (o : Nat) (w : World) (C : Array Value), w.heap[b]? = some (.cells C t (0, 0)) → ∃ C' : Array Value, (w.setCells b o vs).heap[b]? = some (.cells C' t (0, 0)) ∧ C'.size = C.size
  | [], o, w, C, h => ⟨C, h, rfl⟩
  | v :: r, o, w, C, h => by
    rw [World.setCells]
    obtain ⟨C', h1, h2⟩ := heap_setCells7 b t r (o + 1) _ _ (heap_setCell_same w b o C t v h)
    exact ⟨C', h1, by simpa using h2⟩

theorem RelAt.store {w : World} {B : Nat} {xs zs : List Int} (h : RelAt w B xs) (hl : zs.length = xs.length) : RelAt (w.setCells B 0 (ints zs)) B zs := by
  obtain ⟨C, hC, hs⟩ := heap_setCells7 B 80 (ints zs) 0 w _ h
  have hr := World.rangeAt_setCells_same w B 0 (ints zs) (by rw [ints_length, hl]; exact h.there)
  rw [RelAt, hC]
  congr 2
  refine Array.ext' ?_
  have hs' : C.size = xs.length := by rw [hs, List.size_toArray, ints_length]
  refine List.ext_getElem (by rw [Array.length_toList, hs', List.toList_toArray, ints_length, hl]) (fun j h1 h2 => ?_)
  have h3 := hr j (ints zs)[j] (by simp)
  rw [Nat.zero_add, cell_of_row _ B j C _ (0, 0) hC] at h3
  have h4 : C[j]? = some C[j] := Array.getElem?_eq_getElem (by simpa using h1)
  rw [h4] at h3
  simpa using h3

theorem zeros7 : (#[.int .i64 0, .int .i64 0, .int .i64 0, .int .i64 0, .int .i64 0, .int .i64 0, .int .i64 0] : Array Value) = (ints (List.replicate 7 0)).toArray := rfl

theorem grown_setCell7 (w : World) (b o : Nat) (v : Value) : w.grownBy (w.setCell ⟨b, o, none⟩ v) (some b) :=
  ⟨rfl, rfl, rfl, by simp [World.setCell], fun k _ hk => Below.heap_setCell w ⟨b, o, none⟩ v k (fun e => hk (by rw [e]))⟩

theorem grown_setCells7 (b : Nat) : ∀ (vs : List Value) (o : Nat) (w : World), w.grownBy (w.setCells b o vs) (some b)
  | [], _, w => World.grownBy.refl _ _
  | v :: r, o, w => by
    rw [World.setCells]
    exact grown_trans (grown_setCell7 w b o v) (grown_setCells7 b r (o + 1) _)

theorem reads_range {w : World} {v : Value} {xs : List Int} (h : Reads w v (ints xs)) (h7 : xs.length = 7) : ∃ g off cap, v = .slice (some ⟨g, off, none⟩) 7 cap ∧ w.rangeAt g off (ints xs) := by
  obtain ⟨ao, cap, rfl, hc⟩ := h
  obtain ⟨g, off, rfl, _⟩ := hc 0 (.int .i64 (xs.getD 0 0)) (by simp [ints, List.getD, h7])
  refine ⟨g, off, cap, by rw [ints_length, h7], fun j x hx => ?_⟩
  obtain ⟨g', off', e, h⟩ := hc j x hx
  simp at e
  obtain ⟨rfl, rfl⟩ := e
  exact h

theorem range_below {w w' : World} {g off : Nat} {cs : List Value} (h : w.rangeAt g off cs) (hb : Below w.heap.size w w') : w'.rangeAt g off cs := fun j x hx => by
  have := h j x hx
  exact (hb.cell (World.block_lt_of_cell? w _ this)).trans this

end Go.Proofs.Ytciccbbgamklbaa

/-
  A region that draws its order, by an invariant over the set of the operations that have run: one proof an operation, whatever the order.
-/
namespace Go.Proofs.Ytciccbbgamklbaa
open Go.RowKit

section
variable {P : Program} {ops : Array Oper} {Q : Exit → Act → World → Prop}

theorem wp_then {o : Oper} {a : Act} {w : World} {K : Act → World → Prop} (h : o.wp P a w K (Exit.then K Q)) : o.wp P a w K Q := by
  unfold Oper.wp at *
  generalize (execOp a.eval o).run P w = r at *
  cases r with
  | ok n w' =>
    cases n <;> simp only [Oper.upon] at h ⊢ <;>
      first
        | exact h
        | exact Calls.mono h (fun e w'' he => by cases e <;> exact he)
  | halt x w' => cases x <;> simp only [Oper.upon] at h ⊢ <;> exact h

theorem wp_then_mk {o : Oper} {a : Act} {w : World} {K : Act → World → Prop} (h : o.wp P a w K Q) : o.wp P a w K (Exit.then K Q) := by
  unfold Oper.wp at *
  generalize (execOp a.eval o).run P w = r at *
  cases r with
  | ok n w' =>
    cases n <;> simp only [Oper.upon] at h ⊢ <;>
      first
        | exact h
        | exact Calls.mono h (fun e w'' he => by cases e <;> exact he)
  | halt x w' => cases x <;> simp only [Oper.upon] at h ⊢ <;> exact h

theorem wpOp_of_list {i : Nat} {o : Oper} {a : Act} {w : World} {K : Act → World → Prop} (ho : ops[i]? = some o) (h : wpList P ops (Exit.then K Q) [o] a w) : wpOp P ops Q i K a w := by
  unfold wpOp
  rw [ho]
  simp only
  unfold wpList at h
  split
  · rename_i hw
    rw [if_pos hw] at h
    rcases h with h | ⟨h1, h2⟩
    · exact .inl (wp_then h)
    · exact .inr ⟨h1, h2⟩
  · rename_i hw
    rw [if_neg hw] at h
    exact h

theorem wpList_mono_then {o : Oper} {a : Act} {w : World} {K K' : Act → World → Prop} (hk : ∀ a w, K a w → K' a w) (h : wpList P ops (Exit.then K Q) [o] a w) : wpList P ops (Exit.then K' Q) [o] a w := by
  unfold wpList at h ⊢
  split
  · rename_i hw
    rw [if_pos hw] at h
    rcases h with h | ⟨h1, h2⟩
    · refine .inl ?_
      have h3 : o.wp P a w K' Q := Oper.wp_mono hk (wp_then h)
      exact wp_then_mk h3
    · exact .inr ⟨h1, h2⟩
  · rename_i hw
    rw [if_neg hw] at h
    exact hk _ _ h

theorem count_set : ∀ (l : List Bool) (i : Nat), l[i]? = some false → (l.set i true).count false + 1 = l.count false
  | [], i, h => by simp at h
  | b :: l, 0, h => by simp at h; subst h; simp
  | b :: l, i + 1, h => by
    have := count_set l i (by simpa using h)
    cases b <;> simp [List.set_cons_succ] <;> omega

/-- Each operation waits only on operations ahead of it. -/
def lowB (ops : Array Oper) : Bool := (List.range ops.size).all fun i => ((ops[i]?).map (fun o => o.after.all fun e => !Region.binds .any e || decide (e.on < i))).getD true

theorem ready_some (hlow : lowB ops = true) {listed : Array Bool} (hs : listed.size = ops.size) {i : Nat} (hi : i < ops.size) (hl : listed.getD i false = false) :
    Region.ready .any ops listed ≠ [] := by
  induction i using Nat.strongRecOn with
  | ind i ih =>
    intro hnil
    have hg : listed.getD i true = false := by
      rw [Array.getD_eq_getD_getElem?] at *
      rw [Array.getElem?_eq_getElem (by omega)] at *
      simpa using hl
    have hlow1 := List.all_eq_true.1 hlow i (by simpa using hi)
    rw [Array.getElem?_eq_getElem hi] at hlow1
    simp only [Option.map_some, Option.getD_some] at hlow1
    have hmem : i ∈ Region.ready .any ops listed := by
      unfold Region.ready
      rw [List.mem_filter]
      refine ⟨by simpa using hi, ?_⟩
      rw [hg, Array.getElem?_eq_getElem hi]
      simp only [Bool.not_false, Bool.true_and, Option.map_some, Option.getD_some]
      rw [Array.all_eq_true] at hlow1 ⊢
      intro k hk
      have h1 := hlow1 k hk
      cases hb : Region.binds .any ops[i].after[k] with
      | false => simp
      | true =>
        rw [hb] at h1
        simp only [Bool.not_true, Bool.false_or, decide_eq_true_eq] at h1
        cases hd : listed.getD ops[i].after[k].on false with
        | true => simp
        | false => exact absurd hnil (ih _ h1 (by omega) hd)
    rw [hnil] at hmem
    cases hmem

theorem wp_region_inv {id : Nat} {a : Act} {w : World} (hm : P.follows .mixedOrders = true) (hlow : lowB ops = true) (I : (Nat → Bool) → Act → World → Prop) (h0 : I (fun _ => false) a w.drew)
    (hstep : ∀ (l : Nat → Bool) (i : Nat) (o : Oper) (a : Act) (w : World), ops[i]? = some o → I l a w → l i = false → (o.after.all fun e => !Region.binds .any e || l e.on) = true →
      wpList P ops (Exit.then (fun a' w' => I (fun j => j == i || l j) a' w') Q) [o] a w)
    (hend : ∀ (l : Nat → Bool) (a : Act) (w : World), I l a w → (∀ i, i < ops.size → l i = true) → Q .normal a w) : (Code.region id ops true).wp P Q a w := by
  refine wp_region_any hm ?_
  have key : ∀ (fuel : Nat) (listed : Array Bool) (a : Act) (w : World), listed.size = ops.size → listed.toList.count false ≤ fuel → I (fun j => listed.getD j false) a w → wpAny P .any ops Q fuel listed a w := by
    intro fuel
    have fin : ∀ (listed : Array Bool) (a : Act) (w : World), listed.size = ops.size → I (fun j => listed.getD j false) a w → Region.ready .any ops listed = [] → Q .normal a w := by
      intro listed a w hs hI hnil
      refine hend _ a w hI (fun i hi => ?_)
      cases hd : listed.getD i false with
      | true => rfl
      | false => exact absurd hnil (ready_some hlow hs hi hd)
    induction fuel with
    | zero =>
      intro listed a w hs hc hI
      have hnil : Region.ready .any ops listed = [] := by
        unfold Region.ready
        rw [List.filter_eq_nil_iff]
        intro i hi
        have hi' : i < listed.size := by rw [hs]; simpa using hi
        have hne : listed[i] = true := by
          cases hb : listed[i] with
          | true => rfl
          | false =>
            have hmem : false ∈ listed.toList := by
              rw [← hb]
              exact Array.getElem_mem_toList hi'
            have := List.count_pos_iff.2 hmem
            omega
        rw [Array.getD_eq_getD_getElem?, Array.getElem?_eq_getElem hi', hne]
        simp
      exact ⟨hnil, fin listed a w hs hI hnil⟩
    | succ fuel ih =>
      intro listed a w hs hc hI
      refine ⟨fin listed a w hs hI, fun i hi => ?_⟩
      unfold Region.ready at hi
      rw [List.mem_filter] at hi
      obtain ⟨hir, hc2⟩ := hi
      have hio : i < ops.size := by simpa using hir
      have hil : i < listed.size := by omega
      rw [Array.getElem?_eq_getElem hio] at hc2
      simp only [Bool.and_eq_true, Option.map_some, Option.getD_some] at hc2
      have hf : listed[i] = false := by
        have := hc2.1
        rw [Array.getD_eq_getD_getElem?, Array.getElem?_eq_getElem hil] at this
        simpa using this
      refine wpOp_of_list (Array.getElem?_eq_getElem hio) ?_
      have hst := hstep (fun j => listed.getD j false) i ops[i] a w (Array.getElem?_eq_getElem hio) hI (by rw [Array.getD_eq_getD_getElem?, Array.getElem?_eq_getElem hil, hf]; rfl) hc2.2
      refine wpList_mono_then (fun a' w' hI' => ih _ a' w' (by simpa using hs) ?_ ?_) hst
      · have := count_set listed.toList i (by rw [Array.getElem?_toList, Array.getElem?_eq_getElem hil, hf])
        rw [Array.toList_setIfInBounds]
        omega
      · have e : (fun j => (listed.setIfInBounds i true).getD j false) = fun j => j == i || listed.getD j false := by
          funext j
          rw [Array.getD_eq_getD_getElem?, Array.getElem?_setIfInBounds, Array.getD_eq_getD_getElem?]
          by_cases hj : i = j
          · subst hj
            simp [hil]
          · rw [if_neg hj]
            have : (j == i) = false := by simp; omega
            rw [this, Bool.false_or]
        rw [e]
        exact hI'
  refine key ops.size (Array.replicate ops.size false) a _ (by simp) (by simp) ?_
  have e : (fun j => (Array.replicate ops.size false).getD j false) = fun _ => false := by
    funext j
    rw [Array.getD_eq_getD_getElem?, Array.getElem?_replicate]
    split <;> rfl
  rw [e]
  exact h0

end
end Go.Proofs.Ytciccbbgamklbaa

/-
  Chapter 6, the program's side: Image, ofTwo, Compose, Join, Within, Unit.
-/
namespace Go.Proofs.Ytciccbbgamklbaa
open Go.RowKit
set_option linter.unusedVariables false
set_option maxHeartbeats 1000000

theorem wpList_arrayAt {ops : Array Oper} {rest : List Oper} {op : Oper} {a : Act} {w : World} {Q : Exit → Act → World → Prop} (hgd : op.guard = none) (x : Operand) (ho : op.op = .sliceToArrayPointer 80 x)
    (g off cap : Nat) (hx : a.eval x = .slice (some ⟨g, off, none⟩) 7 cap)
    (h : wpList Try.prog ops Q rest (a.put op.dst (.pointer (some ⟨g, off, none⟩))) w) : wpList Try.prog ops Q (op :: rest) a w := by
  refine wpList_plain hgd fun K hK => ?_
  unfold Oper.wp execOp
  simp only [ho, hx, Sem.run_bind, run_arrayAt w 80 2 7 (some ⟨g, off, none⟩) 7 cap relUnd (by omega), Result.andThen_ok]
  exact hK _ _ h

theorem lor_comm {a b : Int} (ha : Small a) (hb : Small b) : lor a b = lor b a :=
  bit_ext (lor_small ha hb) (lor_small hb ha) (fun t _ => by rw [bit_lor ha hb, bit_lor hb ha, Bool.or_comm])

theorem joi_comm {xs ys : List Int} (hx : Smalls xs) (hy : Smalls ys) : joi xs ys = joi ys xs := by
  refine list7 (by simp [joi, hx.1, hy.1]) (by simp [joi, hx.1, hy.1]) (fun j hj => ?_)
  have h1 : (joi xs ys).getD j 0 = lor (xs.getD j 0) (ys.getD j 0) := by simp [joi, List.getD, hx.1, hy.1, hj]
  have h2 : (joi ys xs).getD j 0 = lor (ys.getD j 0) (xs.getD j 0) := by simp [joi, List.getD, hx.1, hy.1, hj]
  rw [h1, h2, lor_comm (hx.getD j) (hy.getD j)]


/-- What ofTwo's region has, operation by operation. -/
def OFct (va vb : Value) (g off g' off' f : Nat) (xs ys zs : List Int) (base : Nat) (l : Nat → Bool) (x7 x16 x17 x18 x19 x20 x21 x22 x23 : Value) (wr : World) : Prop :=
  (l 0 = true → x16 = .func (.func f) #[] #[]) ∧ (l 1 = true → x17 = va) ∧ (l 2 = true → x18 = .pointer (some ⟨g, off, none⟩)) ∧ (l 3 = true → x19 = relV xs) ∧
  (l 4 = true → x20 = vb) ∧ (l 5 = true → x21 = .pointer (some ⟨g', off', none⟩)) ∧ (l 6 = true → x22 = relV ys) ∧ (l 7 = true → x23 = relV zs) ∧
  (l 8 = true → ∃ B, x7 = .pointer (some ⟨B, 0, none⟩) ∧ base ≤ B ∧ ∃ L : List Int, L.length = 7 ∧ RelAt wr B L ∧ (l 9 = true → L = zs)) ∧ (l 9 = true → l 8 = true)

/-- The invariant of that region. -/
def OInv (va vb vf : Value) (g off g' off' f : Nat) (xs ys zs : List Int) (w : World) (l : Nat → Bool) (a : Act) (wr : World) : Prop :=
  ∃ y3 y4 y5 y6 y8 y9 y10 y11 y12 y13 y14 y15 y24 x7 x16 x17 x18 x19 x20 x21 x22 x23 : Value,
    a = { tmps := List.toArray (va :: vb :: vf :: y3 :: y4 :: y5 :: y6 :: x7 :: y8 :: y9 :: y10 :: y11 :: y12 :: y13 :: y14 :: y15 :: x16 :: x17 :: x18 :: x19 :: x20 :: x21 :: x22 :: x23 :: y24 :: []), defers := [] } ∧
    Below w.heap.size w wr ∧ OFct va vb g off g' off' f xs ys zs w.heap.size l x7 x16 x17 x18 x19 x20 x21 x22 x23 wr

theorem implUnit (w : World) : Calls Try.prog 65 #[] w fun e w' => ∃ a, e = .returned a ∧ w'.ownsRow w.heap.size 80 1 a unitL.length (ints unitL) ∧ Below w.heap.size w w' := by
  have hb0 : Below w.heap.size w (w.alloc (.cells (ints (List.replicate 7 0)).toArray 80)) := by go_grown
  have B0 : RelAt (w.alloc (.cells (ints (List.replicate 7 0)).toArray 80)) w.heap.size (List.replicate 7 0) := heap_alloc_new w _
  go_enter Try.func65, Try.ntmps65
  go_wp2
  rw [zeros7]
  go_loopw [3] (fun i wr => ∃ (k : Nat), k ≤ 7 ∧ i = .int .i64 k ∧ RelAt wr w.heap.size (unitL.take k ++ List.replicate (7 - k) 0) ∧ Below w.heap.size w wr) (fun i _ => 7 - (intOf i).toNat)
  case atStart => exact ⟨0, by omega, rfl, B0, hb0⟩
  case round =>
    obtain ⟨k, hk, rfl, b0, hb⟩ := hrel
    clear B0 hb0
    by_cases hlt : k < 7
    · have hlt' : (k : Int) < 7 := by omega
      have hpl : (unitL.take k ++ List.replicate (7 - k) (0 : Int)).length = 7 := by simp [unitL]; omega
      obtain ⟨c0, f0⟩ := b0.cell k (by omega)
      have hset : ∀ x, x = (2 : Int) ^ k → (unitL.take k ++ List.replicate (7 - k) (0 : Int)).set k x = unitL.take (k + 1) ++ List.replicate (7 - (k + 1)) 0 := by
        rintro x rfl
        have hc : k = 0 ∨ k = 1 ∨ k = 2 ∨ k = 3 ∨ k = 4 ∨ k = 5 ∨ k = 6 := by omega
        rcases hc with rfl | rfl | rfl | rfl | rfl | rfl | rfl <;> rfl
      have hpow : (1 : Int) * 2 ^ k ≤ 64 ∧ (1 : Int) ≤ 2 ^ k := by
        have hc : k = 0 ∨ k = 1 ∨ k = 2 ∨ k = 3 ∨ k = 4 ∨ k = 5 ∨ k = 6 := by omega
        rcases hc with rfl | rfl | rfl | rfl | rfl | rfl | rfl <;> decide
      have HS : Hid _ := hset
      have H0 : Hid _ := b0
      clear hset b0
      go_wp2
      go_roundw
      case rel =>
        refine ⟨k + 1, by omega, by go_num, ?_, hb.setCell (Nat.le_refl _) _⟩
        rw [← HS.out _ rfl]
        exact RelAt.set H0.out k (2 ^ k)
      case measure => simp [intOf]; omega
    · have hkk : k = 7 := by omega
      subst hkk
      have hR : RelAt wr w.heap.size unitL := b0
      have HR : Hid _ := hR
      clear hR b0
      go_wp2
      go_ret
      exact ⟨_, rfl, RelAt.own HR.out (Nat.le_refl _) rfl, hb⟩

/-- What Within's region has, operation by operation. -/
def WFct (va vb : Value) (g off g' off' : Nat) (xs ys : List Int) (l : Nat → Bool) (x13 x14 x15 x16 x17 x18 x19 x20 x21 x22 x23 x4 : Value) : Prop :=
  (l 0 = true → x13 = vb) ∧ (l 1 = true → x14 = .pointer (some ⟨g', off', none⟩)) ∧ (l 2 = true → x15 = relV ys) ∧ (l 3 = true → x16 = va) ∧ (l 4 = true → x17 = .pointer (some ⟨g, off, none⟩)) ∧ (l 5 = true → x18 = relV xs) ∧ (l 6 = true → x19 = relV (joi ys xs)) ∧ (l 7 = true → x20 = vb) ∧ (l 8 = true → x21 = .pointer (some ⟨g', off', none⟩)) ∧ (l 9 = true → x22 = relV ys) ∧ (l 10 = true → x23 = .bool (decide (joi ys xs = ys))) ∧ (l 11 = true → x4 = .bool (decide (joi ys xs = ys)))

/-- The invariant of that region. -/
def WInv (va vb : Value) (g off g' off' : Nat) (xs ys : List Int) (w : World) (l : Nat → Bool) (a : Act) (wr : World) : Prop :=
  ∃ y2 y3 y5 y6 y7 y8 y9 y10 y11 y12 x13 x14 x15 x16 x17 x18 x19 x20 x21 x22 x23 x4 : Value,
    a = { tmps := List.toArray (va :: vb :: y2 :: y3 :: x4 :: y5 :: y6 :: y7 :: y8 :: y9 :: y10 :: y11 :: y12 :: x13 :: x14 :: x15 :: x16 :: x17 :: x18 :: x19 :: x20 :: x21 :: x22 :: x23 :: []), defers := [] } ∧
    Below w.heap.size w wr ∧ WFct va vb g off g' off' xs ys l x13 x14 x15 x16 x17 x18 x19 x20 x21 x22 x23 x4


end Go.Proofs.Ytciccbbgamklbaa

/-
  Chapter 7, mathematics and the program's helpers: what makes the fact of a variable; the facts of a set alone.
-/
namespace Go.Proofs.Ytciccbbgamklbaa
open Go.RowKit
set_option linter.unusedVariables false
set_option maxHeartbeats 1000000

/-- The facts of a that are not in b. -/
def cut (a b : Int) : Int := bits .andNot .i64 a b

/-- What a fact makes then: made alone of those in m. -/
def mkAt (r made m : Int) (j : Nat) : Int := if bit m j = true then lor (cut r made) made else cut r made

def mkL (rs : List Int) (made m : Int) : List Int := (List.range 7).map (fun j => mkAt (rs.getD j 0) made m j)

theorem mkL_length (rs : List Int) (made m : Int) : (mkL rs made m).length = 7 := by simp [mkL]

theorem mkL_getD (rs : List Int) (made m : Int) (j : Nat) (hj : j < 7) : (mkL rs made m).getD j 0 = mkAt (rs.getD j 0) made m j := by
  simp [mkL, List.getD, hj]

/-- The set of a variable's fact. -/
def factN (x : Nat) : Int := 2 ^ (x + 1)

theorem factOf (x : Nat) (hx : x < 6) (w : World) :
    Calls Try.prog 77 #[.int .i64 (x : Int)] w fun e w' => e = .returned (.int .i64 (factN x)) ∧ w = w' := by
  have hc : x = 0 ∨ x = 1 ∨ x = 2 ∨ x = 3 ∨ x = 4 ∨ x = 5 := by omega
  rcases hc with rfl | rfl | rfl | rfl | rfl | rfl
  all_goals
    go_enter Try.func77, Try.ntmps77
    go_wp2
    go_ret
    exact ⟨rfl, rfl⟩

theorem madeBy (rs : List Int) (x : Nat) (m : Int) (w : World) (h7 : rs.length = 7) (hx : x < 6) (hm : Small m) :
    Calls Try.prog 66 #[relV rs, .int .i64 (x : Int), .int .i64 m] w fun e w' => e = .returned (relV (mkL rs (factN x) m)) ∧ Below w.heap.size w w' := by
  have hfo := fun W => factOf x hx W
  obtain ⟨f, hf⟩ : ∃ f, factN x = f := ⟨_, rfl⟩
  rw [hf] at hfo ⊢
  clear hf
  obtain ⟨zs, hzs⟩ : ∃ zs, mkL rs f m = zs := ⟨_, rfl⟩
  have hz7 : zs.length = 7 := by rw [← hzs]; exact mkL_length _ _ _
  have hzg : ∀ j, j < 7 → zs.getD j 0 = mkAt (rs.getD j 0) f m j := fun j hj => by
    rw [← hzs]; exact mkL_getD _ _ _ j hj
  rw [hzs]
  have HZ : Hid (∀ j, j < 7 → zs.getD j 0 = mkAt (rs.getD j 0) f m j) := hzg
  clear hzs hzg
  obtain ⟨cs, hcs⟩ : ∃ cs, ints rs = cs := ⟨_, rfl⟩
  unfold relV
  rw [hcs]
  go_enter Try.func66, Try.ntmps66
  subst hcs
  have hW : (w.alloc (.cells (ints rs).toArray 80)).heap.size = w.heap.size + 1 := by simp
  have L0 : Below w.heap.size w ((w.alloc (.cells (ints rs).toArray 80)).alloc (.cells (ints (List.replicate 7 0)).toArray 80)) := by go_grown
  have B0 : RelAt ((w.alloc (.cells (ints rs).toArray 80)).alloc (.cells (ints (List.replicate 7 0)).toArray 80)) w.heap.size rs := by
    rw [RelAt, old_block (by simp)]; exact heap_alloc_new w _
  have B2 : RelAt ((w.alloc (.cells (ints rs).toArray 80)).alloc (.cells (ints (List.replicate 7 0)).toArray 80)) (w.heap.size + 1) (List.replicate 7 0) := by
    have := heap_alloc_new (w.alloc (.cells (ints rs).toArray 80)) (.cells (ints (List.replicate 7 0)).toArray 80)
    rw [hW] at this
    exact this
  go_wp2_with fail
  go_at_call 77
  refine (hfo _).mono ?_
  rintro e w1 ⟨rfl, rfl⟩
  clear hfo
  rw [zeros7]
  generalize (w.alloc (.cells (ints rs).toArray 80)).alloc (.cells (ints (List.replicate 7 0)).toArray 80) = W1 at B0 B2 L0 ⊢
  clear hW
  go_wp2_with fail
  go_loopw [11] (fun i wr => ∃ (k : Nat) (L : List Int), k ≤ 7 ∧ i = .int .i64 k ∧ L.length = 7 ∧ (∀ j, j < 7 → L.getD j 0 = if j < k then mkAt (rs.getD j 0) f m j else rs.getD j 0) ∧
      RelAt wr w.heap.size L ∧ RelAt wr (w.heap.size + 1) (List.replicate 7 0) ∧ Below w.heap.size w wr) (fun i _ => 7 - (intOf i).toNat)
  case atStart => exact ⟨0, rs, by omega, rfl, h7, fun j _ => by simp, B0, B2, L0⟩
  case round =>
    obtain ⟨k, L, hk, rfl, hL, hLg, b0, b2, hb⟩ := hrel
    clear B0 B2 L0
    by_cases hlt : k < 7
    · have hlt' : (k : Int) < 7 := by omega
      obtain ⟨c0, f0⟩ := b0.cell k (by omega)
      have e0 : L.getD k 0 = rs.getD k 0 := by
        have := hLg k hlt
        rw [if_neg (by omega)] at this
        exact this
      rw [e0] at c0
      have H0 : Hid (RelAt wr w.heap.size L) := b0
      have H2 : Hid (RelAt wr (w.heap.size + 1) (List.replicate 7 0)) := b2
      have HL : Hid (∀ j, j < 7 → L.getD j 0 = if j < k then mkAt (rs.getD j 0) f m j else rs.getD j 0) := hLg
      clear b0 b2 hLg e0
      obtain ⟨x, hx⟩ : ∃ x, rs.getD k 0 = x := ⟨_, rfl⟩
      have HX : Hid (rs.getD k 0 = x) := hx
      rw [hx] at c0
      clear hx
      have hbt := bit_and k hm
      have HG : Hid (∀ (z : Int), z = mkAt x f m k → ∀ j, j < 7 → (L.set k z).getD j 0 = if j < k + 1 then mkAt (rs.getD j 0) f m j else rs.getD j 0) := by
        intro z hz j hj
        by_cases hjk : j = k
        · subst hjk
          rw [if_pos (by omega), HX.out, hz]
          simp [List.getD, hL, hj]
        · have := HL.out j hj
          have e : (L.set k z).getD j 0 = L.getD j 0 := by simp [List.getD, List.getElem?_set_ne (fun e => hjk e.symm)]
          rw [e, this]
          by_cases hjk2 : j < k
          · rw [if_pos hjk2, if_pos (by omega)]
          · rw [if_neg hjk2, if_neg (by omega)]
      have hk1 : ∀ (W : World) (v : Value), RelAt W (w.heap.size + 1) (List.replicate 7 0) → RelAt (W.setCell ⟨w.heap.size, k, none⟩ v) (w.heap.size + 1) (List.replicate 7 0) := fun W v h =>
        ((grown_setCell7 W w.heap.size k v).block _ h.lt (by simp)).trans h
      have HK : Hid _ := hk1
      clear hk1
      by_cases hbit : bit m k = true
      · rw [if_pos hbit] at hbt
        have hmk : mkAt x f m k = bits .or .i64 (bits .andNot .i64 x f) f := by rw [mkAt, if_pos hbit]; rfl
        have HM : Hid _ := hmk
        clear hmk
        go_wp2
        go_roundw
        case rel =>
          refine ⟨k + 1, _, by omega, by go_num, ?_, ?_, (H0.out.set k _).set k _, HK.out _ _ (HK.out _ _ H2.out), (hb.setCell (Nat.le_refl _) _).setCell (Nat.le_refl _) _⟩
          · simpa using hL
          · rw [List.set_set]; exact HG.out _ HM.out.symm
        case measure => simp [intOf]; omega
      · rw [if_neg hbit] at hbt
        have hmk : mkAt x f m k = bits .andNot .i64 x f := by rw [mkAt, if_neg hbit]; rfl
        have HM : Hid _ := hmk
        clear hmk
        go_wp2
        go_roundw
        case rel =>
          refine ⟨k + 1, _, by omega, by go_num, ?_, ?_, (H0.out.set k _), (HK.out _ _ H2.out), (hb.setCell (Nat.le_refl _) _)⟩
          · simpa using hL
          · exact HG.out _ HM.out.symm
        case measure => simp [intOf]; omega
    · have hkk : k = 7 := by omega
      subst hkk
      have hLd : L = zs := list7 hL hz7 (fun j hj => by rw [hLg j hj, if_pos hj, HZ.out j hj])
      subst hLd
      have H0 : Hid (RelAt wr w.heap.size L) := b0
      have h7t : wr.there (w.heap.size + 1) 0 7 := by simpa using b2.there
      have HT : Hid _ := h7t
      clear b0 b2 hLg HZ h7t
      go_wp2_with (first | refine wpList_loadRel rfl (.tmp 3) rfl w.heap.size 0 L rfl hL H0.out.range ?_ | refine wpList_storeRel rfl rfl (.tmp 6) (.tmp 32) rfl (w.heap.size + 1) 0 L rfl rfl hL HT.out ?_)
      refine bodyPost_cellR rfl (w.heap.size + 1) 0 (ints L) _ rfl (World.rangeAt_setCells_same _ _ _ _ (by rw [ints_length, hL]; exact HT.out)) relUnd rfl (by rw [relInfo]; simp [ints, hL]) rfl ⟨rfl, ?_⟩
      exact hb.grown (grown_setCells7 _ _ _ _) (by have := hb.size; omega) (fun k hk => by simp at hk; omega)

/-- The facts of a set alone, each by itself. -/
def onlyL (s : Int) : List Int := unitL.map (fun x => bits .and .i64 x s)

theorem onlyL_length (s : Int) : (onlyL s).length = 7 := rfl

theorem onlyL_getD (s : Int) (j : Nat) (hj : j < 7) : (onlyL s).getD j 0 = bits .and .i64 (unitL.getD j 0) s := by
  have hu : unitL.length = 7 := rfl
  simp [onlyL, List.getD, hu, hj]

end Go.Proofs.Ytciccbbgamklbaa

/-
  Chapter 7, the program's side: Enter, Leave, Keep, Start, Flow.
-/
namespace Go.Proofs.Ytciccbbgamklbaa
set_option maxRecDepth 20000
open Go.RowKit
set_option linter.unusedVariables false
set_option maxHeartbeats 1000000

def leaveL : List Int := [1, 2, 4, 8, 0, 0, 0]
def keepL : List Int := [1, 0, 0, 0, 16, 32, 64]
def enterAns (c : Int) : List Int := if c = 1 then leaveL else if c = 2 then [113, 2, 4, 8, 0, 0, 0] else []
def startAns (c : Int) : Int := if c = 1 then 1 else if c = 2 then 127 else -1

theorem only15 : onlyL 15 = leaveL := by decide
theorem only113 : onlyL 113 = keepL := by decide

/-- Seven cells that are new, and what is stored there. -/
abbrev fresh7 (w : World) : World := w.alloc (.cells #[.int .i64 0, .int .i64 0, .int .i64 0, .int .i64 0, .int .i64 0, .int .i64 0, .int .i64 0] 80)

theorem fresh_at (w : World) : RelAt (fresh7 w) w.heap.size (List.replicate 7 0) := heap_alloc_new w _

theorem fresh_there (w : World) : (fresh7 w).there w.heap.size 0 7 := by simpa using (fresh_at w).there

theorem fresh_rel (w : World) (zs : List Int) (h : zs.length = 7) : RelAt ((fresh7 w).setCells w.heap.size 0 (ints zs)) w.heap.size zs := RelAt.store (fresh_at w) (by simpa using h)

theorem fresh_below {base : Nat} {w0 w : World} (hb : Below base w0 w) (h : base ≤ w.heap.size) (vs : List Value) : Below base w0 ((fresh7 w).setCells w.heap.size 0 vs) := by
  have h1 : Below base w0 (fresh7 w) := hb.alloc h _
  exact h1.grown (grown_setCells7 _ _ _ _) (by simp; omega) (fun k hk => by simp at hk; omega)

/-- A client's flows, as a value. -/
def flowsV (m : Nat) : Value := .agg #[.func (.func 70) #[] #[], .func (.func 71) #[] #[], .func (.func 72) #[] #[], .func (.func m) #[] #[]]

theorem flowsOf1 (w : World) : Calls Try.prog 52 #[.int .i64 1] w fun e w' => e = .returned (.tuple #[flowsV 73, .bool true]) ∧ Below w.heap.size w w' := by
  go_enter Try.func52, Try.ntmps52
  go_wp2
  go_returns
  exact ⟨rfl, by go_grown⟩

theorem flowsOf2 (w : World) : Calls Try.prog 52 #[.int .i64 2] w fun e w' => e = .returned (.tuple #[flowsV 72, .bool true]) ∧ Below w.heap.size w w' := by
  go_enter Try.func52, Try.ntmps52
  go_wp2
  go_returns
  exact ⟨rfl, by go_grown⟩

theorem flowsOfNo (c : Int) (h1 : ¬ c = 1) (h2 : ¬ c = 2) (w : World) : Calls Try.prog 52 #[.int .i64 c] w fun e w' => e = .returned (.tuple #[.agg #[.nilFunc, .nilFunc, .nilFunc, .nilFunc], .bool false]) ∧ Below w.heap.size w w' := by
  go_enter Try.func52, Try.ntmps52
  go_wp2
  go_returns
  exact ⟨rfl, by go_grown⟩

theorem factOfY (k x : Int) (y : Nat) (hy : y < 6) (w : World) : Calls Try.prog 70 #[.agg #[.int .i64 k, .int .i64 x, .int .i64 y]] w fun e w' => e = .returned (.int .i64 (factN y)) ∧ Below w.heap.size w w' := by
  have hf := fun W => factOf y hy W
  go_enter Try.func70, Try.ntmps70
  go_wp2_with fail
  go_at_call 77
  refine (hf _).mono ?_
  rintro e w1 ⟨rfl, rfl⟩
  go_wp2
  go_ret
  exact ⟨rfl, by go_grown⟩

theorem factsOfXAndY (k : Int) (x y : Nat) (hx : x < 6) (hy : y < 6) (w : World) : Calls Try.prog 71 #[.agg #[.int .i64 k, .int .i64 x, .int .i64 y]] w fun e w' => e = .returned (.int .i64 (lor (factN x) (factN y))) ∧ Below w.heap.size w w' := by
  have hf := fun W => factOf x hx W
  have hg := fun W => factOf y hy W
  go_enter Try.func71, Try.ntmps71
  go_wp2_with fail
  go_region_with (first
    | (go_at_call 77; refine (hf _).mono ?_; rintro e w1 ⟨rfl, rfl⟩)
    | (go_at_call 77; refine (hg _).mono ?_; rintro e w1 ⟨rfl, rfl⟩))
  all_goals
    go_wp2
    go_ret
    exact ⟨rfl, by go_grown⟩

theorem noFact (k x y : Int) (w : World) : Calls Try.prog 72 #[.agg #[.int .i64 k, .int .i64 x, .int .i64 y]] w fun e w' => e = .returned (.int .i64 0) ∧ Below w.heap.size w w' := by
  go_enter Try.func72, Try.ntmps72
  go_wp2
  go_ret
  exact ⟨rfl, by go_grown⟩

theorem factThatAlwaysHolds (k x y : Int) (w : World) : Calls Try.prog 73 #[.agg #[.int .i64 k, .int .i64 x, .int .i64 y]] w fun e w' => e = .returned (.int .i64 1) ∧ Below w.heap.size w w' := by
  go_enter Try.func73, Try.ntmps73
  go_wp2
  go_ret
  exact ⟨rfl, by go_grown⟩

end Go.Proofs.Ytciccbbgamklbaa
