/-
  Put together out of: ImplRel, RegionInv.
-/
import Derived.Test.YtebadimjpbhagaaRelA
import Derived.Test.YtebadimjpbhagaaG00IntS
import Derived.Orders
/-
  Chapter 6, the program's side: relation's methods; Image, Compose, Join, Within, Unit.
-/
namespace Go.Proofs.Ytebadimjpbhagaa
open Go.RowKit
set_option linter.unusedVariables false
set_option maxHeartbeats 1000000

theorem relImage (rs : List Int) (s : Int) (w : World) (hr : Smalls rs) (hs : Small s) :
    Calls Try.prog 49 #[relV rs, .int .i64 s] w fun e w' => e = .returned (.int .i64 (img rs s)) ∧ Below w.heap.size w w' := by
  have h7 := hr.1
  obtain ⟨cs, hcs⟩ : ∃ cs, ints rs = cs := ⟨_, rfl⟩
  unfold relV
  rw [hcs]
  go_enter Try.func49, Try.ntmps49
  subst hcs
  have HR := rangeR_new w (ints rs) 81
  go_wp2_with (refine wpList_loadRel rfl (.tmp 2) rfl w.heap.size 0 rs rfl h7 HR ?_)
  have B0 : Below w.heap.size w (w.alloc (.cells (ints rs).toArray 81)) := by go_grown
  go_loopw [5, 9] (fun n i wr => ∃ k : Nat, k ≤ 7 ∧ i = .int .i64 k ∧ n = .int .i64 (imgK rs s k) ∧ Below w.heap.size w wr) (fun _ i _ => 7 - (intOf i).toNat)
  case atStart => exact ⟨0, by omega, rfl, rfl, B0⟩
  case round =>
    obtain ⟨k, hk, rfl, rfl, hb⟩ := hrel
    by_cases hlt : k < 7
    · have hlt' : (k : Int) < 7 := by omega
      have hbt := bit_and k hs
      have HI : Hid (imgK rs s (k + 1) = if bit s k = true then lor (imgK rs s k) (rs.getD k 0) else imgK rs s k) := by exact rfl
      clear HR B0
      obtain ⟨y, hy⟩ : ∃ y, rs.getD k 0 = y := ⟨_, rfl⟩
      rw [hy] at HI
      have HY : Hid _ := hy
      clear hy
      generalize imgK rs s k = z at *
      by_cases hbit : bit s k = true
      · rw [if_pos hbit] at hbt
        have HI2 := HI.out
        rw [if_pos hbit] at HI2
        have HI3 : Hid _ := HI2
        clear HI HI2
        go_wp2_with (refine wpList_indexRel rfl (.tmp 8) (.tmp 9) rfl rs k rfl rfl h7 hlt y HY.out ?_)
        go_roundw
        case rel => exact ⟨k + 1, by omega, by go_num, by rw [HI3.out]; rfl, hb⟩
        case measure => simp [intOf]; omega
      · rw [if_neg hbit] at hbt
        have HI2 := HI.out
        rw [if_neg hbit] at HI2
        have HI3 : Hid _ := HI2
        clear HI HI2
        go_wp2_with (refine wpList_indexRel rfl (.tmp 8) (.tmp 9) rfl rs k rfl rfl h7 hlt y HY.out ?_)
        go_roundw
        case rel => exact ⟨k + 1, by omega, by go_num, by rw [HI3.out], hb⟩
        case measure => simp [intOf]; omega
    · have hkk : k = 7 := by omega
      subst hkk
      go_wp2
      go_ret
      exact ⟨rfl, hb⟩

theorem heap_setCells7 (b : Nat) (t : TypeId) : ∀ (vs : List Value) (o : Nat) (w : World) (C : Array Value), w.heap[b]? = some (.cells C t (0, 0)) → ∃ C' : Array Value, (w.setCells b o vs).heap[b]? = some (.cells C' t (0, 0)) ∧ C'.size = C.size
  | [], o, w, C, h => ⟨C, h, rfl⟩
  | v :: r, o, w, C, h => by
    rw [World.setCells]
    obtain ⟨C', h1, h2⟩ := heap_setCells7 b t r (o + 1) _ _ (heap_setCell_same w b o C t v h)
    exact ⟨C', h1, by simpa using h2⟩

theorem RelAt.store {w : World} {B : Nat} {xs zs : List Int} (h : RelAt w B xs) (hl : zs.length = xs.length) : RelAt (w.setCells B 0 (ints zs)) B zs := by
  obtain ⟨C, hC, hs⟩ := heap_setCells7 B 81 (ints zs) 0 w _ h
  have hr := World.rangeAt_setCells_same w B 0 (ints zs) (by rw [ints_length, hl]; exact h.there)
  rw [RelAt, hC]
  congr 2
  refine Array.ext' ?_
  have hs' : C.size = xs.length := by rw [hs, List.size_toArray, ints_length]
  refine List.ext_getElem (by rw [Array.length_toList, hs', List.toList_toArray, ints_length, hl]) (fun j h1 h2 => ?_)
  have h3 := hr j (ints zs)[j] (by simp)
  rw [Nat.zero_add, cell_of_row _ B j C _ (0, 0) hC] at h3
  have h4 : C[j]? = some C[j] := Array.getElem?_eq_getElem (by simpa using h1)
  rw [h4] at h3
  simpa using h3

theorem zeros7 : (#[.int .i64 0, .int .i64 0, .int .i64 0, .int .i64 0, .int .i64 0, .int .i64 0, .int .i64 0] : Array Value) = (ints (List.replicate 7 0)).toArray := rfl

theorem grown_setCell7 (w : World) (b o : Nat) (v : Value) : w.grownBy (w.setCell ⟨b, o, none⟩ v) (some b) :=
  ⟨rfl, rfl, rfl, by simp [World.setCell], fun k _ hk => Below.heap_setCell w ⟨b, o, none⟩ v k (fun e => hk (by rw [e]))⟩

theorem grown_setCells7 (b : Nat) : ∀ (vs : List Value) (o : Nat) (w : World), w.grownBy (w.setCells b o vs) (some b)
  | [], _, w => World.grownBy.refl _ _
  | v :: r, o, w => by
    rw [World.setCells]
    exact grown_trans (grown_setCell7 w b o v) (grown_setCells7 b r (o + 1) _)

theorem reads_range {w : World} {v : Value} {xs : List Int} (h : Reads w v (ints xs)) (h7 : xs.length = 7) : ∃ g off cap, v = .slice (some ⟨g, off, none⟩) 7 cap ∧ w.rangeAt g off (ints xs) := by
  obtain ⟨ao, cap, rfl, hc⟩ := h
  obtain ⟨g, off, rfl, _⟩ := hc 0 (.int .i64 (xs.getD 0 0)) (by simp [ints, List.getD, h7])
  refine ⟨g, off, cap, by rw [ints_length, h7], fun j x hx => ?_⟩
  obtain ⟨g', off', e, h⟩ := hc j x hx
  simp at e
  obtain ⟨rfl, rfl⟩ := e
  exact h

theorem range_below {w w' : World} {g off : Nat} {cs : List Value} (h : w.rangeAt g off cs) (hb : Below w.heap.size w w') : w'.rangeAt g off cs := fun j x hx => by
  have := h j x hx
  exact (hb.cell (World.block_lt_of_cell? w _ this)).trans this

end Go.Proofs.Ytebadimjpbhagaa

/-
  A region that draws its order, by an invariant over the set of the operations that have run: one proof an operation, whatever the order.
-/
namespace Go.Proofs.Ytebadimjpbhagaa
open Go.RowKit

section
variable {P : Program} {ops : Array Oper} {Q : Exit → Act → World → Prop}

theorem wp_then {o : Oper} {a : Act} {w : World} {K : Act → World → Prop} (h : o.wp P a w K (Exit.then K Q)) : o.wp P a w K Q := by
  unfold Oper.wp at *
  generalize (execOp a.eval o).run P w = r at *
  cases r with
  | ok n w' =>
    cases n <;> simp only [Oper.upon] at h ⊢ <;>
      first
        | exact h
        | exact Calls.mono h (fun e w'' he => by cases e <;> exact he)
  | halt x w' => cases x <;> simp only [Oper.upon] at h ⊢ <;> exact h

theorem wp_then_mk {o : Oper} {a : Act} {w : World} {K : Act → World → Prop} (h : o.wp P a w K Q) : o.wp P a w K (Exit.then K Q) := by
  unfold Oper.wp at *
  generalize (execOp a.eval o).run P w = r at *
  cases r with
  | ok n w' =>
    cases n <;> simp only [Oper.upon] at h ⊢ <;>
      first
        | exact h
        | exact Calls.mono h (fun e w'' he => by cases e <;> exact he)
  | halt x w' => cases x <;> simp only [Oper.upon] at h ⊢ <;> exact h

theorem wpOp_of_list {i : Nat} {o : Oper} {a : Act} {w : World} {K : Act → World → Prop} (ho : ops[i]? = some o) (h : wpList P ops (Exit.then K Q) [o] a w) : wpOp P ops Q i K a w := by
  unfold wpOp
  rw [ho]
  simp only
  unfold wpList at h
  split
  · rename_i hw
    rw [if_pos hw] at h
    rcases h with h | ⟨h1, h2⟩
    · exact .inl (wp_then h)
    · exact .inr ⟨h1, h2⟩
  · rename_i hw
    rw [if_neg hw] at h
    exact h

theorem wpList_mono_then {o : Oper} {a : Act} {w : World} {K K' : Act → World → Prop} (hk : ∀ a w, K a w → K' a w) (h : wpList P ops (Exit.then K Q) [o] a w) : wpList P ops (Exit.then K' Q) [o] a w := by
  unfold wpList at h ⊢
  split
  · rename_i hw
    rw [if_pos hw] at h
    rcases h with h | ⟨h1, h2⟩
    · refine .inl ?_
      have h3 : o.wp P a w K' Q := Oper.wp_mono hk (wp_then h)
      exact wp_then_mk h3
    · exact .inr ⟨h1, h2⟩
  · rename_i hw
    rw [if_neg hw] at h
    exact hk _ _ h

theorem count_set : ∀ (l : List Bool) (i : Nat), l[i]? = some false → (l.set i true).count false + 1 = l.count false
  | [], i, h => by simp at h
  | b :: l, 0, h => by simp at h; subst h; simp
  | b :: l, i + 1, h => by
    have := count_set l i (by simpa using h)
    cases b <;> simp [List.set_cons_succ] <;> omega

/-- Each operation waits only on operations ahead of it. -/
def lowB (ops : Array Oper) : Bool := (List.range ops.size).all fun i => ((ops[i]?).map (fun o => o.after.all fun e => !Region.binds .any e || decide (e.on < i))).getD true

theorem ready_some (hlow : lowB ops = true) {listed : Array Bool} (hs : listed.size = ops.size) {i : Nat} (hi : i < ops.size) (hl : listed.getD i false = false) :
    Region.ready .any ops listed ≠ [] := by
  induction i using Nat.strongRecOn with
  | ind i ih =>
    intro hnil
    have hg : listed.getD i true = false := by
      rw [Array.getD_eq_getD_getElem?] at *
      rw [Array.getElem?_eq_getElem (by omega)] at *
      simpa using hl
    have hlow1 := List.all_eq_true.1 hlow i (by simpa using hi)
    rw [Array.getElem?_eq_getElem hi] at hlow1
    simp only [Option.map_some, Option.getD_some] at hlow1
    have hmem : i ∈ Region.ready .any ops listed := by
      unfold Region.ready
      rw [List.mem_filter]
      refine ⟨by simpa using hi, ?_⟩
      rw [hg, Array.getElem?_eq_getElem hi]
      simp only [Bool.not_false, Bool.true_and, Option.map_some, Option.getD_some]
      rw [Array.all_eq_true] at hlow1 ⊢
      intro k hk
      have h1 := hlow1 k hk
      cases hb : Region.binds .any ops[i].after[k] with
      | false => simp
      | true =>
        rw [hb] at h1
        simp only [Bool.not_true, Bool.false_or, decide_eq_true_eq] at h1
        cases hd : listed.getD ops[i].after[k].on false with
        | true => simp
        | false => exact absurd hnil (ih _ h1 (by omega) hd)
    rw [hnil] at hmem
    cases hmem

theorem wp_region_inv {id : Nat} {a : Act} {w : World} (hm : P.follows .mixedOrders = true) (hlow : lowB ops = true) (I : (Nat → Bool) → Act → World → Prop) (h0 : I (fun _ => false) a w.drew)
    (hstep : ∀ (l : Nat → Bool) (i : Nat) (o : Oper) (a : Act) (w : World), ops[i]? = some o → I l a w → l i = false → (o.after.all fun e => !Region.binds .any e || l e.on) = true →
      wpList P ops (Exit.then (fun a' w' => I (fun j => j == i || l j) a' w') Q) [o] a w)
    (hend : ∀ (l : Nat → Bool) (a : Act) (w : World), I l a w → (∀ i, i < ops.size → l i = true) → Q .normal a w) : (Code.region id ops true).wp P Q a w := by
  refine wp_region_any hm ?_
  have key : ∀ (fuel : Nat) (listed : Array Bool) (a : Act) (w : World), listed.size = ops.size → listed.toList.count false ≤ fuel → I (fun j => listed.getD j false) a w → wpAny P .any ops Q fuel listed a w := by
    intro fuel
    have fin : ∀ (listed : Array Bool) (a : Act) (w : World), listed.size = ops.size → I (fun j => listed.getD j false) a w → Region.ready .any ops listed = [] → Q .normal a w := by
      intro listed a w hs hI hnil
      refine hend _ a w hI (fun i hi => ?_)
      cases hd : listed.getD i false with
      | true => rfl
      | false => exact absurd hnil (ready_some hlow hs hi hd)
    induction fuel with
    | zero =>
      intro listed a w hs hc hI
      have hnil : Region.ready .any ops listed = [] := by
        unfold Region.ready
        rw [List.filter_eq_nil_iff]
        intro i hi
        have hi' : i < listed.size := by rw [hs]; simpa using hi
        have hne : listed[i] = true := by
          cases hb : listed[i] with
          | true => rfl
          | false =>
            have hmem : false ∈ listed.toList := by
              rw [← hb]
              exact Array.getElem_mem_toList hi'
            have := List.count_pos_iff.2 hmem
            omega
        rw [Array.getD_eq_getD_getElem?, Array.getElem?_eq_getElem hi', hne]
        simp
      exact ⟨hnil, fin listed a w hs hI hnil⟩
    | succ fuel ih =>
      intro listed a w hs hc hI
      refine ⟨fin listed a w hs hI, fun i hi => ?_⟩
      unfold Region.ready at hi
      rw [List.mem_filter] at hi
      obtain ⟨hir, hc2⟩ := hi
      have hio : i < ops.size := by simpa using hir
      have hil : i < listed.size := by omega
      rw [Array.getElem?_eq_getElem hio] at hc2
      simp only [Bool.and_eq_true, Option.map_some, Option.getD_some] at hc2
      have hf : listed[i] = false := by
        have := hc2.1
        rw [Array.getD_eq_getD_getElem?, Array.getElem?_eq_getElem hil] at this
        simpa using this
      refine wpOp_of_list (Array.getElem?_eq_getElem hio) ?_
      have hst := hstep (fun j => listed.getD j false) i ops[i] a w (Array.getElem?_eq_getElem hio) hI (by rw [Array.getD_eq_getD_getElem?, Array.getElem?_eq_getElem hil, hf]; rfl) hc2.2
      refine wpList_mono_then (fun a' w' hI' => ih _ a' w' (by simpa using hs) ?_ ?_) hst
      · have := count_set listed.toList i (by rw [Array.getElem?_toList, Array.getElem?_eq_getElem hil, hf])
        rw [Array.toList_setIfInBounds]
        omega
      · have e : (fun j => (listed.setIfInBounds i true).getD j false) = fun j => j == i || listed.getD j false := by
          funext j
          rw [Array.getD_eq_getD_getElem?, Array.getElem?_setIfInBounds, Array.getD_eq_getD_getElem?]
          by_cases hj : i = j
          · subst hj
            simp [hil]
          · rw [if_neg hj]
            have : (j == i) = false := by simp; omega
            rw [this, Bool.false_or]
        rw [e]
        exact hI'
  refine key ops.size (Array.replicate ops.size false) a _ (by simp) (by simp) ?_
  have e : (fun j => (Array.replicate ops.size false).getD j false) = fun _ => false := by
    funext j
    rw [Array.getD_eq_getD_getElem?, Array.getElem?_replicate]
    split <;> rfl
  rw [e]
  exact h0

end
end Go.Proofs.Ytebadimjpbhagaa
