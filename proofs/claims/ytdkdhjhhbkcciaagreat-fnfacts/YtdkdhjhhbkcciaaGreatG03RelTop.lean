/-
 Put together out of: RegionInv, RelTop.
-/
import Derived.Test.YtdkdhjhhbkcciaaGreatG00Put
import Derived.Orders
import Derived.Test.YtdkdhjhhbkcciaaGreatG02ImplRel
namespace Go.Proofs.YtdkdhjhhbkcciaaGreat
open Go.RowKit
section
variable {P : Program} {ops : Array Oper} {Q : Exit → Act → World → Prop}
theorem wp_then {o : Oper} {a : Act} {w : World} {K : Act → World → Prop} (h : o.wp P a w K (Exit.then K Q)) : o.wp P a w K Q := by
 unfold Oper.wp at *
 generalize (execOp a.eval o).run P w = r at *
 cases r with
 | ok n w' =>
  cases n <;> simp only [Oper.upon] at h ⊢ <;>
   first
    | exact h
    | exact Calls.mono h (fun e w'' he => by cases e <;> exact he)
 | halt x w' => cases x <;> simp only [Oper.upon] at h ⊢ <;> exact h
theorem wp_then_mk {o : Oper} {a : Act} {w : World} {K : Act → World → Prop} (h : o.wp P a w K Q) : o.wp P a w K (Exit.then K Q) := by
 unfold Oper.wp at *
 generalize (execOp a.eval o).run P w = r at *
 cases r with
 | ok n w' =>
  cases n <;> simp only [Oper.upon] at h ⊢ <;>
   first
    | exact h
    | exact Calls.mono h (fun e w'' he => by cases e <;> exact he)
 | halt x w' => cases x <;> simp only [Oper.upon] at h ⊢ <;> exact h
theorem wpOp_of_list {i : Nat} {o : Oper} {a : Act} {w : World} {K : Act → World → Prop} (ho : ops[i]? = some o) (h : wpList P ops (Exit.then K Q) [o] a w) : wpOp P ops Q i K a w := by
 unfold wpOp
 rw [ho]
 simp only
 unfold wpList at h
 split
 · rename_i hw
   rw [if_pos hw] at h
   rcases h with h | ⟨h1, h2⟩
   · exact .inl (wp_then h)
   · exact .inr ⟨h1, h2⟩
 · rename_i hw
   rw [if_neg hw] at h
   exact h
theorem wpList_mono_then {o : Oper} {a : Act} {w : World} {K K' : Act → World → Prop} (hk : ∀ a w, K a w → K' a w) (h : wpList P ops (Exit.then K Q) [o] a w) : wpList P ops (Exit.then K' Q) [o] a w := by
 unfold wpList at h ⊢
 split
 · rename_i hw
   rw [if_pos hw] at h
   rcases h with h | ⟨h1, h2⟩
   · refine .inl ?_
     have h3 : o.wp P a w K' Q := Oper.wp_mono hk (wp_then h)
     exact wp_then_mk h3
   · exact .inr ⟨h1, h2⟩
 · rename_i hw
   rw [if_neg hw] at h
   exact hk _ _ h
theorem count_set : ∀ (l : List Bool) (i : Nat), l[i]? = some false → (l.set i true).count false + 1 = l.count false
 | [], i, h => by simp at h
 | b :: l, 0, h => by simp at h; subst h; simp
 | b :: l, i + 1, h => by
  have := count_set l i (by simpa using h)
  cases b <;> simp [List.set_cons_succ] <;> omega
def lowB (ops : Array Oper) : Bool := (List.range ops.size).all fun i => ((ops[i]?).map (fun o => o.after.all fun e => !Region.binds .any e || decide (e.on < i))).getD true
theorem ready_some (hlow : lowB ops = true) {listed : Array Bool} (hs : listed.size = ops.size) {i : Nat} (hi : i < ops.size) (hl : listed.getD i false = false) :
 Region.ready .any ops listed ≠ [] := by
 induction i using Nat.strongRecOn with
 | ind i ih =>
  intro hnil
  have hg : listed.getD i true = false := by
   rw [Array.getD_eq_getD_getElem?] at *
   rw [Array.getElem?_eq_getElem (by omega)] at *
   simpa using hl
  have hlow1 := List.all_eq_true.1 hlow i (by simpa using hi)
  rw [Array.getElem?_eq_getElem hi] at hlow1
  simp only [Option.map_some, Option.getD_some] at hlow1
  have hmem : i ∈ Region.ready .any ops listed := by
   unfold Region.ready
   rw [List.mem_filter]
   refine ⟨by simpa using hi, ?_⟩
   rw [hg, Array.getElem?_eq_getElem hi]
   simp only [Bool.not_false, Bool.true_and, Option.map_some, Option.getD_some]
   rw [Array.all_eq_true] at hlow1 ⊢
   intro k hk
   have h1 := hlow1 k hk
   cases hb : Region.binds .any ops[i].after[k] with
   | false => simp
   | true =>
    rw [hb] at h1
    simp only [Bool.not_true, Bool.false_or, decide_eq_true_eq] at h1
    cases hd : listed.getD ops[i].after[k].on false with
    | true => simp
    | false => exact absurd hnil (ih _ h1 (by omega) hd)
  rw [hnil] at hmem
  cases hmem
theorem wp_region_inv {id : Nat} {a : Act} {w : World} (hm : P.follows .mixedOrders = true) (hlow : lowB ops = true) (I : (Nat → Bool) → Act → World → Prop) (h0 : I (fun _ => false) a w.drew)
 (hstep : ∀ (l : Nat → Bool) (i : Nat) (o : Oper) (a : Act) (w : World), ops[i]? = some o → I l a w → l i = false → (o.after.all fun e => !Region.binds .any e || l e.on) = true →
  wpList P ops (Exit.then (fun a' w' => I (fun j => j == i || l j) a' w') Q) [o] a w)
 (hend : ∀ (l : Nat → Bool) (a : Act) (w : World), I l a w → (∀ i, i < ops.size → l i = true) → Q .normal a w) : (Code.region id ops true).wp P Q a w := by
 refine wp_region_any hm ?_
 have key : ∀ (fuel : Nat) (listed : Array Bool) (a : Act) (w : World), listed.size = ops.size → listed.toList.count false ≤ fuel → I (fun j => listed.getD j false) a w → wpAny P .any ops Q fuel listed a w := by
  intro fuel
  have fin : ∀ (listed : Array Bool) (a : Act) (w : World), listed.size = ops.size → I (fun j => listed.getD j false) a w → Region.ready .any ops listed = [] → Q .normal a w := by
   intro listed a w hs hI hnil
   refine hend _ a w hI (fun i hi => ?_)
   cases hd : listed.getD i false with
   | true => rfl
   | false => exact absurd hnil (ready_some hlow hs hi hd)
  induction fuel with
  | zero =>
   intro listed a w hs hc hI
   have hnil : Region.ready .any ops listed = [] := by
    unfold Region.ready
    rw [List.filter_eq_nil_iff]
    intro i hi
    have hi' : i < listed.size := by rw [hs]; simpa using hi
    have hne : listed[i] = true := by
     cases hb : listed[i] with
     | true => rfl
     | false =>
      have hmem : false ∈ listed.toList := by
       rw [← hb]
       exact Array.getElem_mem_toList hi'
      have := List.count_pos_iff.2 hmem
      omega
    rw [Array.getD_eq_getD_getElem?, Array.getElem?_eq_getElem hi', hne]
    simp
   exact ⟨hnil, fin listed a w hs hI hnil⟩
  | succ fuel ih =>
   intro listed a w hs hc hI
   refine ⟨fin listed a w hs hI, fun i hi => ?_⟩
   unfold Region.ready at hi
   rw [List.mem_filter] at hi
   obtain ⟨hir, hc2⟩ := hi
   have hio : i < ops.size := by simpa using hir
   have hil : i < listed.size := by omega
   rw [Array.getElem?_eq_getElem hio] at hc2
   simp only [Bool.and_eq_true, Option.map_some, Option.getD_some] at hc2
   have hf : listed[i] = false := by
    have := hc2.1
    rw [Array.getD_eq_getD_getElem?, Array.getElem?_eq_getElem hil] at this
    simpa using this
   refine wpOp_of_list (Array.getElem?_eq_getElem hio) ?_
   have hst := hstep (fun j => listed.getD j false) i ops[i] a w (Array.getElem?_eq_getElem hio) hI (by rw [Array.getD_eq_getD_getElem?, Array.getElem?_eq_getElem hil, hf]; rfl) hc2.2
   refine wpList_mono_then (fun a' w' hI' => ih _ a' w' (by simpa using hs) ?_ ?_) hst
   · have := count_set listed.toList i (by rw [Array.getElem?_toList, Array.getElem?_eq_getElem hil, hf])
     rw [Array.toList_setIfInBounds]
     omega
   · have e : (fun j => (listed.setIfInBounds i true).getD j false) = fun j => j == i || listed.getD j false := by
      funext j
      rw [Array.getD_eq_getD_getElem?, Array.getElem?_setIfInBounds, Array.getD_eq_getD_getElem?]
      by_cases hj : i = j
      · subst hj
        simp [hil]
      · rw [if_neg hj]
        have : (j == i) = false := by simp; omega
        rw [this, Bool.false_or]
     rw [e]
     exact hI'
 refine key ops.size (Array.replicate ops.size false) a _ (by simp) (by simp) ?_
 have e : (fun j => (Array.replicate ops.size false).getD j false) = fun _ => false := by
  funext j
  rw [Array.getD_eq_getD_getElem?, Array.getElem?_replicate]
  split <;> rfl
 rw [e]
 exact h0
end
end Go.Proofs.YtdkdhjhhbkcciaaGreat
namespace Go.Proofs.YtdkdhjhhbkcciaaGreat
open Go.RowKit
set_option linter.unusedVariables false
set_option maxHeartbeats 1000000
theorem wpList_arrayAt {ops : Array Oper} {rest : List Oper} {op : Oper} {a : Act} {w : World} {Q : Exit → Act → World → Prop} (hgd : op.guard = none) (x : Operand) (ho : op.op = .sliceToArrayPointer 54 x)
 (g off cap : Nat) (hx : a.eval x = .slice (some ⟨g, off, none⟩) 7 cap)
 (h : wpList Tryz.prog ops Q rest (a.put op.dst (.pointer (some ⟨g, off, none⟩))) w) : wpList Tryz.prog ops Q (op :: rest) a w := by
 refine wpList_plain hgd fun K hK => ?_
 unfold Oper.wp execOp
 simp only [ho, hx, Sem.run_bind, run_arrayAt w 54 2 7 (some ⟨g, off, none⟩) 7 cap relUnd (by omega), Result.andThen_ok]
 exact hK _ _ h
theorem implUnit (w : World) : Calls Tryz.prog 99 #[] w fun e w' => ∃ a, e = .returned a ∧ w'.ownsRow w.heap.size 54 1 a unitL.length (ints unitL) ∧ Below w.heap.size w w' := by
 have hb0 : Below w.heap.size w (w.alloc (.cells (ints (List.replicate 7 0)).toArray 54)) := by go_grown
 have B0 : RelAt (w.alloc (.cells (ints (List.replicate 7 0)).toArray 54)) w.heap.size (List.replicate 7 0) := heap_alloc_new w _
 go_enter Tryz.func99, Tryz.ntmps99
 go_wp2
 rw [zeros7]
 go_loopw [3] (fun i wr => ∃ (k : Nat), k ≤ 7 ∧ i = .int .i64 k ∧ RelAt wr w.heap.size (unitL.take k ++ List.replicate (7 - k) 0) ∧ Below w.heap.size w wr) (fun i _ => 7 - (intOf i).toNat)
 case atStart => exact ⟨0, by omega, rfl, B0, hb0⟩
 case round =>
  obtain ⟨k, hk, rfl, b0, hb⟩ := hrel
  clear B0 hb0
  by_cases hlt : k < 7
  · have hlt' : (k : Int) < 7 := by omega
    have hpl : (unitL.take k ++ List.replicate (7 - k) (0 : Int)).length = 7 := by simp [unitL]; omega
    obtain ⟨c0, f0⟩ := b0.cell k (by omega)
    have hset : ∀ x, x = (2 : Int) ^ k → (unitL.take k ++ List.replicate (7 - k) (0 : Int)).set k x = unitL.take (k + 1) ++ List.replicate (7 - (k + 1)) 0 := by
     rintro x rfl
     have hc : k = 0 ∨ k = 1 ∨ k = 2 ∨ k = 3 ∨ k = 4 ∨ k = 5 ∨ k = 6 := by omega
     rcases hc with rfl | rfl | rfl | rfl | rfl | rfl | rfl <;> rfl
    have hpow : (1 : Int) * 2 ^ k ≤ 64 ∧ (1 : Int) ≤ 2 ^ k := by
     have hc : k = 0 ∨ k = 1 ∨ k = 2 ∨ k = 3 ∨ k = 4 ∨ k = 5 ∨ k = 6 := by omega
     rcases hc with rfl | rfl | rfl | rfl | rfl | rfl | rfl <;> decide
    have HS : Hid _ := hset
    have H0 : Hid _ := b0
    clear hset b0
    go_wp2
    go_roundw
    case rel =>
     refine ⟨k + 1, by omega, by go_num, ?_, hb.setCell (Nat.le_refl _) _⟩
     rw [← HS.out _ rfl]
     exact RelAt.set H0.out k (2 ^ k)
    case measure => simp [intOf]; omega
  · have hkk : k = 7 := by omega
    subst hkk
    have hR : RelAt wr w.heap.size unitL := b0
    have HR : Hid _ := hR
    clear hR b0
    go_wp2
    go_ret
    exact ⟨_, rfl, RelAt.own HR.out (Nat.le_refl _) rfl, hb⟩
end Go.Proofs.YtdkdhjhhbkcciaaGreat
