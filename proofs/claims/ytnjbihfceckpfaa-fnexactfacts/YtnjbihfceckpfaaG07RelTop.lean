/-
  Put together out of: RegionInv, RelTop.
-/
import Derived.Test.YtnjbihfceckpfaaG00Stmt
import Derived.Orders
import Derived.Test.YtnjbihfceckpfaaImplRel
/-
  A region that draws its order, by an invariant over the set of the operations that have run: one proof an operation, whatever the order.
-/
namespace Go.Proofs.Ytnjbihfceckpfaa
open Go.RowKit

section
variable {P : Program} {ops : Array Oper} {Q : Exit → Act → World → Prop}

theorem wp_then {o : Oper} {a : Act} {w : World} {K : Act → World → Prop} (h : o.wp P a w K (Exit.then K Q)) : o.wp P a w K Q := by
  unfold Oper.wp at *
  generalize (execOp a.eval o).run P w = r at *
  cases r with
  | ok n w' =>
    cases n <;> simp only [Oper.upon] at h ⊢ <;>
      first
        | exact h
        | exact Calls.mono h (fun e w'' he => by cases e <;> exact he)
  | halt x w' => cases x <;> simp only [Oper.upon] at h ⊢ <;> exact h

theorem wp_then_mk {o : Oper} {a : Act} {w : World} {K : Act → World → Prop} (h : o.wp P a w K Q) : o.wp P a w K (Exit.then K Q) := by
  unfold Oper.wp at *
  generalize (execOp a.eval o).run P w = r at *
  cases r with
  | ok n w' =>
    cases n <;> simp only [Oper.upon] at h ⊢ <;>
      first
        | exact h
        | exact Calls.mono h (fun e w'' he => by cases e <;> exact he)
  | halt x w' => cases x <;> simp only [Oper.upon] at h ⊢ <;> exact h

theorem wpOp_of_list {i : Nat} {o : Oper} {a : Act} {w : World} {K : Act → World → Prop} (ho : ops[i]? = some o) (h : wpList P ops (Exit.then K Q) [o] a w) : wpOp P ops Q i K a w := by
  unfold wpOp
  rw [ho]
  simp only
  unfold wpList at h
  split
  · rename_i hw
    rw [if_pos hw] at h
    rcases h with h | ⟨h1, h2⟩
    · exact .inl (wp_then h)
    · exact .inr ⟨h1, h2⟩
  · rename_i hw
    rw [if_neg hw] at h
    exact h

theorem wpList_mono_then {o : Oper} {a : Act} {w : World} {K K' : Act → World → Prop} (hk : ∀ a w, K a w → K' a w) (h : wpList P ops (Exit.then K Q) [o] a w) : wpList P ops (Exit.then K' Q) [o] a w := by
  unfold wpList at h ⊢
  split
  · rename_i hw
    rw [if_pos hw] at h
    rcases h with h | ⟨h1, h2⟩
    · refine .inl ?_
      have h3 : o.wp P a w K' Q := Oper.wp_mono hk (wp_then h)
      exact wp_then_mk h3
    · exact .inr ⟨h1, h2⟩
  · rename_i hw
    rw [if_neg hw] at h
    exact hk _ _ h

theorem count_set : ∀ (l : List Bool) (i : Nat), l[i]? = some false → (l.set i true).count false + 1 = l.count false
  | [], i, h => by simp at h
  | b :: l, 0, h => by simp at h; subst h; simp
  | b :: l, i + 1, h => by
    have := count_set l i (by simpa using h)
    cases b <;> simp [List.set_cons_succ] <;> omega

/-- Each operation waits only on operations ahead of it. -/
def lowB (ops : Array Oper) : Bool := (List.range ops.size).all fun i => ((ops[i]?).map (fun o => o.after.all fun e => !Region.binds .any e || decide (e.on < i))).getD true

theorem ready_some (hlow : lowB ops = true) {listed : Array Bool} (hs : listed.size = ops.size) {i : Nat} (hi : i < ops.size) (hl : listed.getD i false = false) :
    Region.ready .any ops listed ≠ [] := by
  induction i using Nat.strongRecOn with
  | ind i ih =>
    intro hnil
    have hg : listed.getD i true = false := by
      rw [Array.getD_eq_getD_getElem?] at *
      rw [Array.getElem?_eq_getElem (by omega)] at *
      simpa using hl
    have hlow1 := List.all_eq_true.1 hlow i (by simpa using hi)
    rw [Array.getElem?_eq_getElem hi] at hlow1
    simp only [Option.map_some, Option.getD_some] at hlow1
    have hmem : i ∈ Region.ready .any ops listed := by
      unfold Region.ready
      rw [List.mem_filter]
      refine ⟨by simpa using hi, ?_⟩
      rw [hg, Array.getElem?_eq_getElem hi]
      simp only [Bool.not_false, Bool.true_and, Option.map_some, Option.getD_some]
      rw [Array.all_eq_true] at hlow1 ⊢
      intro k hk
      have h1 := hlow1 k hk
      cases hb : Region.binds .any ops[i].after[k] with
      | false => simp
      | true =>
        rw [hb] at h1
        simp only [Bool.not_true, Bool.false_or, decide_eq_true_eq] at h1
        cases hd : listed.getD ops[i].after[k].on false with
        | true => simp
        | false => exact absurd hnil (ih _ h1 (by omega) hd)
    rw [hnil] at hmem
    cases hmem

theorem wp_region_inv {id : Nat} {a : Act} {w : World} (hm : P.follows .mixedOrders = true) (hlow : lowB ops = true) (I : (Nat → Bool) → Act → World → Prop) (h0 : I (fun _ => false) a w.drew)
    (hstep : ∀ (l : Nat → Bool) (i : Nat) (o : Oper) (a : Act) (w : World), ops[i]? = some o → I l a w → l i = false → (o.after.all fun e => !Region.binds .any e || l e.on) = true →
      wpList P ops (Exit.then (fun a' w' => I (fun j => j == i || l j) a' w') Q) [o] a w)
    (hend : ∀ (l : Nat → Bool) (a : Act) (w : World), I l a w → (∀ i, i < ops.size → l i = true) → Q .normal a w) : (Code.region id ops true).wp P Q a w := by
  refine wp_region_any hm ?_
  have key : ∀ (fuel : Nat) (listed : Array Bool) (a : Act) (w : World), listed.size = ops.size → listed.toList.count false ≤ fuel → I (fun j => listed.getD j false) a w → wpAny P .any ops Q fuel listed a w := by
    intro fuel
    have fin : ∀ (listed : Array Bool) (a : Act) (w : World), listed.size = ops.size → I (fun j => listed.getD j false) a w → Region.ready .any ops listed = [] → Q .normal a w := by
      intro listed a w hs hI hnil
      refine hend _ a w hI (fun i hi => ?_)
      cases hd : listed.getD i false with
      | true => rfl
      | false => exact absurd hnil (ready_some hlow hs hi hd)
    induction fuel with
    | zero =>
      intro listed a w hs hc hI
      have hnil : Region.ready .any ops listed = [] := by
        unfold Region.ready
        rw [List.filter_eq_nil_iff]
        intro i hi
        have hi' : i < listed.size := by rw [hs]; simpa using hi
        have hne : listed[i] = true := by
          cases hb : listed[i] with
          | true => rfl
          | false =>
            have hmem : false ∈ listed.toList := by
              rw [← hb]
              exact Array.getElem_mem_toList hi'
            have := List.count_pos_iff.2 hmem
            omega
        rw [Array.getD_eq_getD_getElem?, Array.getElem?_eq_getElem hi', hne]
        simp
      exact ⟨hnil, fin listed a w hs hI hnil⟩
    | succ fuel ih =>
      intro listed a w hs hc hI
      refine ⟨fin listed a w hs hI, fun i hi => ?_⟩
      unfold Region.ready at hi
      rw [List.mem_filter] at hi
      obtain ⟨hir, hc2⟩ := hi
      have hio : i < ops.size := by simpa using hir
      have hil : i < listed.size := by omega
      rw [Array.getElem?_eq_getElem hio] at hc2
      simp only [Bool.and_eq_true, Option.map_some, Option.getD_some] at hc2
      have hf : listed[i] = false := by
        have := hc2.1
        rw [Array.getD_eq_getD_getElem?, Array.getElem?_eq_getElem hil] at this
        simpa using this
      refine wpOp_of_list (Array.getElem?_eq_getElem hio) ?_
      have hst := hstep (fun j => listed.getD j false) i ops[i] a w (Array.getElem?_eq_getElem hio) hI (by rw [Array.getD_eq_getD_getElem?, Array.getElem?_eq_getElem hil, hf]; rfl) hc2.2
      refine wpList_mono_then (fun a' w' hI' => ih _ a' w' (by simpa using hs) ?_ ?_) hst
      · have := count_set listed.toList i (by rw [Array.getElem?_toList, Array.getElem?_eq_getElem hil, hf])
        rw [Array.toList_setIfInBounds]
        omega
      · have e : (fun j => (listed.setIfInBounds i true).getD j false) = fun j => j == i || listed.getD j false := by
          funext j
          rw [Array.getD_eq_getD_getElem?, Array.getElem?_setIfInBounds, Array.getD_eq_getD_getElem?]
          by_cases hj : i = j
          · subst hj
            simp [hil]
          · rw [if_neg hj]
            have : (j == i) = false := by simp; omega
            rw [this, Bool.false_or]
        rw [e]
        exact hI'
  refine key ops.size (Array.replicate ops.size false) a _ (by simp) (by simp) ?_
  have e : (fun j => (Array.replicate ops.size false).getD j false) = fun _ => false := by
    funext j
    rw [Array.getD_eq_getD_getElem?, Array.getElem?_replicate]
    split <;> rfl
  rw [e]
  exact h0

end
end Go.Proofs.Ytnjbihfceckpfaa

/-
  Chapter 6, the program's side: Image, ofTwo, Compose, Join, Within, Unit.
-/
namespace Go.Proofs.Ytnjbihfceckpfaa
open Go.RowKit
set_option linter.unusedVariables false
set_option maxHeartbeats 1000000

theorem wpList_arrayAt {ops : Array Oper} {rest : List Oper} {op : Oper} {a : Act} {w : World} {Q : Exit → Act → World → Prop} (hgd : op.guard = none) (x : Operand) (ho : op.op = .sliceToArrayPointer 64 x)
    (g off cap : Nat) (hx : a.eval x = .slice (some ⟨g, off, none⟩) 7 cap)
    (h : wpList Try.prog ops Q rest (a.put op.dst (.pointer (some ⟨g, off, none⟩))) w) : wpList Try.prog ops Q (op :: rest) a w := by
  refine wpList_plain hgd fun K hK => ?_
  unfold Oper.wp execOp
  simp only [ho, hx, Sem.run_bind, run_arrayAt w 64 2 7 (some ⟨g, off, none⟩) 7 cap relUnd (by omega), Result.andThen_ok]
  exact hK _ _ h

theorem lor_comm {a b : Int} (ha : Small a) (hb : Small b) : lor a b = lor b a :=
  bit_ext (lor_small ha hb) (lor_small hb ha) (fun t _ => by rw [bit_lor ha hb, bit_lor hb ha, Bool.or_comm])

theorem joi_comm {xs ys : List Int} (hx : Smalls xs) (hy : Smalls ys) : joi xs ys = joi ys xs := by
  refine list7 (by simp [joi, hx.1, hy.1]) (by simp [joi, hx.1, hy.1]) (fun j hj => ?_)
  have h1 : (joi xs ys).getD j 0 = lor (xs.getD j 0) (ys.getD j 0) := by simp [joi, List.getD, hx.1, hy.1, hj]
  have h2 : (joi ys xs).getD j 0 = lor (ys.getD j 0) (xs.getD j 0) := by simp [joi, List.getD, hx.1, hy.1, hj]
  rw [h1, h2, lor_comm (hx.getD j) (hy.getD j)]

theorem implImage (rs : List Int) (s : Int) (v : Value) (w : World) (hl : rs.length ≤ maxLen) (hv : Reads w v (ints rs)) :
    Calls Try.prog 126 #[v, .int .i64 s] w fun e w' => e = .returned (.int .i64 (imageAns rs s)) ∧ Below w.heap.size w w' := by
  cases hr : relOk rs
  · have h1 : imageAns rs s = -1 := by simp [imageAns, hr]
    rw [h1]
    go_enter Try.func126, Try.ntmps126
    go_wp2_with (go_at_call 146; refine (implRelOk rs v w hl hv).mono ?_; rintro e w1 ⟨rfl, b1⟩; simp only [hr])
    go_ret
    exact ⟨rfl, b1⟩
  · cases hs : inB s 0 127
    · have h1 : imageAns rs s = -1 := by simp [imageAns, hs]
      rw [h1]
      go_enter Try.func126, Try.ntmps126
      go_wp2_with (first
        | (go_at_call 146; refine (implRelOk rs v w hl hv).mono ?_; rintro e w1 ⟨rfl, b1⟩; simp only [hr])
        | (go_at_call 137; refine (within _ _ _).mono ?_; rintro e w2 ⟨rfl, rfl⟩; simp only [wiB_inB, hs]))
      go_ret
      exact ⟨rfl, b1⟩
    · have h1 : imageAns rs s = img rs s := by simp [imageAns, hs, hr]
      rw [h1]
      have hsm := small_in.1 hs
      have hrs := relOk_iff.1 hr
      have him := fun W => relImage rs s W hrs hsm
      have h7 := hrs.1
      obtain ⟨g, off, cap, hve, hrg⟩ := reads_range hv h7
      have hro := implRelOk rs v w hl hv
      subst hve
      go_enter Try.func126, Try.ntmps126
      go_wp2_with fail
      go_at_call 146
      refine hro.mono ?_
      rintro e w1 ⟨rfl, b1⟩
      simp only [hr]
      have HRG : Hid _ := range_below hrg b1
      clear hrg
      go_wp2_with (first
        | (go_at_call 137; refine (within _ _ _).mono ?_; rintro e w2 ⟨rfl, rfl⟩; simp only [wiB_inB, hs])
        | refine wpList_arrayAt rfl (.tmp 13) rfl g off cap rfl ?_
        | refine wpList_loadRel rfl (.tmp 14) rfl g off rs rfl h7 HRG.out ?_
        | (go_at_call 115; refine (him _).mono ?_; rintro e w3 ⟨rfl, b3⟩))
      go_ret
      exact ⟨rfl, b1.trans (b3.mono b1.size)⟩

/-- What ofTwo's region has, operation by operation. -/
def OFct (va vb : Value) (g off g' off' f : Nat) (xs ys zs : List Int) (base : Nat) (l : Nat → Bool) (x7 x16 x17 x18 x19 x20 x21 x22 x23 : Value) (wr : World) : Prop :=
  (l 0 = true → x16 = .func (.func f) #[] #[]) ∧ (l 1 = true → x17 = va) ∧ (l 2 = true → x18 = .pointer (some ⟨g, off, none⟩)) ∧ (l 3 = true → x19 = relV xs) ∧
  (l 4 = true → x20 = vb) ∧ (l 5 = true → x21 = .pointer (some ⟨g', off', none⟩)) ∧ (l 6 = true → x22 = relV ys) ∧ (l 7 = true → x23 = relV zs) ∧
  (l 8 = true → ∃ B, x7 = .pointer (some ⟨B, 0, none⟩) ∧ base ≤ B ∧ ∃ L : List Int, L.length = 7 ∧ RelAt wr B L ∧ (l 9 = true → L = zs)) ∧ (l 9 = true → l 8 = true)

/-- The invariant of that region. -/
def OInv (va vb vf : Value) (g off g' off' f : Nat) (xs ys zs : List Int) (w : World) (l : Nat → Bool) (a : Act) (wr : World) : Prop :=
  ∃ y3 y4 y5 y6 y8 y9 y10 y11 y12 y13 y14 y15 y24 x7 x16 x17 x18 x19 x20 x21 x22 x23 : Value,
    a = { tmps := List.toArray (va :: vb :: vf :: y3 :: y4 :: y5 :: y6 :: x7 :: y8 :: y9 :: y10 :: y11 :: y12 :: y13 :: y14 :: y15 :: x16 :: x17 :: x18 :: x19 :: x20 :: x21 :: x22 :: x23 :: y24 :: []), defers := [] } ∧
    Below w.heap.size w wr ∧ OFct va vb g off g' off' f xs ys zs w.heap.size l x7 x16 x17 x18 x19 x20 x21 x22 x23 wr

theorem implUnit (w : World) : Calls Try.prog 142 #[] w fun e w' => ∃ a, e = .returned a ∧ w'.ownsRow w.heap.size 64 1 a unitL.length (ints unitL) ∧ Below w.heap.size w w' := by
  have hb0 : Below w.heap.size w (w.alloc (.cells (ints (List.replicate 7 0)).toArray 64)) := by go_grown
  have B0 : RelAt (w.alloc (.cells (ints (List.replicate 7 0)).toArray 64)) w.heap.size (List.replicate 7 0) := heap_alloc_new w _
  go_enter Try.func142, Try.ntmps142
  go_wp2
  rw [zeros7]
  go_loopw [3] (fun i wr => ∃ (k : Nat), k ≤ 7 ∧ i = .int .i64 k ∧ RelAt wr w.heap.size (unitL.take k ++ List.replicate (7 - k) 0) ∧ Below w.heap.size w wr) (fun i _ => 7 - (intOf i).toNat)
  case atStart => exact ⟨0, by omega, rfl, B0, hb0⟩
  case round =>
    obtain ⟨k, hk, rfl, b0, hb⟩ := hrel
    clear B0 hb0
    by_cases hlt : k < 7
    · have hlt' : (k : Int) < 7 := by omega
      have hpl : (unitL.take k ++ List.replicate (7 - k) (0 : Int)).length = 7 := by simp [unitL]; omega
      obtain ⟨c0, f0⟩ := b0.cell k (by omega)
      have hset : ∀ x, x = (2 : Int) ^ k → (unitL.take k ++ List.replicate (7 - k) (0 : Int)).set k x = unitL.take (k + 1) ++ List.replicate (7 - (k + 1)) 0 := by
        rintro x rfl
        have hc : k = 0 ∨ k = 1 ∨ k = 2 ∨ k = 3 ∨ k = 4 ∨ k = 5 ∨ k = 6 := by omega
        rcases hc with rfl | rfl | rfl | rfl | rfl | rfl | rfl <;> rfl
      have hpow : (1 : Int) * 2 ^ k ≤ 64 ∧ (1 : Int) ≤ 2 ^ k := by
        have hc : k = 0 ∨ k = 1 ∨ k = 2 ∨ k = 3 ∨ k = 4 ∨ k = 5 ∨ k = 6 := by omega
        rcases hc with rfl | rfl | rfl | rfl | rfl | rfl | rfl <;> decide
      have HS : Hid _ := hset
      have H0 : Hid _ := b0
      clear hset b0
      go_wp2
      go_roundw
      case rel =>
        refine ⟨k + 1, by omega, by go_num, ?_, hb.setCell (Nat.le_refl _) _⟩
        rw [← HS.out _ rfl]
        exact RelAt.set H0.out k (2 ^ k)
      case measure => simp [intOf]; omega
    · have hkk : k = 7 := by omega
      subst hkk
      have hR : RelAt wr w.heap.size unitL := b0
      have HR : Hid _ := hR
      clear hR b0
      go_wp2
      go_ret
      exact ⟨_, rfl, RelAt.own HR.out (Nat.le_refl _) rfl, hb⟩

/-- What Within's region has, operation by operation. -/
def WFct (va vb : Value) (g off g' off' : Nat) (xs ys : List Int) (l : Nat → Bool) (x13 x14 x15 x16 x17 x18 x19 x20 x21 x22 x23 x4 : Value) : Prop :=
  (l 0 = true → x13 = vb) ∧ (l 1 = true → x14 = .pointer (some ⟨g', off', none⟩)) ∧ (l 2 = true → x15 = relV ys) ∧ (l 3 = true → x16 = va) ∧ (l 4 = true → x17 = .pointer (some ⟨g, off, none⟩)) ∧ (l 5 = true → x18 = relV xs) ∧ (l 6 = true → x19 = relV (joi ys xs)) ∧ (l 7 = true → x20 = vb) ∧ (l 8 = true → x21 = .pointer (some ⟨g', off', none⟩)) ∧ (l 9 = true → x22 = relV ys) ∧ (l 10 = true → x23 = .bool (decide (joi ys xs = ys))) ∧ (l 11 = true → x4 = .bool (decide (joi ys xs = ys)))

/-- The invariant of that region. -/
def WInv (va vb : Value) (g off g' off' : Nat) (xs ys : List Int) (w : World) (l : Nat → Bool) (a : Act) (wr : World) : Prop :=
  ∃ y2 y3 y5 y6 y7 y8 y9 y10 y11 y12 x13 x14 x15 x16 x17 x18 x19 x20 x21 x22 x23 x4 : Value,
    a = { tmps := List.toArray (va :: vb :: y2 :: y3 :: x4 :: y5 :: y6 :: y7 :: y8 :: y9 :: y10 :: y11 :: y12 :: x13 :: x14 :: x15 :: x16 :: x17 :: x18 :: x19 :: x20 :: x21 :: x22 :: x23 :: []), defers := [] } ∧
    Below w.heap.size w wr ∧ WFct va vb g off g' off' xs ys l x13 x14 x15 x16 x17 x18 x19 x20 x21 x22 x23 x4


end Go.Proofs.Ytnjbihfceckpfaa
