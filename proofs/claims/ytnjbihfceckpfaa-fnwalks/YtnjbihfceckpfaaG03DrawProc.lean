/-
 Put together out of: RegionInv, DrawProc.
-/
import Derived.Test.YtnjbihfceckpfaaG00Stmt
import Derived.Orders
import Derived.Test.YtnjbihfceckpfaaDrawStm
/-
 A region that draws its order, by an invariant over the set of the operations that have run: one proof an operation, whatever the order.
-/
namespace Go.Proofs.Ytnjbihfceckpfaa
open Go.RowKit

section
variable {P : Program} {ops : Array Oper} {Q : Exit → Act → World → Prop}

theorem wp_then {o : Oper} {a : Act} {w : World} {K : Act → World → Prop} (h : o.wp P a w K (Exit.then K Q)) : o.wp P a w K Q := by
 unfold Oper.wp at *
 generalize (execOp a.eval o).run P w = r at *
 cases r with
 | ok n w' =>
  cases n <;> simp only [Oper.upon] at h ⊢ <;>
   first
    | exact h
    | exact Calls.mono h (fun e w'' he => by cases e <;> exact he)
 | halt x w' => cases x <;> simp only [Oper.upon] at h ⊢ <;> exact h

theorem wp_then_mk {o : Oper} {a : Act} {w : World} {K : Act → World → Prop} (h : o.wp P a w K Q) : o.wp P a w K (Exit.then K Q) := by
 unfold Oper.wp at *
 generalize (execOp a.eval o).run P w = r at *
 cases r with
 | ok n w' =>
  cases n <;> simp only [Oper.upon] at h ⊢ <;>
   first
    | exact h
    | exact Calls.mono h (fun e w'' he => by cases e <;> exact he)
 | halt x w' => cases x <;> simp only [Oper.upon] at h ⊢ <;> exact h

theorem wpOp_of_list {i : Nat} {o : Oper} {a : Act} {w : World} {K : Act → World → Prop} (ho : ops[i]? = some o) (h : wpList P ops (Exit.then K Q) [o] a w) : wpOp P ops Q i K a w := by
 unfold wpOp
 rw [ho]
 simp only
 unfold wpList at h
 split
 · rename_i hw
   rw [if_pos hw] at h
   rcases h with h | ⟨h1, h2⟩
   · exact .inl (wp_then h)
   · exact .inr ⟨h1, h2⟩
 · rename_i hw
   rw [if_neg hw] at h
   exact h

theorem wpList_mono_then {o : Oper} {a : Act} {w : World} {K K' : Act → World → Prop} (hk : ∀ a w, K a w → K' a w) (h : wpList P ops (Exit.then K Q) [o] a w) : wpList P ops (Exit.then K' Q) [o] a w := by
 unfold wpList at h ⊢
 split
 · rename_i hw
   rw [if_pos hw] at h
   rcases h with h | ⟨h1, h2⟩
   · refine .inl ?_
     have h3 : o.wp P a w K' Q := Oper.wp_mono hk (wp_then h)
     exact wp_then_mk h3
   · exact .inr ⟨h1, h2⟩
 · rename_i hw
   rw [if_neg hw] at h
   exact hk _ _ h

theorem count_set : ∀ (l : List Bool) (i : Nat), l[i]? = some false → (l.set i true).count false + 1 = l.count false
 | [], i, h => by simp at h
 | b :: l, 0, h => by simp at h; subst h; simp
 | b :: l, i + 1, h => by
  have := count_set l i (by simpa using h)
  cases b <;> simp [List.set_cons_succ] <;> omega

/-- Each operation waits only on operations ahead of it. -/
def lowB (ops : Array Oper) : Bool := (List.range ops.size).all fun i => ((ops[i]?).map (fun o => o.after.all fun e => !Region.binds .any e || decide (e.on < i))).getD true

theorem ready_some (hlow : lowB ops = true) {listed : Array Bool} (hs : listed.size = ops.size) {i : Nat} (hi : i < ops.size) (hl : listed.getD i false = false) :
 Region.ready .any ops listed ≠ [] := by
 induction i using Nat.strongRecOn with
 | ind i ih =>
  intro hnil
  have hg : listed.getD i true = false := by
   rw [Array.getD_eq_getD_getElem?] at *
   rw [Array.getElem?_eq_getElem (by omega)] at *
   simpa using hl
  have hlow1 := List.all_eq_true.1 hlow i (by simpa using hi)
  rw [Array.getElem?_eq_getElem hi] at hlow1
  simp only [Option.map_some, Option.getD_some] at hlow1
  have hmem : i ∈ Region.ready .any ops listed := by
   unfold Region.ready
   rw [List.mem_filter]
   refine ⟨by simpa using hi, ?_⟩
   rw [hg, Array.getElem?_eq_getElem hi]
   simp only [Bool.not_false, Bool.true_and, Option.map_some, Option.getD_some]
   rw [Array.all_eq_true] at hlow1 ⊢
   intro k hk
   have h1 := hlow1 k hk
   cases hb : Region.binds .any ops[i].after[k] with
   | false => simp
   | true =>
    rw [hb] at h1
    simp only [Bool.not_true, Bool.false_or, decide_eq_true_eq] at h1
    cases hd : listed.getD ops[i].after[k].on false with
    | true => simp
    | false => exact absurd hnil (ih _ h1 (by omega) hd)
  rw [hnil] at hmem
  cases hmem

theorem wp_region_inv {id : Nat} {a : Act} {w : World} (hm : P.follows .mixedOrders = true) (hlow : lowB ops = true) (I : (Nat → Bool) → Act → World → Prop) (h0 : I (fun _ => false) a w.drew)
 (hstep : ∀ (l : Nat → Bool) (i : Nat) (o : Oper) (a : Act) (w : World), ops[i]? = some o → I l a w → l i = false → (o.after.all fun e => !Region.binds .any e || l e.on) = true →
  wpList P ops (Exit.then (fun a' w' => I (fun j => j == i || l j) a' w') Q) [o] a w)
 (hend : ∀ (l : Nat → Bool) (a : Act) (w : World), I l a w → (∀ i, i < ops.size → l i = true) → Q .normal a w) : (Code.region id ops true).wp P Q a w := by
 refine wp_region_any hm ?_
 have key : ∀ (fuel : Nat) (listed : Array Bool) (a : Act) (w : World), listed.size = ops.size → listed.toList.count false ≤ fuel → I (fun j => listed.getD j false) a w → wpAny P .any ops Q fuel listed a w := by
  intro fuel
  have fin : ∀ (listed : Array Bool) (a : Act) (w : World), listed.size = ops.size → I (fun j => listed.getD j false) a w → Region.ready .any ops listed = [] → Q .normal a w := by
   intro listed a w hs hI hnil
   refine hend _ a w hI (fun i hi => ?_)
   cases hd : listed.getD i false with
   | true => rfl
   | false => exact absurd hnil (ready_some hlow hs hi hd)
  induction fuel with
  | zero =>
   intro listed a w hs hc hI
   have hnil : Region.ready .any ops listed = [] := by
    unfold Region.ready
    rw [List.filter_eq_nil_iff]
    intro i hi
    have hi' : i < listed.size := by rw [hs]; simpa using hi
    have hne : listed[i] = true := by
     cases hb : listed[i] with
     | true => rfl
     | false =>
      have hmem : false ∈ listed.toList := by
       rw [← hb]
       exact Array.getElem_mem_toList hi'
      have := List.count_pos_iff.2 hmem
      omega
    rw [Array.getD_eq_getD_getElem?, Array.getElem?_eq_getElem hi', hne]
    simp
   exact ⟨hnil, fin listed a w hs hI hnil⟩
  | succ fuel ih =>
   intro listed a w hs hc hI
   refine ⟨fin listed a w hs hI, fun i hi => ?_⟩
   unfold Region.ready at hi
   rw [List.mem_filter] at hi
   obtain ⟨hir, hc2⟩ := hi
   have hio : i < ops.size := by simpa using hir
   have hil : i < listed.size := by omega
   rw [Array.getElem?_eq_getElem hio] at hc2
   simp only [Bool.and_eq_true, Option.map_some, Option.getD_some] at hc2
   have hf : listed[i] = false := by
    have := hc2.1
    rw [Array.getD_eq_getD_getElem?, Array.getElem?_eq_getElem hil] at this
    simpa using this
   refine wpOp_of_list (Array.getElem?_eq_getElem hio) ?_
   have hst := hstep (fun j => listed.getD j false) i ops[i] a w (Array.getElem?_eq_getElem hio) hI (by rw [Array.getD_eq_getD_getElem?, Array.getElem?_eq_getElem hil, hf]; rfl) hc2.2
   refine wpList_mono_then (fun a' w' hI' => ih _ a' w' (by simpa using hs) ?_ ?_) hst
   · have := count_set listed.toList i (by rw [Array.getElem?_toList, Array.getElem?_eq_getElem hil, hf])
     rw [Array.toList_setIfInBounds]
     omega
   · have e : (fun j => (listed.setIfInBounds i true).getD j false) = fun j => j == i || listed.getD j false := by
      funext j
      rw [Array.getD_eq_getD_getElem?, Array.getElem?_setIfInBounds, Array.getD_eq_getD_getElem?]
      by_cases hj : i = j
      · subst hj
        simp [hil]
      · rw [if_neg hj]
        have : (j == i) = false := by simp; omega
        rw [this, Bool.false_or]
     rw [e]
     exact hI'
 refine key ops.size (Array.replicate ops.size false) a _ (by simp) (by simp) ?_
 have e : (fun j => (Array.replicate ops.size false).getD j false) = fun _ => false := by
  funext j
  rw [Array.getD_eq_getD_getElem?, Array.getElem?_replicate]
  split <;> rfl
 rw [e]
 exact h0

end
end Go.Proofs.Ytnjbihfceckpfaa

/-
 spec.l3DrawProc: some Proc, in rows of its own.
-/
namespace Go.Proofs.Ytnjbihfceckpfaa
open Go.RowKit
set_option linter.unusedVariables false
set_option maxHeartbeats 1000000

theorem infoStm : (Try.prog.info? 92).map (fun i => (i.zero, i.size, i.bytes)) = some (some (.agg #[.int .i64 0, .int .i64 0, .int .i64 0]), 3, 24) := by kernel_rfl

abbrev stm3 (s : Stm) : Obj := .cells #[.int .i64 s.k, .int .i64 s.x, .int .i64 s.y] 92 (0, 0)

theorem stm_cells {w : World} {b : Nat} {s : Stm} (h : w.heap[b]? = some (stm3 s)) : ∀ (j : Nat) (u : Value), (cells3 [s])[j]? = some u → w.cell? ((⟨b, 0, none⟩ : Addr).add j) = some u := by
 intro j u hu
 obtain ⟨c0, c1, c2, _⟩ := threeCells h
 have hj : j < 3 := (List.getElem?_eq_some_iff.1 hu).1
 have e : (⟨b, 0, none⟩ : Addr).add j = ⟨b, j, none⟩ := by unfold Addr.add; split <;> simp_all
 rw [e]
 have : j = 0 ∨ j = 1 ∨ j = 2 := by omega
 rcases this with rfl | rfl | rfl <;> simp [cells3] at hu <;> subst hu <;> assumption

theorem oneCell {w : World} {b : Nat} {x : Value} {T : TypeId} (h : w.heap[b]? = some (.cells #[x] T (0, 0))) : w.cell? ⟨b, 0, none⟩ = some x ∧ w.frozen? ⟨b, 0, none⟩ = false := by
 constructor <;> simp [World.cell?, World.frozen?, h]

theorem ownSlice {w : World} {base : Nat} {e : TypeId} {s n : Nat} {u : Value} {xs : List Value} (h : w.ownsRow base e s u n xs) : ∃ a m c, u = .slice a m c := by
 rcases h.2 with ⟨rfl, _⟩ | ⟨g, cap, cur, rfl, _⟩
 · exact ⟨_, _, _, rfl⟩
 · exact ⟨_, _, _, rfl⟩

theorem stm_oneCell (s : Stm) : ∀ u ∈ cells3 [s], u.oneCell' = true := by
 intro u hu
 simp [cells3] at hu
 rcases hu with rfl | rfl | rfl <;> rfl

/-- What the region that appends a drawn statement has, operation by operation. -/
def PFct (g S : Nat) (n procs : Int) (ss : List Stm) (u : Value) (l : Nat → Bool) (x17 x18 x19 x20 x21 x22 x23 x24 x25 : Value) (wr : World) : Prop :=
 (l 0 = true → x17 = .pointer (some ⟨S, 0, none⟩)) ∧ (l 1 = true → x18 = u) ∧ (l 2 = true → x19 = .pointer (some ⟨g, 0, none⟩)) ∧ (l 3 = true → x20 = .int .i64 n) ∧ (l 4 = true → x21 = .int .i64 procs) ∧
 (l 5 = true → ∃ s : Stm, x22 = .agg #[.int .i64 s.k, .int .i64 s.x, .int .i64 s.y]) ∧
 (l 7 = false → wr.ownsRow (S + 1) 92 3 u ss.length (cells3 ss) ∧ wr.heap[S]? = some (.cells #[u] 81 (0, 0)) ∧ (l 6 = true → ∃ (b : Nat) (s : Stm), x23 = .slice (some ⟨b, 0, none⟩) 1 1 ∧ g < b ∧ wr.heap[b]? = some (stm3 s))) ∧
 (l 7 = true → l 1 = true ∧ l 5 = true ∧ l 6 = true ∧ ∃ s : Stm, wr.ownsRow (S + 1) 92 3 x24 (ss ++ [s]).length (cells3 (ss ++ [s])) ∧ (l 9 = false → wr.heap[S]? = some (.cells #[u] 81 (0, 0))) ∧ (l 9 = true → wr.heap[S]? = some (.cells #[x24] 81 (0, 0)))) ∧
 (l 8 = true → x25 = .pointer (some ⟨S, 0, none⟩)) ∧ (l 9 = true → l 7 = true)

def PInv (g R S : Nat) (bs : List Int) (n procs i z : Int) (ss : List Stm) (u y15 y16 : Value) (w : World) (l : Nat → Bool) (a : Act) (wr : World) : Prop :=
 ∃ x17 x18 x19 x20 x21 x22 x23 x24 x25 : Value, a = { tmps := List.toArray (.pointer (some ⟨g, 0, none⟩) :: .int .i64 procs :: undef :: undef :: .pointer (some ⟨R, 0, none⟩) :: .int .i64 n :: .pointer (some ⟨S, 0, none⟩) :: .int .i64 i :: .pointer (some ⟨g, 0, none⟩) :: .int .i64 z :: .int .i64 n :: .agg #[.slice none 0 0] :: .int .i64 i :: .int .i64 n :: .bool true :: y15 :: y16 :: x17 :: x18 :: x19 :: x20 :: x21 :: x22 :: x23 :: x24 :: x25 :: undef :: undef :: undef :: undef :: undef :: undef :: undef :: []), defers := [] } ∧
  Cur wr g bs ∧ w.grownBy wr (some g) ∧ wr.heap[R]? = some (.cells #[.slice none 0 0] 81 (0, 0)) ∧ S < wr.heap.size ∧ PFct g S n procs ss u l x17 x18 x19 x20 x21 x22 x23 x24 x25 wr

theorem l3DrawProc (g : Nat) (bs : List Int) (procs : Int) (hq : procs ≤ 4294967296) (w : World) (hl : bs.length ≤ 1048576) (hc : Cur w g bs) :
 Calls Try.prog 119 #[.pointer (some ⟨g, 0, none⟩), .int .i64 procs] w fun e w' =>
  ∃ (u : Value) (ss : List Stm), e = .returned (.agg #[u]) ∧ 1 ≤ ss.length ∧ ss.length ≤ 7 ∧ w'.ownsRow w.heap.size 92 3 u ss.length (cells3 ss) ∧ Cur w' g bs ∧ w.grownBy w' (some g) := by
 obtain ⟨i0, hi, hz0, hz1, hz2⟩ := info_parts infoStm
 have hgw := curLt hc
 have hcA := curAlloc hc (.cells #[.slice none 0 0] 81)
 have HA := heap_alloc_new w (.cells #[.slice none 0 0] 81)
 have gA := World.grownBy_alloc w (.cells #[.slice none 0 0] 81) (some g)
 go_enter Try.func119, Try.ntmps119
 go_wp2_with fail
 go_at_call 86
 refine (l1Below g bs 7 (by omega) _ hl hcA).mono ?_
 rintro e w1 ⟨z, rfl, hz0', hz1', _, hc1, hg1⟩
 have hz1' := hz1' (by omega)
 have R1 := blockGrown HA hg1 hgw
 have G1 := grown_trans gA hg1
 clear hcA HA gA hg1
 have z1 : w.heap.size < w1.heap.size := (Array.getElem?_eq_some_iff.1 R1).1
 have hc2 := curAlloc hc1 (.cells #[.slice none 0 0] 81)
 have X2 := heap_alloc_new w1 (.cells #[.slice none 0 0] 81)
 have R2 := (old_block (o := .cells #[.slice none 0 0] 81) z1).trans R1
 have G2 := grownAlloc G1 (.cells #[.slice none 0 0] 81)
 have z2 : (w1.alloc (.cells #[.slice none 0 0] 81)).heap.size = w1.heap.size + 1 := by simp
 clear R1
 go_wp2_with fail
 generalize w1.alloc (.cells #[.slice none 0 0] 81) = W2 at *
 obtain ⟨S, hS⟩ : ∃ S, w1.heap.size = S := ⟨_, rfl⟩
 have hgS : g < S := by have := curLt hc1; omega
 rw [hS] at X2 z2 z1 ⊢
 clear hS hc1 G1
 go_loopw [7] (fun q wr => ∃ (j : Nat) (ss : List Stm) (u : Value), (j : Int) ≤ z ∧ q = .int .i64 (1 + j) ∧ ss.length = j ∧ wr.ownsRow (S + 1) 92 3 u ss.length (cells3 ss) ∧ wr.heap[S]? = some (.cells #[u] 81 (0, 0)) ∧
  wr.heap[w.heap.size]? = some (.cells #[.slice none 0 0] 81 (0, 0)) ∧ S < wr.heap.size ∧ Cur wr g bs ∧ w.grownBy wr (some g)) (fun q _ => (1 + z - intOf q).toNat)
 case atStart => exact ⟨0, [], .slice none 0 0, by omega, rfl, rfl, ⟨by simp [cells3], .inl ⟨rfl, rfl⟩⟩, X2, R2, by omega, hc2, G2⟩
 case round =>
  obtain ⟨j, ss, u, hj, rfl, hjs, hown, hSb, hRb, hSz0, hcur, hgr0⟩ := hrel
  have hus := ownSlice hown
  by_cases hlt : (j : Int) < z
  · have hlt' : (1 : Int) + j < 1 + z := by omega
    go_wp2_with fail
    refine wp_region_inv (by kernel_rfl) (by kernel_rfl) (PInv g w.heap.size S bs (1 + z) procs (1 + j) z ss u u15 u16 w) ?h0 ?hs ?he
    case h0 => exact ⟨_, _, _, _, _, _, _, _, _, rfl, cur_below hcur (by go_grown), ⟨hgr0.os, hgr0.tape, hgr0.output, hgr0.size, hgr0.block⟩, hRb, hSz0, by simp, by simp, by simp, by simp, by simp, by simp, fun _ => ⟨hown, hSb, by simp⟩, by simp, by simp, by simp⟩
    case hs =>
     intro l i o a wr ho hI hli haf
     obtain ⟨x17, x18, x19, x20, x21, x22, x23, x24, x25, rfl, hcr, hgr, hR, hSz, pf⟩ := hI
     have hi10 : i < 10 := (Array.getElem?_eq_some_iff.1 ho).1
     have hcases : i = 0 ∨ i = 1 ∨ i = 2 ∨ i = 3 ∨ i = 4 ∨ i = 5 ∨ i = 6 ∨ i = 7 ∨ i = 8 ∨ i = 9 := by omega
     rcases hcases with rfl | rfl | rfl | rfl | rfl | rfl | rfl | rfl | rfl | rfl
     · simp only [List.getElem?_toArray, List.getElem?_cons_zero, Option.some.injEq] at ho
       subst ho
       go_wp2_with fail
       obtain ⟨p0, p1, p2, p3, p4, p5, p7f, p7, p8, p9⟩ := pf
       exact ⟨_, _, _, _, _, _, _, _, _, rfl, hcr, hgr, hR, hSz, fun _ => rfl, p1, p2, p3, p4, p5, p7f, p7, p8, p9⟩
     · simp only [List.getElem?_toArray, List.getElem?_cons_zero, List.getElem?_cons_succ, Option.some.injEq] at ho
       subst ho
       simp [Region.binds] at haf
       obtain rfl : x17 = _ := pf.1 haf
       have hu0 : wr.heap[S]? = some (.cells #[u] 81 (0, 0)) := by
        cases h7 : l 7 with
        | false => exact (pf.2.2.2.2.2.2.1 h7).2.1
        | true => have h1 := (pf.2.2.2.2.2.2.2.1 h7).1; rw [h1] at hli; cases hli
       obtain ⟨ua, um, uc, rfl⟩ := hus
       obtain ⟨c0, f0⟩ := oneCell hu0
       clear hu0
       go_wp2_with fail
       obtain ⟨p0, p1, p2, p3, p4, p5, p7f, p7, p8, p9⟩ := pf
       exact ⟨_, _, _, _, _, _, _, _, _, rfl, hcr, hgr, hR, hSz, p0, fun _ => rfl, p2, p3, p4, p5, p7f, (fun h => ⟨rfl, (p7 h).2⟩), p8, p9⟩
     · simp only [List.getElem?_toArray, List.getElem?_cons_zero, List.getElem?_cons_succ, Option.some.injEq] at ho
       subst ho
       go_wp2_with fail
       obtain ⟨p0, p1, p2, p3, p4, p5, p7f, p7, p8, p9⟩ := pf
       exact ⟨_, _, _, _, _, _, _, _, _, rfl, hcr, hgr, hR, hSz, p0, p1, fun _ => rfl, p3, p4, p5, p7f, p7, p8, p9⟩
     · simp only [List.getElem?_toArray, List.getElem?_cons_zero, List.getElem?_cons_succ, Option.some.injEq] at ho
       subst ho
       go_wp2_with fail
       obtain ⟨p0, p1, p2, p3, p4, p5, p7f, p7, p8, p9⟩ := pf
       exact ⟨_, _, _, _, _, _, _, _, _, rfl, hcr, hgr, hR, hSz, p0, p1, p2, fun _ => rfl, p4, p5, p7f, p7, p8, p9⟩
     · simp only [List.getElem?_toArray, List.getElem?_cons_zero, List.getElem?_cons_succ, Option.some.injEq] at ho
       subst ho
       go_wp2_with fail
       obtain ⟨p0, p1, p2, p3, p4, p5, p7f, p7, p8, p9⟩ := pf
       exact ⟨_, _, _, _, _, _, _, _, _, rfl, hcr, hgr, hR, hSz, p0, p1, p2, p3, fun _ => rfl, p5, p7f, p7, p8, p9⟩
     · simp only [List.getElem?_toArray, List.getElem?_cons_zero, List.getElem?_cons_succ, Option.some.injEq] at ho
       subst ho
       simp [Region.binds] at haf
       obtain rfl : x19 = _ := pf.2.2.1 haf.1
       obtain rfl : x20 = _ := pf.2.2.2.1 haf.2.1
       obtain rfl : x21 = _ := pf.2.2.2.2.1 haf.2.2
       have h7 : l 7 = false := by
        cases h7 : l 7 with
        | false => rfl
        | true => rw [(pf.2.2.2.2.2.2.2.1 h7).2.1] at hli; cases hli
       go_wp2_with fail
       go_at_call 145
       refine (l3DrawStmt g bs _ procs (by omega) hq wr hl hcr).mono ?_
       rintro e w6 ⟨k6, x6, y6, rfl, hc6, hg6⟩
       have s6 := hg6.size
       go_wp2_with fail
       obtain ⟨p0, p1, p2, p3, p4, p5, p7f, p7, p8, p9⟩ := pf
       exact ⟨_, _, _, _, _, _, _, _, _, rfl, hc6, grown_trans hgr hg6, blockGrown hR hg6 hgw, by omega, p0, p1, p2, p3, p4, fun _ => ⟨⟨k6, x6, y6⟩, rfl⟩, (fun h => ⟨own_grown (p7f h).1 hg6 (fun q hq e => by have := ((p7f h).1.lt q hq).1; cases e; omega), blockGrown (p7f h).2.1 hg6 hgS, fun h6 => by obtain ⟨b, t, e1, e2, e3⟩ := (p7f h).2.2 h6; exact ⟨b, t, e1, e2, blockGrown e3 hg6 e2⟩⟩), (fun h => absurd (show l 7 = true from h) (by rw [h7]; simp)), p8, p9⟩
     · simp only [List.getElem?_toArray, List.getElem?_cons_zero, List.getElem?_cons_succ, Option.some.injEq] at ho
       subst ho
       simp [Region.binds] at haf
       obtain ⟨t6, rfl⟩ : ∃ s : Stm, x22 = _ := pf.2.2.2.2.2.1 haf
       have h7 : l 7 = false := by
        cases h7 : l 7 with
        | false => rfl
        | true => rw [(pf.2.2.2.2.2.2.2.1 h7).2.2.1] at hli; cases hli
       have hgl := curLt hcr
       go_wp2_with fail
       obtain ⟨p0, p1, p2, p3, p4, p5, p7f, p7, p8, p9⟩ := pf
       exact ⟨_, _, _, _, _, _, _, _, _, rfl, curAlloc hcr _, grownAlloc hgr _, (old_block (Array.getElem?_eq_some_iff.1 hR).1).trans hR, by simp; omega, p0, p1, p2, p3, p4, p5, (fun h => ⟨(p7f h).1.alloc _, (old_block (Array.getElem?_eq_some_iff.1 (p7f h).2.1).1).trans (p7f h).2.1, fun _ => ⟨wr.heap.size, t6, rfl, hgl, heap_alloc_new wr _⟩⟩), (fun h => absurd (show l 7 = true from h) (by rw [h7]; simp)), p8, p9⟩
     · simp only [List.getElem?_toArray, List.getElem?_cons_zero, List.getElem?_cons_succ, Option.some.injEq] at ho
       subst ho
       simp [Region.binds] at haf
       obtain rfl : x18 = _ := pf.2.1 haf.1
       obtain ⟨own7, S7, h67⟩ := pf.2.2.2.2.2.2.1 hli
       obtain ⟨b, t, rfl, hb1, hb2⟩ := h67 haf.2.1
       have news := stm_cells hb2
       have hssz : ss.length ≤ 7 := by omega
       have HNW : Hid _ := news
       clear news
       have HO7 : Hid (wr.ownsRow (S + 1) 92 3 x18 ss.length (cells3 ss)) := own7
       clear own7 h67
       go_wp2_with (at_builtin; refine wpList_append_own _ rfl (.tmp 18) (.tmp 23) 79 rfl (S + 1) 92 i0 (.agg #[.int .i64 0, .int .i64 0, .int .i64 0]) 3 24 Try.underlying79 hi hz0 hz1 hz2 rfl (by decide) _ _ _ rfl HO7.out ⟨b, 0, none⟩ 1 _ (cells3 [t]) rfl rfl HNW.out (stm_oneCell t) (by unfold maxLen; omega) (by omega) (by omega) ?_; intro v7 w7 own7 grow7 _)
       have s7 := grow7.size
       have hrow : ∀ q, Value.ownBlock x18 = some q → S + 1 ≤ q := fun q hq => (HO7.out.lt q hq).1
       have e7 : cells3 ss ++ cells3 [t] = cells3 (ss ++ [t]) := (cells3_append ss [t]).symm
       rw [e7] at own7
       have S8 := (grow7.block S (by omega) (fun e => by have := hrow _ e.symm; omega)).trans S7
       have R8 := (grow7.block w.heap.size (by have := (Array.getElem?_eq_some_iff.1 hR).1; omega) (fun e => by have := hrow _ e.symm; omega)).trans hR
       have hc8 := cur_grown hcr grow7 (fun q hq => by have := hrow q hq; omega)
       have g8 : w.grownBy w7 (some g) := ⟨grow7.os.trans hgr.os, grow7.tape.trans hgr.tape, grow7.output.trans hgr.output, Nat.le_trans hgr.size grow7.size, fun q hq1 hq2 => (grow7.block q (Nat.lt_of_lt_of_le hq1 hgr.size) (fun e => by have := hrow _ e.symm; omega)).trans (hgr.block q hq1 hq2)⟩
       obtain ⟨p0, p1, p2, p3, p4, p5, p7f, p7, p8, p9⟩ := pf
       exact ⟨_, _, _, _, _, _, _, _, _, rfl, hc8, g8, R8, by omega, p0, p1, p2, p3, p4, p5, (fun h => by simp at h), (fun _ => ⟨haf.1, haf.2.2, haf.2.1, t, by simpa using own7, fun _ => S8, fun h => by have := p9 h; rw [this] at hli; cases hli⟩), p8, (fun _ => rfl)⟩
     · simp only [List.getElem?_toArray, List.getElem?_cons_zero, List.getElem?_cons_succ, Option.some.injEq] at ho
       subst ho
       go_wp2_with fail
       obtain ⟨p0, p1, p2, p3, p4, p5, p7f, p7, p8, p9⟩ := pf
       exact ⟨_, _, _, _, _, _, _, _, _, rfl, hcr, hgr, hR, hSz, p0, p1, p2, p3, p4, p5, p7f, p7, fun _ => rfl, p9⟩
     · simp only [List.getElem?_toArray, List.getElem?_cons_zero, List.getElem?_cons_succ, Option.some.injEq] at ho
       subst ho
       simp [Region.binds] at haf
       obtain rfl : x25 = _ := pf.2.2.2.2.2.2.2.2.1 haf.1
       have h77 : l 7 = true := by simp [haf]
       obtain ⟨t1, t5, t6, t, own9, S9, _⟩ := pf.2.2.2.2.2.2.2.1 h77
       have S9 := S9 hli
       obtain ⟨va, vm, vc, rfl⟩ := ownSlice own9
       obtain ⟨c0, f0⟩ := oneCell S9
       have SX0 : (wr.setCell ⟨S, 0, none⟩ (.slice va vm vc)).heap[S]? = some (.cells #[.slice va vm vc] 81 (0, 0)) := by
        have := heap_setCell_same wr S 0 _ 81 (.slice va vm vc) S9
        simpa using this
       have SX : Hid _ := SX0
       clear SX0
       have own10 : Hid ((wr.setCell ⟨S, 0, none⟩ (.slice va vm vc)).ownsRow (S + 1) 92 3 (.slice va vm vc) (ss ++ [t]).length (cells3 (ss ++ [t]))) := ownsRow_setCell_below own9 (by simp) _
       have RX : Hid ((wr.setCell ⟨S, 0, none⟩ (.slice va vm vc)).heap[w.heap.size]? = some (.cells #[.slice none 0 0] 81 (0, 0))) := (Below.heap_setCell _ _ _ _ (by simp; omega)).trans hR
       clear own9 S9
       go_wp2_with fail
       obtain ⟨p0, p1, p2, p3, p4, p5, p7f, p7, p8, p9⟩ := pf
       exact ⟨_, _, _, _, _, _, _, _, _, rfl, curSet hcr hgS _, grownSet hgr (by omega) _, RX.out, by simp [World.setCell]; omega, p0, p1, p2, p3, p4, p5, (fun h => absurd (show l 7 = false from h) (by rw [h77]; simp)), (fun _ => ⟨t1, t5, t6, t, own10.out, (fun h => by simp at h), fun _ => SX.out⟩), (fun _ => rfl), (fun _ => h77)⟩
    case he =>
     intro l a wr hI hall
     obtain ⟨x17, x18, x19, x20, x21, x22, x23, x24, x25, rfl, hcr, hgr, hR, hSz, pf⟩ := hI
     obtain ⟨_, _, _, t, own9, _, S9⟩ := pf.2.2.2.2.2.2.2.1 (hall 7 (by simp))
     have S9 := S9 (hall 9 (by simp))
     have HSS : Hid _ := S9
     clear pf hall S9
     go_wp2_with fail
     go_roundw
     case rel => exact ⟨j + 1, ss ++ [t], x24, by omega, by go_num, by simp [hjs], own9, HSS.out, hR, hSz, hcr, hgr⟩
     case measure => simp [intOf]; omega
  · have hjz : z = (j : Int) := by omega
    subst hjz
    obtain ⟨ua, um, uc, rfl⟩ := hus
    obtain ⟨c0, f0⟩ := oneCell hSb
    have HO7 : Hid (wr.ownsRow (S + 1) 92 3 (.slice ua um uc) ss.length (cells3 ss)) := hown
    have hnew := heap_alloc_new wr (stm3 ⟨9, 0, 0⟩)
    have HNW : Hid _ := stm_cells (s := ⟨9, 0, 0⟩) hnew
    have zA : (wr.alloc (stm3 ⟨9, 0, 0⟩)).heap.size = wr.heap.size + 1 := by simp
    have HZA : Hid _ := zA
    have hSb' : Hid _ := hSb
    clear hnew hown zA hSb
    have hssz : ss.length ≤ 6 := by omega
    have hown8 : Hid ((wr.alloc (stm3 ⟨9, 0, 0⟩)).ownsRow (S + 1) 92 3 (.slice ua um uc) ss.length (cells3 ss)) := HO7.out.alloc _
    have hSle : S + 1 ≤ (wr.alloc (stm3 ⟨9, 0, 0⟩)).heap.size := by rw [HZA.out]; omega
    have HSL : Hid _ := hSle
    clear hSle
    go_wp2_with (first
     | (at_builtin; refine wpList_append_own _ rfl (.tmp 27) (.tmp 29) 79 rfl (S + 1) 92 i0 (.agg #[.int .i64 0, .int .i64 0, .int .i64 0]) 3 24 Try.underlying79 hi hz0 hz1 hz2 rfl (by decide) _ _ _ rfl hown8.out ⟨wr.heap.size, 0, none⟩ 1 _ (cells3 [⟨9, 0, 0⟩]) rfl rfl HNW.out (stm_oneCell _) (by unfold maxLen; omega) (by omega) HSL.out ?_; intro v7 w7 own7 grow7 _; obtain ⟨va, vm, vc, rfl⟩ := ownSlice own7; have s7 := grow7.size; rw [HZA.out] at s7; have hrow : ∀ q, Value.ownBlock (.slice ua um uc) = some q → S + 1 ≤ q := (fun q hq => (HO7.out.lt q hq).1); have S8 := (grow7.block S (by rw [HZA.out]; omega) (fun e => by have := hrow _ e.symm; omega)).trans ((old_block hSz0).trans hSb'.out); have R8 := (grow7.block w.heap.size (by rw [HZA.out]; omega) (fun e => by have := hrow _ e.symm; omega)).trans ((old_block (by omega)).trans hRb); clear c0 f0; obtain ⟨c0, f0⟩ := oneCell S8; have S9 := heap_setCell_same w7 S 0 _ 81 (.slice va vm vc) S8; have R9 := (Below.heap_setCell w7 ⟨S, 0, none⟩ (.slice va vm vc) w.heap.size (by simp; omega)).trans R8; simp at S9; obtain ⟨c1, f1⟩ := oneCell S9; obtain ⟨c2, f2⟩ := oneCell R9; have HS9 : Hid _ := S9; have HR9 : Hid _ := R9; have HS8 : Hid _ := S8; clear S9 R9 S8 R8)
     | go_in)
    have R10 := heap_setCell_same _ w.heap.size 0 _ 81 (.slice va vm vc) HR9.out
    simp at R10
    obtain ⟨d0, _⟩ := oneCell R10
    refine bodyPost_ret (v := .agg #[.slice va vm vc]) (by simp [results, Try.results119, go_sem, d0]) rfl ?_
    have e7 : cells3 ss ++ cells3 [⟨9, 0, 0⟩] = cells3 (ss ++ [⟨9, 0, 0⟩]) := (cells3_append ss _).symm
    rw [e7] at own7
    have own8 := ownsRow_setCell_below (ownsRow_setCell_below own7 (a := ⟨S, 0, none⟩) (by simp) (.slice va vm vc)) (a := ⟨w.heap.size, 0, none⟩) (by simp; omega) (.slice va vm vc)
    have hc8 := cur_grown (curAlloc hcur (stm3 ⟨9, 0, 0⟩)) grow7 (fun q hq => by have := hrow q hq; omega)
    have gA := grownAlloc hgr0 (stm3 ⟨9, 0, 0⟩)
    have g8 : w.grownBy w7 (some g) := ⟨grow7.os.trans gA.os, grow7.tape.trans gA.tape, grow7.output.trans gA.output, Nat.le_trans gA.size grow7.size, fun q hq1 hq2 => (grow7.block q (Nat.lt_of_lt_of_le hq1 gA.size) (fun e => by have := hrow _ e.symm; omega)).trans (gA.block q hq1 hq2)⟩
    exact ⟨.slice va vm vc, rfl, ss ++ [⟨9, 0, 0⟩], by simp, by simp; omega, by simpa using own_mono own8 (by omega), curSet (curSet hc8 hgS _) hgw _, grownSet (grownSet g8 (by omega) _) (Nat.le_refl _) _⟩

end Go.Proofs.Ytnjbihfceckpfaa
