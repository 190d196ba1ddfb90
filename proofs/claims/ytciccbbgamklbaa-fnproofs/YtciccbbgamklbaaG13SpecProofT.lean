/-
  Put together out of: ImplProofW, MarkStm, Lift, OpenProc, WalkProof, SpecProofT.
-/
import Derived.Test.YtciccbbgamklbaaG12ImplProof
import Derived.Test.YtciccbbgamklbaaG03Proc
import Derived.Test.YtciccbbgamklbaaG00RelA
import Derived.Carry
import Derived.Lib.SmallJoins
import Derived.Test.YtciccbbgamklbaaG10SpecProof2
/-
  impl.Proof, at any input.
-/
namespace Go.Proofs.Ytciccbbgamklbaa
open Go.RowKit Go.Shelf
set_option linter.unusedVariables false
set_option linter.unusedSimpArgs false
set_option maxHeartbeats 4000000
set_option maxRecDepth 20000
attribute [local go_sem] Oper.semAt_some

theorem implProof (ss : List Stm) (c s i t : Int) (A : List Int) (hAA : ProofAns c ss s i t A) (v : Value) (w : World) (hl : ss.length ≤ maxLen) (hv : Reads3 w v ss) :
    Calls Try.prog 8 #[.agg #[v], .int .i64 c, .int .i64 s, .int .i64 i, .int .i64 t] w fun e w' => ∃ u, e = .returned u ∧ w'.ownsRow w.heap.size 2 1 u A.length (ints A) ∧ Below w.heap.size w w' := by
  have hfi := fun W (hW : Below w.heap.size w W) => flowsInside ss c s v W hl (reads3_below hv hW)
  obtain ⟨hA, hA0⟩ := hAA
  have hwi := fun W => within i ss.length W
  have hwt := fun W => within t 7 W
  obtain ⟨W0, hW0⟩ : ∃ W0, (((w.alloc (.cells #[v] 30)).alloc (.cells #[.int .i64 i] 2)).alloc (.cells #[.int .i64 t] 2)).alloc (.cells #[.slice none 0 0] 26) = W0 := ⟨_, rfl⟩
  have l4 := laid4 w (.cells #[v] 30) (.cells #[.int .i64 i] 2) (.cells #[.int .i64 t] 2) (.cells #[.slice none 0 0] 26)
  rw [hW0] at l4
  obtain ⟨P0, I0, T0, R0, z0, b0⟩ := l4
  have HW : Hid ((((w.alloc (.cells #[v] 30)).alloc (.cells #[.int .i64 i] 2)).alloc (.cells #[.int .i64 t] 2)).alloc (.cells #[.slice none 0 0] 26) = W0) := hW0
  clear hW0
  have hfi := hfi W0 b0
  cases hin : (procOk ss && isCl c && inB s 0 127)
  · obtain rfl := hA0 (by rw [hin]; rfl)
    rw [hin] at hfi
    go_enter Try.func8, Try.ntmps8
    go_wp2_with fail
    go_at_call 30
    rw [HW.out]
    refine hfi.mono ?_
    rintro e w2 ⟨rfl, b2⟩
    have L2 := b0.trans (b2.mono b0.size)
    have s2 := b2.size
    have R2 := (b2.block _ (by omega)).trans R0
    obtain ⟨c2, f2⟩ := one_cell R2
    have hlt : w.heap.size + 1 + 1 + 1 < w2.heap.size := by omega
    have c3 : ∀ o, (w2.alloc o).cell? ⟨w.heap.size + 1 + 1 + 1, 0, none⟩ = some (.slice none 0 0) := fun o => (one_cell ((old_block hlt).trans R2)).1
    have f3 : ∀ o, (w2.alloc o).frozen? ⟨w.heap.size + 1 + 1 + 1, 0, none⟩ = false := fun o => (one_cell ((old_block hlt).trans R2)).2
    have d3 : ∀ o, ((w2.setCell ⟨w.heap.size + 1 + 1 + 1, 0, none⟩ (.slice none 0 0)).alloc o).cell? ⟨w.heap.size + 1 + 1 + 1, 0, none⟩ = some (.slice none 0 0) := fun o => (one_cell ((old_block (by simp; omega)).trans (one_set R2 _))).1
    simp only [Bool.false_eq_true, if_false]
    go_wp2
    refine bodyPost_ret (v := .slice none 0 0) (by simp [results, Try.results8, go_sem, d3]) rfl ?_
    exact ⟨_, rfl, nil_own _ _, (L2.setCell (by simp; omega) _).alloc (by simp; omega) _⟩
  have hparts := hin
  rw [hin] at hfi hA hA0
  simp only [Bool.true_and] at hA hA0
  cases hw : (wiB i ss.length && inB t 0 6)
  case true =>
    have hw' := hw
    simp only [Bool.and_eq_true] at hw'
    obtain ⟨j, hj⟩ : ∃ j : Nat, i = (j : Int) := ⟨i.toNat, by have := hw'.1; simp [wiB] at this; omega⟩
    obtain ⟨u, hu⟩ : ∃ u : Nat, t = (u : Int) := ⟨t.toNat, by have := hw'.2; simp [inB] at this; omega⟩
    have hI := hA hw j u hj hu
    subst hj hu
    exact implProof2 ss c s j u A hI (by have := hw'.1; simp [wiB] at this; omega) (by have := hw'.2; simp [inB] at this; omega) v w hl hv hin
  obtain rfl := hA0 hw
  simp only [if_true] at hfi
  unfold flowsV at hfi
  obtain ⟨m, hm⟩ : ∃ m, markFn c = m := ⟨_, rfl⟩
  rw [hm] at hfi
  clear hm hA hA0 hparts hin
  obtain ⟨vo, vc, hv0, hcv⟩ := id hv
  have hwt' : inB t 0 6 = wiB t 7 := by
    rw [Bool.eq_iff_iff]; simp [inB, wiB]; omega
  rw [hwt'] at hw
  clear hwt' hv hcv
  have HV0 : Hid _ := hv0
  clear hv0
  cases e1 : wiB i ss.length
  · rw [e1] at hwi
    clear hw e1 hwt
    go_enter Try.func8, Try.ntmps8
    go_wp2_with fail
    go_at_call 30
    rw [HW.out]
    refine hfi.mono ?_
    rintro e w2 ⟨rfl, b2⟩
    have L2 := b0.trans (b2.mono b0.size)
    have s2 := b2.size
    have R2 := (b2.block _ (by omega)).trans R0
    have hlt : w.heap.size + 1 + 1 + 1 < w2.heap.size := by omega
    have P3 : ∀ o, (w2.alloc o).cell? ⟨w.heap.size, 0, none⟩ = some v := fun o => (one_cell ((old_block (by omega)).trans ((b2.block _ (by omega)).trans P0))).1
    have I3 : ∀ o, (w2.alloc o).cell? ⟨w.heap.size + 1, 0, none⟩ = some (.int .i64 i) := fun o => (one_cell ((old_block (by omega)).trans ((b2.block _ (by omega)).trans I0))).1
    have T3 : ∀ o, (w2.alloc o).cell? ⟨w.heap.size + 1 + 1, 0, none⟩ = some (.int .i64 t) := fun o => (one_cell ((old_block (by omega)).trans ((b2.block _ (by omega)).trans T0))).1
    rw [HV0.out] at P3
    obtain ⟨c2, f2⟩ := one_cell R2
    have c3 : ∀ o, (w2.alloc o).cell? ⟨w.heap.size + 1 + 1 + 1, 0, none⟩ = some (.slice none 0 0) := fun o => (one_cell ((old_block hlt).trans R2)).1
    have f3 : ∀ o, (w2.alloc o).frozen? ⟨w.heap.size + 1 + 1 + 1, 0, none⟩ = false := fun o => (one_cell ((old_block hlt).trans R2)).2
    have d3 : ∀ o, ((w2.setCell ⟨w.heap.size + 1 + 1 + 1, 0, none⟩ (.slice none 0 0)).alloc o).cell? ⟨w.heap.size + 1 + 1 + 1, 0, none⟩ = some (.slice none 0 0) := fun o => (one_cell ((old_block (by simp; omega)).trans (one_set R2 _))).1
    go_wp2_with fail
    go_at_call 31
    refine (hwi _).mono ?_
    rintro e w3 ⟨rfl, rfl⟩
    clear hwi
    go_wp2
    refine bodyPost_ret (v := .slice none 0 0) (by simp [results, Try.results8, go_sem, d3]) rfl ?_
    exact ⟨_, rfl, nil_own _ _, (L2.setCell (by simp; omega) _).alloc (by simp; omega) _⟩
  · rw [e1] at hwi hw
    simp only [Bool.true_and] at hw
    rw [hw] at hwt
    clear hw e1
    go_enter Try.func8, Try.ntmps8
    go_wp2_with fail
    go_at_call 30
    rw [HW.out]
    refine hfi.mono ?_
    rintro e w2 ⟨rfl, b2⟩
    have L2 := b0.trans (b2.mono b0.size)
    have s2 := b2.size
    have R2 := (b2.block _ (by omega)).trans R0
    have hlt : w.heap.size + 1 + 1 + 1 < w2.heap.size := by omega
    have P3 : ∀ o, (w2.alloc o).cell? ⟨w.heap.size, 0, none⟩ = some v := fun o => (one_cell ((old_block (by omega)).trans ((b2.block _ (by omega)).trans P0))).1
    have I3 : ∀ o, (w2.alloc o).cell? ⟨w.heap.size + 1, 0, none⟩ = some (.int .i64 i) := fun o => (one_cell ((old_block (by omega)).trans ((b2.block _ (by omega)).trans I0))).1
    have T3 : ∀ o, (w2.alloc o).cell? ⟨w.heap.size + 1 + 1, 0, none⟩ = some (.int .i64 t) := fun o => (one_cell ((old_block (by omega)).trans ((b2.block _ (by omega)).trans T0))).1
    rw [HV0.out] at P3
    obtain ⟨c2, f2⟩ := one_cell R2
    have c3 : ∀ o, (w2.alloc o).cell? ⟨w.heap.size + 1 + 1 + 1, 0, none⟩ = some (.slice none 0 0) := fun o => (one_cell ((old_block hlt).trans R2)).1
    have f3 : ∀ o, (w2.alloc o).frozen? ⟨w.heap.size + 1 + 1 + 1, 0, none⟩ = false := fun o => (one_cell ((old_block hlt).trans R2)).2
    have d3 : ∀ o, ((w2.setCell ⟨w.heap.size + 1 + 1 + 1, 0, none⟩ (.slice none 0 0)).alloc o).cell? ⟨w.heap.size + 1 + 1 + 1, 0, none⟩ = some (.slice none 0 0) := fun o => (one_cell ((old_block (by simp; omega)).trans (one_set R2 _))).1
    go_wp2_with fail
    go_at_call 31
    refine (hwi _).mono ?_
    rintro e w3 ⟨rfl, rfl⟩
    clear hwi
    go_wp2_with fail
    go_at_call 31
    refine (hwt _).mono ?_
    rintro e w3 ⟨rfl, rfl⟩
    clear hwt
    go_wp2
    refine bodyPost_ret (v := .slice none 0 0) (by simp [results, Try.results8, go_sem, d3]) rfl ?_
    exact ⟨_, rfl, nil_own _ _, (L2.setCell (by simp; omega) _).alloc (by simp; omega) _⟩

end Go.Proofs.Ytciccbbgamklbaa

/-
  markStmtS, markProc: they write into the rows of statements alone.
-/
namespace Go.Proofs.Ytciccbbgamklbaa
open Go.RowKit
set_option linter.unusedVariables false
set_option maxHeartbeats 1000000

/-- Only rows of statements from block base on and below top have been written into. -/
structure Marks (base top : Nat) (w w' : World) : Prop where
  os : w'.os = w.os
  tape : w'.tape = w.tape
  output : w'.output = w.output
  size : w.heap.size ≤ w'.heap.size
  out : ∀ k, k < w.heap.size → k < base ∨ top ≤ k → w'.heap[k]? = w.heap[k]?
  other : ∀ (g : Nat) (cur : Array Value) (t : TypeId) (f : Nat × Nat), w.heap[g]? = some (Obj.cells cur t f) → t ≠ 54 → w'.heap[g]? = some (Obj.cells cur t f)
  stm : ∀ (g : Nat) (cur : Array Value), w.heap[g]? = some (Obj.cells cur 54 (0, 0)) → ∃ cur' : Array Value, w'.heap[g]? = some (Obj.cells cur' 54 (0, 0)) ∧ cur'.size = cur.size

theorem Marks.refl (base top : Nat) (w : World) : Marks base top w w := ⟨rfl, rfl, rfl, Nat.le_refl _, fun _ _ _ => rfl, fun _ _ _ _ h _ => h, fun _ cur h => ⟨cur, h, rfl⟩⟩

theorem Marks.trans {base top : Nat} {a b c : World} (h : Marks base top a b) (k : Marks base top b c) : Marks base top a c :=
  ⟨k.os.trans h.os, k.tape.trans h.tape, k.output.trans h.output, Nat.le_trans h.size k.size, fun i hi ho => (k.out i (Nat.lt_of_lt_of_le hi h.size) ho).trans (h.out i hi ho),
    fun g cur t f hg ht => k.other g cur t f (h.other g cur t f hg ht) ht, fun g cur hg => by
      obtain ⟨c1, h1, s1⟩ := h.stm g cur hg
      obtain ⟨c2, h2, s2⟩ := k.stm g c1 h1
      exact ⟨c2, h2, s2.trans s1⟩⟩

theorem Marks.setCell {base top : Nat} {a w : World} (h : Marks base top a w) {g j : Nat} {cur : Array Value} (hg : w.heap[g]? = some (.cells cur 54 (0, 0))) (hb : base ≤ g) (ht : g < top) (u : Value) : Marks base top a (w.setCell ⟨g, j, none⟩ u) := by
  refine h.trans ⟨rfl, rfl, rfl, by simp [World.setCell], fun k _ hk => Below.heap_setCell _ _ _ _ (by simp; omega), fun g' cur' t f hg' ht' => ?_, fun g' cur' hg' => ?_⟩
  · by_cases e : g' = g
    · subst e
      rw [hg] at hg'
      simp at hg'
      exact absurd hg'.2.1.symm ht'
    · rw [Below.heap_setCell _ _ _ _ e]; exact hg'
  · by_cases e : g' = g
    · subst e
      rw [hg] at hg'
      simp only [Option.some.injEq, Obj.cells.injEq] at hg'
      obtain ⟨rfl, _⟩ := hg'
      exact ⟨_, heap_setCell_same w g' j cur _ u hg, by simp⟩
    · exact ⟨cur', by rw [Below.heap_setCell _ _ _ _ e]; exact hg', rfl⟩

/-- A new block. -/
theorem Marks.alloc {base top : Nat} {a w : World} (h : Marks base top a w) (o : Obj) : Marks base top a (w.alloc o) := by
  refine h.trans ⟨rfl, rfl, rfl, by simp, fun k hk _ => old_block hk, fun g cur t f hg _ => ?_, fun g cur hg => ⟨cur, ?_, rfl⟩⟩
  · rw [old_block (Array.getElem?_eq_some_iff.1 hg).1]; exact hg
  · rw [old_block (Array.getElem?_eq_some_iff.1 hg).1]; exact hg

/-- A row of n statements that may be written into. -/
def Room (base top : Nat) (w : World) (u : Value) (n : Nat) : Prop :=
  (u = .slice none 0 0 ∧ n = 0) ∨ ∃ (g cap : Nat) (cur : Array Value), u = .slice (some ⟨g, 0, none⟩) n cap ∧ w.heap[g]? = some (Obj.cells cur 54 (0, 0)) ∧ n * 3 ≤ cur.size ∧ base ≤ g ∧ g < top

theorem Room.kept {base top : Nat} {w w' : World} {u : Value} {n : Nat} (h : Room base top w u n) (hm : Marks base top w w') : Room base top w' u n := by
  rcases h with h | ⟨g, cap, cur, rfl, hg, hs, h1, h2⟩
  · exact .inl h
  · obtain ⟨c, hc, hz⟩ := hm.stm g cur hg
    exact .inr ⟨g, cap, c, rfl, hc, by omega, h1, h2⟩

theorem room_own {base top : Nat} {w : World} {u : Value} {n : Nat} {xs : List Value} (h : w.ownsRow base 54 3 u n xs) (ht : ∀ k, u.ownBlock = some k → k < top) : Room base top w u n := by
  rcases h.2 with h0 | ⟨g, cap, cur, rfl, hb, hg, hn, hm, hs, _⟩
  · exact .inl h0
  · exact .inr ⟨g, cap, cur, rfl, hg, by rw [hs]; exact Nat.mul_le_mul_right _ hn, hb, ht g rfl⟩

theorem row_at {w : World} {g j : Nat} {cur : Array Value} {t : TypeId} (hg : w.heap[g]? = some (.cells cur t (0, 0))) (hj : j < cur.size) : (∃ x, w.cell? ⟨g, j, none⟩ = some x) ∧ w.frozen? ⟨g, j, none⟩ = false := by
  refine ⟨⟨cur[j], ?_⟩, frozen_of_row w g j cur t hg⟩
  rw [cell_of_row w g j cur t (0, 0) hg]
  simp [hj]

theorem markStmtS (n : Nat) (u : Value) (base top : Nat) (k : Int) (w : World) (hn : n ≤ 1048576) (h1 : 0 ≤ k) (h2 : k ≤ 1099511627776000) (hv : Room base top w u n) :
    Calls Try.prog 36 #[u, .int .i64 k] w fun e w' => e = .returned (.int .i64 (k + 3 * n)) ∧ Marks base top w w' := by
  rcases hv with ⟨rfl, rfl⟩ | ⟨g, cap, cur, rfl, hg, hs, hb, ht⟩
  · go_enter Try.func36, Try.ntmps36
    go_wp2
    refine wp_loop_rounds 1 ?_
    rw [rounds_succ]
    go_wp2
    go_ret
    exact ⟨ret_int (by simp), Marks.refl _ _ _⟩
  · go_enter Try.func36, Try.ntmps36
    go_wp2
    go_loopw [1, 5] (fun q i wr => ∃ j : Nat, j ≤ n ∧ i = .int .i64 j ∧ q = .int .i64 (k + 3 * j) ∧ Marks base top w wr) (fun _ i _ => n - (intOf i).toNat)
    case atStart => exact ⟨0, Nat.zero_le _, rfl, by simp, Marks.refl _ _ _⟩
    case round =>
      obtain ⟨j, hj, rfl, rfl, hm⟩ := hrel
      by_cases hlt : j < n
      · have hlt' : (j : Int) < (n : Int) := by omega
        obtain ⟨c0, hc0, hz0⟩ := hm.stm g cur hg
        obtain ⟨⟨x0, a0⟩, f0⟩ := row_at hc0 (j := j * 3) (by omega)
        obtain ⟨⟨x1, a1⟩, f1⟩ := row_at hc0 (j := j * 3 + 1) (by omega)
        obtain ⟨⟨x2, a2⟩, f2⟩ := row_at hc0 (j := j * 3 + 2) (by omega)
        have hc1 := heap_setCell_same wr g (j * 3) c0 _ (.int .i64 (k + 3 * j)) hc0
        have hc2 := heap_setCell_same _ g (j * 3 + 1) _ _ (.int .i64 (k + 3 * j + 1)) hc1
        have M : Hid (Marks base top w (((wr.setCell ⟨g, j * 3, none⟩ (.int .i64 (k + 3 * j))).setCell ⟨g, j * 3 + 1, none⟩ (.int .i64 (k + 3 * j + 1))).setCell ⟨g, j * 3 + 2, none⟩ (.int .i64 (k + 3 * j + 1 + 1)))) :=
          ((hm.setCell hc0 hb ht _).setCell hc1 hb ht _).setCell hc2 hb ht _
        clear hc0 hc1 hc2 hg
        go_wp2
        go_roundw
        case rel => exact ⟨j + 1, by omega, by go_num, by go_num, M.out⟩
        case measure => simp [intOf]; omega
      · have hjj : j = n := by omega
        subst hjj
        go_wp2
        go_ret
        exact ⟨rfl, hm⟩

theorem Marks.below {base top B : Nat} {w w' : World} (h : Marks base top w w') (hB : B ≤ base) (hs : B ≤ w.heap.size) : Below B w w' :=
  ⟨h.os, h.tape, h.output, h.size, fun k hk => h.out k (by omega) (.inl (by omega))⟩

/-- A row that lies elsewhere stays. -/
theorem own_marks {base top b : Nat} {e : TypeId} {s : Nat} {v : Value} {n : Nat} {xs : List Value} {w w' : World} (h : w.ownsRow b e s v n xs) (hm : Marks base top w w') (hb : ∀ k, v.ownBlock = some k → k < base ∨ top ≤ k) : w'.ownsRow b e s v n xs := by
  refine ⟨h.1, ?_⟩
  rcases h.2 with hn | ⟨g, cap, cur, rfl, hbg, hg, r⟩
  · exact .inl hn
  · exact .inr ⟨g, cap, cur, rfl, hbg, by rw [hm.out g (Array.getElem?_eq_some_iff.1 hg).1 (hb g rfl)]; exact hg, r⟩

theorem markProc (n : Nat) (u : Value) (base top : Nat) (w : World) (hn : n ≤ 1048576) (hv : Room base top w u n) :
    Calls Try.prog 11 #[.agg #[u], .int .i64 1] w fun e w' => e = .returned (.int .i64 (1 + 3 * n)) ∧ Marks base top w w' := by
  have hm := markStmtS n u base top 1 _ hn (by omega) (by omega) (hv.kept ((Marks.refl base top w).alloc (.cells #[u] 30)))
  obtain ⟨ua, un, uc, rfl⟩ : ∃ a m c, u = .slice a m c := by
    rcases hv with ⟨rfl, _⟩ | ⟨_, _, _, rfl, _⟩
    · exact ⟨_, _, _, rfl⟩
    · exact ⟨_, _, _, rfl⟩
  go_enter Try.func11, Try.ntmps11
  go_wp2_with fail
  go_at_call 36
  refine hm.mono ?_
  rintro e w1 ⟨rfl, m1⟩
  go_wp2
  go_ret
  exact ⟨rfl, ((Marks.refl base top w).alloc _).trans m1⟩

end Go.Proofs.Ytciccbbgamklbaa

/-
  From a walk that ends in 'Below' to the row's 'post', for a law: it returns true, and its arguments read as they read before.
-/
namespace Go.Proofs.Ytciccbbgamklbaa
open Go.ChangeShapes Go.WideShapes Go.ChangeAt Go.RowKit

theorem below_trodAll {H : Type} {enc : TypeId × Value → H} {P : Program} (hl : laidOutB P = true) {W W' : World} (hb : Below W.heap.size W W') :
    ∀ (ts : List TypeId) (vs : List Value) (ds : List (DataW H)) (ps : List MemPlace), (∀ t ∈ ts, P.readableRec t = true ∧ t < P.types.size) →
      DataW.TrodAll enc P W 0 (fun _ => true) true ts vs ds ps → (∀ x ∈ ps, x.block < W.heap.size) →
      DataW.TrodAll enc P W' 0 (fun b => decide (b < W.heap.size)) true ts vs ds ps
  | [], vs, ds, ps, _, h, _ => by
    obtain ⟨rfl, rfl, rfl⟩ := trodAll_nil h
    exact trodAll_mk0
  | t :: ts, vs, ds, ps, ht, h, hlt => by
    obtain ⟨v, vs', d, ds', p, q, rfl, rfl, rfl, h0, hr⟩ := trodAll_cons h
    refine trodAll_cons_mk (Below.trod hl (ht t (by simp)).1 (ht t (by simp)).2 h0 hb (fun x hx => hlt x (by simp [hx])))
      (below_trodAll hl hb ts vs' ds' q (fun t' h' => ht t' (by simp [h'])) hr (fun x hx => hlt x (by simp [hx])))

theorem all_readable {P : Program} {ts : List TypeId} (h : ts.all (fun t => P.readableRec t && decide (t < P.types.size)) = true) : ∀ t ∈ ts, P.readableRec t = true ∧ t < P.types.size := by
  intro t ht
  have := List.all_eq_true.1 h t ht
  rw [Bool.and_eq_true] at this
  exact ⟨this.1, of_decide_eq_true this.2⟩

theorem law_post {H : Type} {enc : TypeId × Value → H} {P : Program} {f : Func} {s : ChangeSpec} {W W' : World} {args : Array Value} {ds : List (DataW H)} {before : List MemPlace} {tb : TypeId}
    (hl : laidOutB P = true) (hts : ∀ t ∈ f.params.toList, P.readableRec t = true ∧ t < P.types.size)
    (hW : DataW.Whole enc P f.params.toList s.vars false W args.toList ds [] before)
    (hr : f.resultTypes = #[tb]) (htb : P.underlying tb = some .bool) (hv : s.vars = [])
    (hs : s.fn H (ds ++ []) = { results := [.lit (.bool true)], args := ds }) (hbel : Below W.heap.size W W') :
    s.post enc P f false true false false W args (.bool true) W' := by
  have hlt : ∀ x ∈ before, x.block < W.heap.size := fun x hx => by simpa using hW.lt x hx
  have hW2 := hW
  obtain ⟨p, q, hA, hV, rfl, _, _⟩ := hW2
  rw [hv] at hV
  obtain ⟨_, rfl⟩ := trodVars_none hV
  rw [List.append_nil] at hlt hW
  refine ⟨ds, [], p, [], p, [], hW, ?_, ?_, ?_, hbel.frame _, fun h => by cases h⟩
  · rw [hr, hs]; exact trodAll_mk1 (shut_bool htb _)
  · rw [hs]; exact below_trodAll hl hbel _ _ _ _ hts hA hlt
  · rw [hv, hs]; rfl

end Go.Proofs.Ytciccbbgamklbaa

/-
  Procs and Programs that came in, opened: slices of statements, slices of such slices.
-/
namespace Go.Proofs.Ytciccbbgamklbaa
set_option maxRecDepth 100000
open Go.ChangeShapes Go.WideShapes Go.ChangeAt Go.RowKit
set_option linter.unusedVariables false
set_option maxHeartbeats 4000000

theorem list_of {α : Type} : ∀ (n : Nat) {P : Nat → α → Prop}, (∀ i, i < n → ∃ x, P i x) → ∃ l : List α, l.length = n ∧ ∀ i x, l[i]? = some x → P i x
  | 0, P, _ => ⟨[], rfl, fun i x h => by simp at h⟩
  | n + 1, P, h => by
    obtain ⟨x, hx⟩ := h 0 (by omega)
    obtain ⟨l, hl, hp⟩ := list_of n (P := fun i => P (i + 1)) (fun i hi => h (i + 1) (by omega))
    refine ⟨x :: l, by simp [hl], fun i y hy => ?_⟩
    cases i with
    | zero => simp at hy; subst hy; exact hx
    | succ i => exact hp i y (by simpa using hy)

theorem addr_add (b off j : Nat) : (⟨b, off, none⟩ : Addr).add j = ⟨b, off + j, none⟩ := by unfold Addr.add; split <;> simp_all

section
variable {H : Type} {enc : TypeId × Value → H} {P : Program} {w : World} {base : Nat} {spare : Nat → Bool} {held : Bool}

theorem open_slice {t e : TypeId} {fuel : Nat} {cs : List Value} {x : DataW H × List MemPlace} (ht : P.underlying t = some (.slice e)) (h : DataW.trod enc P w base spare held fuel t cs = some x) :
    ∃ ao len cap, cs = [.slice ao len cap] ∧ len ≤ maxLen ∧ ∀ i, i < len → ∃ a cs' n y, ao = some a ∧ w.cells? base (a.add (i * P.cellsOf e)) (P.cellsOf e) = some cs' ∧ DataW.trod enc P w base spare held n e cs' = some y := by
  rcases DataW.trod_slice ht h with ⟨rfl, _⟩ | ⟨a, len, cap, elems, rest, n, _, rfl, _, hb, hl, hm, hlen, hel, _, _⟩
  · exact ⟨none, 0, 0, rfl, by simp [maxLen], fun i hi => by omega⟩
  · refine ⟨some a, len, cap, rfl, by omega, fun i hi => ?_⟩
    have := hel i hi
    rw [List.getElem?_eq_getElem (by omega), Option.bind_eq_some_iff] at this
    obtain ⟨cs', h1, h2⟩ := this
    exact ⟨a, cs', n, _, rfl, h1, h2⟩

/-- The slice's head is a place of a row, where it holds anything. -/
theorem head_none {a : Addr} {len c : Nat} {cs' : List Value} (hc : 0 < c) (h : w.cells? base (a.add (0 * c)) c = some cs') : a.spot = none := by
  obtain ⟨_, hl, hg⟩ := World.cells?_some h
  have h0 := hg 0 hc
  rw [List.getElem?_eq_getElem (by omega)] at h0
  simpa [Addr.add] using World.cell?_spot h0

theorem open_stmts {t e ti : TypeId} {f0 f1 f2 : Field} {fuel : Nat} {cs : List Value} {x : DataW H × List MemPlace} (ht : P.underlying t = some (.slice e)) (he : P.underlying e = some (.struct #[f0, f1, f2])) (hc : P.cellsOf e = 3)
    (k0 : f0.type = ti) (k1 : f1.type = ti) (k2 : f2.type = ti) (o0 : f0.offset = 0) (o1 : f1.offset = 1) (o2 : f2.offset = 2) (hi : P.underlying ti = some (.int .i64)) (hci : P.cellsOf ti = 1)
    (h : DataW.trod enc P w base spare held fuel t cs = some x) : ∃ v ss, cs = [v] ∧ Reads3 w v ss ∧ ss.length ≤ maxLen := by
  obtain ⟨ao, len, cap, rfl, hm, hel⟩ := open_slice ht h
  rw [hc] at hel
  have each : ∀ i, i < len → ∃ s : Stm, ∃ g off, ao = some ⟨g, off, none⟩ ∧ w.cell? ⟨g, off + i * 3, none⟩ = some (.int .i64 s.k) ∧ w.cell? ⟨g, off + i * 3 + 1, none⟩ = some (.int .i64 s.x) ∧ w.cell? ⟨g, off + i * 3 + 2, none⟩ = some (.int .i64 s.y) := by
    intro i hi'
    obtain ⟨a, cs0, _, _, ea, h0, _⟩ := hel 0 (by omega)
    have hn := head_none (len := len) (by omega) h0
    obtain ⟨a', cs', n, y, ea', h1, h2⟩ := hel i hi'
    rw [ea] at ea'
    obtain rfl := Option.some.inj ea'
    obtain ⟨b, off, spot⟩ := a
    simp only at hn
    subst hn
    rw [addr_add] at h1
    obtain ⟨_, hl, hg⟩ := World.cells?_some h1
    obtain ⟨y0, y1, y2, m, _, _, t0, t1, t2⟩ := Go.Deep.trod_struct3 he h2
    rw [k0, o0, hci] at t0
    rw [k1, o1, hci] at t1
    rw [k2, o2, hci] at t2
    match cs', hl with
    | [c0, c1, c2], _ =>
      simp at t0 t1 t2
      obtain ⟨kk, e0, _, _⟩ := DataW.trod_int hi t0
      obtain ⟨xx, e1, _, _⟩ := DataW.trod_int hi t1
      obtain ⟨yy, e2, _, _⟩ := DataW.trod_int hi t2
      simp at e0 e1 e2
      subst e0 e1 e2
      have g0 := hg 0 (by omega)
      have g1 := hg 1 (by omega)
      have g2 := hg 2 (by omega)
      rw [addr_add] at g0 g1 g2
      exact ⟨⟨kk, xx, yy⟩, b, off, ea, g0, g1, g2⟩
  obtain ⟨ss, hlen, hp⟩ := list_of len each
  exact ⟨_, ss, rfl, ⟨ao, cap, by rw [hlen], hp⟩, by omega⟩

/-- The slice v holds the procedures ps. -/
def ReadsP (w : World) (v : Value) (ps : List (List Stm)) : Prop :=
  ∃ ao cap, v = .slice ao ps.length cap ∧ ∀ j p, ps[j]? = some p → ∃ g off u, ao = some ⟨g, off, none⟩ ∧ w.cell? ⟨g, off + j, none⟩ = some u ∧ Reads3 w u p

theorem readsP_below {w w' : World} {v : Value} {ps : List (List Stm)} (h : ReadsP w v ps) (hb : Below w.heap.size w w') : ReadsP w' v ps := by
  obtain ⟨ao, cap, rfl, hc⟩ := h
  refine ⟨ao, cap, rfl, fun j p hp => ?_⟩
  obtain ⟨g, off, u, hg, hcell, hr⟩ := hc j p hp
  exact ⟨g, off, u, hg, (hb.cell (World.block_lt_of_cell? w _ hcell)).trans hcell, reads3_below hr hb⟩

theorem open_procs {t e tp te ti : TypeId} {f f0 f1 f2 : Field} {fuel : Nat} {cs : List Value} {x : DataW H × List MemPlace} (htp : P.underlying tp = some (.slice t)) (hte : P.underlying t = some (.struct #[f])) (hct : P.cellsOf t = 1)
    (kf : f.type = te) (kof : f.offset = 0) (hcf : P.cellsOf te = 1) (ht : P.underlying te = some (.slice e)) (he : P.underlying e = some (.struct #[f0, f1, f2])) (hc : P.cellsOf e = 3)
    (k0 : f0.type = ti) (k1 : f1.type = ti) (k2 : f2.type = ti) (o0 : f0.offset = 0) (o1 : f1.offset = 1) (o2 : f2.offset = 2) (hi : P.underlying ti = some (.int .i64)) (hci : P.cellsOf ti = 1)
    (h : DataW.trod enc P w base spare held fuel tp cs = some x) : ∃ v ps, cs = [v] ∧ ReadsP w v ps ∧ ps.length ≤ maxLen ∧ ∀ p ∈ ps, p.length ≤ maxLen := by
  obtain ⟨ao, len, cap, rfl, hm, hel⟩ := open_slice htp h
  rw [hct] at hel
  have each : ∀ i, i < len → ∃ p : List Stm, (∃ g off u, ao = some ⟨g, off, none⟩ ∧ w.cell? ⟨g, off + i, none⟩ = some u ∧ Reads3 w u p) ∧ p.length ≤ maxLen := by
    intro i hi'
    obtain ⟨a, cs0, _, _, ea, h0, _⟩ := hel 0 (by omega)
    have hn := head_none (len := len) (by omega) h0
    obtain ⟨a', cs', n, y, ea', h1, h2⟩ := hel i hi'
    rw [ea] at ea'
    obtain rfl := Option.some.inj ea'
    obtain ⟨b, off, spot⟩ := a
    simp only at hn
    subst hn
    rw [addr_add, Nat.mul_one] at h1
    obtain ⟨_, hl, hg⟩ := World.cells?_some h1
    obtain ⟨y0, m, _, _, t0⟩ := trod_struct1 hte h2
    rw [kf, kof, hcf] at t0
    match cs', hl with
    | [c0], _ =>
      simp at t0
      obtain ⟨u, p, e0, hr, hpl⟩ := open_stmts ht he hc k0 k1 k2 o0 o1 o2 hi hci t0
      simp at e0
      subst e0
      have g0 := hg 0 (by omega)
      rw [addr_add] at g0
      exact ⟨p, ⟨b, off, _, ea, g0, hr⟩, hpl⟩
  obtain ⟨ps, hlen, hp⟩ := list_of len each
  refine ⟨_, ps, rfl, ⟨ao, cap, by rw [hlen], fun j p hj => (hp j p hj).1⟩, by omega, fun p hpm => ?_⟩
  obtain ⟨j, hj⟩ := List.getElem?_of_mem hpm
  exact (hp j p hj).2

end

theorem own : ownKnob Try.prog.godebug = none := by kernel_rfl
theorem laidOut : laidOutB Try.prog = true := by kernel_rfl
theorem cellsStmt : Try.prog.cellsOf 88 = 3 := by kernel_rfl
theorem cellsProc : Try.prog.cellsOf 24 = 1 := by kernel_rfl
theorem cellsStmts : Try.prog.cellsOf 22 = 1 := by kernel_rfl
theorem cellsInt : Try.prog.cellsOf 2 = 1 := by kernel_rfl

/-- A Proc that came in. -/
theorem open_proc {H : Type} {enc : TypeId × Value → H} {W : World} {base : Nat} {held : Bool} {r : Reach} {b0 : Nat} {v0 : Value} {d : DataW H} {p : List MemPlace}
    (hv : Value.okWide Try.prog W r b0 24 v0) (h : DataW.Trod enc Try.prog W base (fun _ => true) held 24 v0 d p) :
    ∃ v ss, v0 = .agg #[v] ∧ Reads3 W v ss ∧ ss.length ≤ maxLen := by
  obtain ⟨cs, rfl, hsz⟩ := okWide_struct Try.underlying24 hv
  rw [cellsProc] at hsz
  obtain ⟨c, rfl⟩ : ∃ c, cs = #[c] := Array.size_eq_one_iff.1 hsz
  obtain ⟨fuel, hf⟩ := h
  obtain ⟨y0, m, _, _, t0⟩ := trod_struct1 Try.underlying24 hf
  simp [Value.cells, cellsStmts] at t0
  obtain ⟨u, ss, e0, hr, hl⟩ := open_stmts (ti := 2) Try.underlying22 Try.underlying88 cellsStmt rfl rfl rfl rfl rfl rfl Try.underlying2 cellsInt t0
  simp at e0
  subst e0
  exact ⟨_, ss, rfl, hr, hl⟩

end Go.Proofs.Ytciccbbgamklbaa

/-
  The law FnExactProof, given a contract of spec.Proof (SpecProofOk).
-/
namespace Go.Proofs.Ytciccbbgamklbaa
open Go.ChangeShapes Go.WideShapes Go.ChangeAt Go.RowKit
set_option linter.unusedVariables false
set_option maxHeartbeats 2000000

/-- The contract of spec.Proof that is wanted. -/
def SpecProofOk : Prop := ∀ (ss : List Stm) (c s i t : Int) (v : Value) (w : World), ss.length ≤ maxLen → Reads3 w v ss →
  Calls Try.prog 6 #[.agg #[v], .int .i64 c, .int .i64 s, .int .i64 i, .int .i64 t] w fun e w' => ∃ A u, ProofAns c ss s i t A ∧ A.length ≤ 2000 ∧ e = .returned u ∧ w'.ownsRow w.heap.size 2 1 u A.length (ints A) ∧ Below w.heap.size w w'

theorem walkProof (hspec : SpecProofOk) (ss : List Stm) (i j at1 fact : Int) (v : Value) (w : World) (hl : ss.length ≤ maxLen) (hv : Reads3 w v ss) :
    Calls Try.prog 3 #[.agg #[v], .int .i64 i, .int .i64 j, .int .i64 at1, .int .i64 fact] w fun e w' => e = .returned (.bool true) ∧ Below w.heap.size w w' := by
  have hsp := hspec ss i j at1 fact
  obtain ⟨ao, cap, hv0, _⟩ := id hv
  have hsz := szProc ss.length ao cap 1048576
  have b0 : Below w.heap.size w (w.alloc (.cells #[v] 24)) := by go_grown
  have s0 : (w.alloc (.cells #[v] 24)).heap.size = w.heap.size + 1 := by simp
  have B0 := heap_alloc_new w (.cells #[v] 24)
  rw [← hv0] at hsz
  clear hv0
  by_cases hlt : (1048576 : Int) < (ss.length : Int)
  · rw [if_pos hlt] at hsz
    go_enter Try.func3, Try.ntmps3
    go_wp2_with (go_at_call 5; refine (hsz _ hl (by omega) (by omega)).mono ?_; rintro e w1 ⟨rfl, b1⟩)
    go_ret
    exact ⟨rfl, b0.trans (b1.mono (by omega))⟩
  rw [if_neg hlt] at hsz
  have hx : (decide ((1048576 : Int) - (ss.length : Int) < 0)) = false := by simp; omega
  have hl' : ss.length ≤ 1048576 := by omega
  go_enter Try.func3, Try.ntmps3
  go_wp2_with fail
  go_at_call 5
  refine (hsz _ hl (by omega) (by omega)).mono ?_
  rintro e w1 ⟨rfl, b1⟩
  clear hsz
  have s1 := b1.size
  have L1 : Below w.heap.size w w1 := b0.trans (b1.mono (by omega))
  have H1 := (b1.block w.heap.size (by omega)).trans B0
  obtain ⟨c1, f1⟩ := one_cell H1
  go_wp2_with fail
  go_at_call 7
  refine (toProc ss v w1 hl' (reads3_below hv L1)).mono ?_
  rintro e w2 ⟨u, rfl, ou, b2⟩
  have s2 := b2.size
  have L2 : Below w.heap.size w w2 := L1.trans (b2.mono (by omega))
  have H2 : Hid _ := (b2.block w.heap.size (by omega)).trans H1
  clear c1 f1 H1
  go_wp2_with fail
  go_at_call 6
  refine (hsp u w2 hl (reads3_own ou)).mono ?_
  rintro e w3 ⟨A, a, hAA, hA, rfl, oa, b3⟩
  have him := implProof ss i j at1 fact A hAA
  clear hAA
  have hA' : A.length ≤ maxLen := by unfold maxLen; omega
  have alt : ∀ k, a.ownBlock = some k → k < w3.heap.size := fun k hk => (oa.lt k hk).2
  have s3 := b3.size
  have L3 : Below w.heap.size w w3 := L2.trans (b3.mono (by omega))
  have H3 : Hid _ := (b3.block w.heap.size (by omega)).trans H2.out
  obtain ⟨c1, f1⟩ := one_cell H3.out
  clear H2 ou
  go_wp2_with fail
  go_at_call 7
  refine (toProc ss v w3 hl' (reads3_below hv L3)).mono ?_
  rintro e w4 ⟨x, rfl, ox, b4⟩
  have s4 := b4.size
  have xlt : ∀ k, x.ownBlock = some k → k < w4.heap.size := fun k hk => (ox.lt k hk).2
  have L4 : Below w.heap.size w w4 := L3.trans (b4.mono (by omega))
  have H4 : Hid _ := (b4.block w.heap.size (by omega)).trans H3.out
  have oa := own_kept oa b4
  clear c1 f1 H3
  have L5 : Below w.heap.size w (w4.alloc (.cells #[x] 30)) := L4.alloc (by omega) _
  have b5 : Below w4.heap.size w4 (w4.alloc (.cells #[x] 30)) := by go_grown
  have s5 : (w4.alloc (.cells #[x] 30)).heap.size = w4.heap.size + 1 := by simp
  have H5 : Hid _ := (b5.block w.heap.size (by omega)).trans H4.out
  have X5 : Hid _ := heap_alloc_new w4 (.cells #[x] 30)
  have ox := own_kept ox b5
  have oa := own_kept oa b5
  obtain ⟨xa, xn, xc, rfl⟩ := own_slice ox
  clear H4
  go_wp2_with fail
  go_at_call 8
  refine (him _ _ hl (reads3_own ox)).mono ?_
  rintro e w6 ⟨g, rfl, og, b6⟩
  have s6 := b6.size
  rw [s5] at og s6
  have gge : ∀ k, g.ownBlock = some k → w4.heap.size < k := fun k hk => by have := (og.lt k hk).1; omega
  have L6 : Below w.heap.size w w6 := L5.trans (b6.mono (by omega))
  have H6 : Hid _ := (b6.block w.heap.size (by omega)).trans H5.out
  have X6 : Hid _ := (b6.block w4.heap.size (by omega)).trans X5.out
  have ox := own_kept ox b6
  have oa := own_kept oa b6
  clear H5 X5
  go_wp2_with fail
  go_at_call 9
  refine (eqInt64S A _ _ _ hA' (reads_own og) (reads_own oa)).mono ?_
  rintro e w7 ⟨rfl, b7⟩
  have s7 := b7.size
  have L7 : Below w.heap.size w w7 := L6.trans (b7.mono (by omega))
  have H7 : Hid _ := (b7.block w.heap.size (by omega)).trans H6.out
  have X7 : Hid _ := (b7.block w4.heap.size (by omega)).trans X6.out
  have ox := own_kept ox b7
  have oa := own_kept oa b7
  have og := own_kept og b7
  clear H6 X6
  obtain ⟨c1, f1⟩ := one_cell H7.out
  obtain ⟨c2, f2⟩ := one_cell X7.out
  have z1 : w.heap.size < w7.heap.size := by omega
  have z2 : w4.heap.size < w7.heap.size := by omega
  have ht : ∀ W, Below w7.heap.size w7 W → _ := fun W hW => toProc ss v W hl' (reads3_below (reads3_below hv L7) hW)
  have rx := reads3_own ox
  go_wp2_with fail
  go_region_with (first
    | (go_at_call 7; refine (ht _ (by go_grown)).mono ?_; rintro e w8 ⟨y, rfl, oy, b8⟩; have M8 : Below w7.heap.size w7 w8 := Below.trans (by go_grown) b8; obtain ⟨hc8, hf8⟩ := bcell M8)
    | (go_at_call 10; refine (eqProc ss _ y _ hl (reads3_below rx (Below.trans M8 (by go_grown))) (reads3_below (reads3_own oy) (by go_grown))).mono ?_; rintro e w9 ⟨rfl, b9'⟩; have b9 : Below w7.heap.size w7 w9 := Below.trans (Below.trans M8 (by go_grown)) (b9'.mono M8.size)))
  all_goals
    clear hc8 hf8 c1 f1 c2 f2 oy b8 M8 b9' rx
    have s9 := b9.size
    have L9 : Below w.heap.size w w9 := L7.trans (b9.mono (by omega))
    have H9 : Hid _ := (b9.block w.heap.size (by omega)).trans H7.out
    have X9 : Hid _ := (b9.block w4.heap.size (by omega)).trans X7.out
    have ox := own_kept ox b9
    have oa := own_kept oa b9
    have og := own_kept og b9
    clear H7 X7
    obtain ⟨c2, f2⟩ := one_cell X9.out
    go_wp2_with fail
    go_at_call 11
    refine (markProc ss.length _ w3.heap.size w4.heap.size w9 hl' (room_own ox xlt)).mono ?_
    rintro e w10 ⟨rfl, m10⟩
    have s10 := m10.size
    have L10 : Below w.heap.size w w10 := L9.trans (m10.below (by omega) (by omega))
    have H10 : Hid _ := (m10.out w.heap.size (by omega) (.inl (by omega))).trans H9.out
    have oa := own_marks oa m10 (fun k hk => .inl (alt k hk))
    have og := own_marks og m10 (fun k hk => .inr (by have := gge k hk; omega))
    have hk0 : (decide ((1 : Int) + 3 * (ss.length : Int) < 0)) = false := by simp; omega
    clear c2 f2 H9 X9 ox
    go_wp2_with fail
    go_at_call 9
    refine (eqInt64S A _ _ _ hA' (reads_own og) (reads_own oa)).mono ?_
    rintro e w11 ⟨rfl, b11⟩
    have s11 := b11.size
    have L11 : Below w.heap.size w w11 := L10.trans (b11.mono (by omega))
    have H11 : Hid _ := (b11.block w.heap.size (by omega)).trans H10.out
    have oa := own_kept oa b11
    have og := own_kept og b11
    have hmk := markInt64S (ints A) g (w4.heap.size + 1) 1 w11 (by rw [ints_length]; omega) (by omega) (by omega) (by omega) (by rw [ints_length]; exact og)
    rw [ints_length] at hmk
    go_wp2_with fail
    go_at_call 12
    refine hmk.mono ?_
    rintro e w12 ⟨rfl, og, b12, _⟩
    clear hmk
    have s12 := b12.size
    have L12 : Below w.heap.size w w12 := L11.trans (b12.mono (by omega))
    have H12 : Hid _ := (b12.block w.heap.size (by omega)).trans H11.out
    have oa := own_below oa b12 (fun k hk => by have := alt k hk; omega)
    go_wp2_with fail
    go_at_call 13
    refine (heldInt64S A.length g 1 w12 (by omega) (by omega) (by omega) (reads_own og)).mono ?_
    rintro e w13 ⟨rfl, b13⟩
    have s13 := b13.size
    have L13 : Below w.heap.size w w13 := L12.trans (b13.mono (by omega))
    have H13 : Hid _ := (b13.block w.heap.size (by omega)).trans H12.out
    have oa := own_kept oa b13
    have og := own_kept og b13
    have hq0 : (decide ((1 : Int) + (A.length : Int) < 0)) = false := by simp; omega
    obtain ⟨c1, f1⟩ := one_cell H13.out
    go_wp2_with fail
    go_at_call 7
    refine (toProc ss v w13 hl' (reads3_below hv L13)).mono ?_
    rintro e w14 ⟨t, rfl, ot, b14⟩
    have s14 := b14.size
    have L14 : Below w.heap.size w w14 := L13.trans (b14.mono (by omega))
    have oa := own_kept oa b14
    have og := own_kept og b14
    clear c1 f1 H10 H11 H12 H13
    go_wp2_with fail
    go_at_call 8
    refine (him _ _ hl (reads3_own ot)).mono ?_
    rintro e w15 ⟨h, rfl, oh, b15⟩
    have s15 := b15.size
    have L15 : Below w.heap.size w w15 := L14.trans (b15.mono (by omega))
    have oa := own_kept oa b15
    have og := own_kept og b15
    go_wp2_with fail
    go_at_call 9
    refine (eqInt64S A _ _ _ hA' (reads_own oh) (reads_own oa)).mono ?_
    rintro e w16 ⟨rfl, b16⟩
    have s16 := b16.size
    have L16 : Below w.heap.size w w16 := L15.trans (b16.mono (by omega))
    have og := own_kept og b16
    go_wp2_with fail
    go_at_call 13
    refine (heldInt64S A.length g 1 w16 (by omega) (by omega) (by omega) (reads_own og)).mono ?_
    rintro e w17 ⟨rfl, b17⟩
    go_wp2
    go_ret
    exact ⟨rfl, L16.trans (b17.mono (by omega))⟩

set_option maxRecDepth 100000 in
theorem liftedFnExactProof (hspec : SpecProofOk) (os : Os) (started : os.Started) (H : Type) (enc : TypeId × Value → H) :
    ReturnsInHanded {} Try.checked os 3 .any (Rows.fnExactProofSpec.pre6 enc Try.prog Try.f3 Rows.fnExactProofRow.domain false) (Rows.fnExactProofSpec.post enc Try.prog Try.f3 false true false false) := by
  refine returnsInHanded_of_change (C := Try.checked) own started (by kernel_rfl) Try.func3
    (ChangeSpec.witness6 (enc := enc) (C := Try.checked) false ⟨#[], #[.agg #[.slice none 0 0], .int .i64 0, .int .i64 0, .int .i64 0, .int .i64 0], []⟩ 8 (by kernel_rfl) (by kernel_rfl) (by kernel_rfl) (by kernel_rfl)) ?_
  intro W base args ds gs before hval0 hW hcnd _
  have hval : ∀ (j : Nat) t v, Try.f3.params[j]? = some t → args[j]? = some v → Value.okWide Try.prog W .any base t v := hval0
  have hW' := hW
  obtain ⟨p, q, hA0, hV, rfl, hfz, hnd⟩ := hW
  have hA : DataW.TrodAll enc Try.prog W 0 (fun _ => true) true Try.f3.params.toList args.toList ds p := hA0
  rw [Try.params3] at hA hval
  obtain ⟨v0, vs0, d0, ds0, p0, q0, hargs, rfl, rfl, h0, r0⟩ := trodAll_cons hA
  obtain ⟨v1, vs1, d1, ds1, p1, q1, rfl, rfl, rfl, h1, r1⟩ := trodAll_cons r0
  obtain ⟨v2, vs2, d2, ds2, p2, q2, rfl, rfl, rfl, h2, r2⟩ := trodAll_cons r1
  obtain ⟨v3, vs3, d3, ds3, p3, q3, rfl, rfl, rfl, h3, r3⟩ := trodAll_cons r2
  obtain ⟨v4, vs4, d4, ds4, p4, q4, rfl, rfl, rfl, h4, r4⟩ := trodAll_cons r3
  obtain ⟨rfl, rfl, rfl⟩ := trodAll_nil r4
  obtain rfl : args = #[v0, v1, v2, v3, v4] := by cases args; simp_all
  obtain ⟨rfl, rfl⟩ := trodVars_none hV
  obtain ⟨v, ss, rfl, hr, hl⟩ := open_proc (hval 0 24 v0 rfl rfl) h0
  obtain ⟨i, rfl, _⟩ := open_int Try.underlying2 (hval 1 2 v1 rfl rfl) h1
  obtain ⟨j, rfl, _⟩ := open_int Try.underlying2 (hval 2 2 v2 rfl rfl) h2
  obtain ⟨at1, rfl, _⟩ := open_int Try.underlying2 (hval 3 2 v3 rfl rfl) h3
  obtain ⟨fact, rfl, _⟩ := open_int Try.underlying2 (hval 4 2 v4 rfl rfl) h4
  refine (walkProof hspec ss i j at1 fact v W hl hr).mono fun e W' ⟨he, hb⟩ => ?_
  subst he
  refine ⟨_, rfl, law_post (tb := 4) laidOut ?_ hW' rfl Try.underlying4 rfl rfl hb⟩
  exact all_readable (P := Try.prog) (by kernel_rfl)

theorem overFnExactProof (hspec : SpecProofOk) : Rows.fnExactProofRow.holds Try.pinned (OpenSpec.ofChange Rows.fnExactProofSpec) :=
  OpenClaim.holds_of_wide 3 Try.f3 rfl rfl rfl rfl rfl rfl rfl ⟨rfl, rfl, rfl, rfl, rfl⟩ rfl rfl rfl rfl rfl (by kernel_rfl) Try.func3 (by kernel_rfl)
    (of_decide_eq_true (by kernel_rfl)) (by unfold Func.isWrapper; first | (rw [if_pos (by decide +kernel)]; kernel_rfl) | (rw [if_neg (by decide +kernel)]; exact ⟨rfl, rfl⟩))
    (fun os started H enc _ => liftedFnExactProof hspec os started H enc)

/-- The statement, given the contract. -/
theorem proofHolds_of (hspec : SpecProofOk) : Rows.FnExactProofSaid :=
  overFnExactProof hspec

end Go.Proofs.Ytciccbbgamklbaa

/-
  spec.Proof at every input; the law FnExactProof.
-/
namespace Go.Proofs.Ytciccbbgamklbaa
open Go.RowKit
set_option linter.unusedVariables false

theorem specProofOk : SpecProofOk := by
  intro ss c s i t v w hl hv
  cases h : (hasS ss i && isCl c && inB s 0 127 && inB t 0 6) with
  | false =>
    refine (specProofN ss c s i t h v w hl hv).mono ?_
    rintro e w' ⟨u, rfl, ou, b⟩
    refine ⟨[], u, ⟨fun h2 => ?_, fun _ => rfl⟩, by simp, rfl, ou, b⟩
    have : (hasS ss i && isCl c && inB s 0 127 && inB t 0 6) = true := by
      simp only [Bool.and_eq_true] at h2
      obtain ⟨⟨⟨⟨h1, h2⟩, h3⟩, h4⟩, h5⟩ := h2
      unfold hasS
      rw [h1, h2, h3, h4, h5]; rfl
    rw [this] at h
    cases h
  | true =>
    have h9 := h
    simp only [Bool.and_eq_true] at h9
    obtain ⟨⟨⟨h1, h2⟩, h3⟩, h4⟩ := h9
    unfold hasS wiB at h1
    have h5 := h4
    unfold inB at h5
    simp at h1 h5
    obtain ⟨i', rfl⟩ : ∃ i' : Nat, i = (i' : Int) := ⟨i.toNat, by omega⟩
    obtain ⟨t', rfl⟩ : ∃ t' : Nat, t = (t' : Int) := ⟨t.toNat, by omega⟩
    refine (specProofY ss c s i' t' h1.1 (by omega) (by omega) h2 h3 v w hl hv).mono ?_
    rintro e w' ⟨A, u, hA, hAl, rfl, ou, b⟩
    refine ⟨A, u, ⟨fun _ j k hj hk => ?_, fun hf => ?_⟩, hAl, rfl, ou, b⟩
    · obtain rfl : i' = j := by omega
      obtain rfl : t' = k := by omega
      exact hA
    · exfalso
      have : (procOk ss && isCl c && inB s 0 127 && wiB (i' : Int) ss.length && inB (t' : Int) 0 6) = true := by
        rw [h1.1, h2, h3, h4]
        unfold wiB
        simp
        omega
      rw [this] at hf
      cases hf

theorem proofHolds : Rows.FnExactProofSaid := proofHolds_of specProofOk

end Go.Proofs.Ytciccbbgamklbaa
