/-
  Chapter 17, the laws' marks: markQueue, heldQueue.
-/
import Derived.Test.YtggglcjdnllnjaaGreatDoorQueRow
import Derived.Test.YtggglcjdnllnjaaGreatDoorQueLaw
namespace Go.Proofs.YtggglcjdnllnjaaGreatDoor
open Go.RowKit
set_option linter.unusedVariables false
set_option linter.unusedSimpArgs false
set_option maxHeartbeats 4000000
set_option maxRecDepth 20000

theorem Above.alloc {top : Nat} {w : World} (o : Obj) : Above top w (w.alloc o) := ⟨by simp, fun b _ hb => old_block hb⟩
theorem Above.trans {top : Nat} {a b c : World} (h : Above top a b) (k : Above top b c) : Above top a c := ⟨Nat.le_trans h.1 k.1, fun x h1 h2 => (k.2 x h1 (Nat.lt_of_lt_of_le h2 h.1)).trans (h.2 x h1 h2)⟩

/-- A Queue's rows lie within lo and hi. -/
structure QAt (w : World) (lo hi : Nat) (v : Value) (us : List Value) (X : List (List Int)) : Prop where
  own : OwnQ w lo v us X
  apart : ApartSS us
  tv : ∀ k, v.ownBlock = some k → k < hi
  tu : ∀ u ∈ us, ∀ k, u.ownBlock = some k → k < hi

theorem qat_of {w : World} {lo : Nat} {v : Value} {us : List Value} {X : List (List Int)} (h : OwnQ w lo v us X) (ha : ApartSS us) : QAt w lo w.heap.size v us X :=
  ⟨h, ha, fun k hk => (h.row.lt k hk).2, fun u hu k hk => (h.ltI hu hk).2⟩

theorem qat_step {w w' : World} {lo hi : Nat} {v : Value} {us : List Value} {X : List (List Int)} (h : QAt w lo hi v us X) (hb : Below w.heap.size w w') : QAt w' lo hi v us X := ⟨h.own.below hb, h.apart, h.tv, h.tu⟩

theorem qat_low {w w' : World} {B lo hi : Nat} {v : Value} {us : List Value} {X : List (List Int)} (h : QAt w lo hi v us X) (hb : Below B w w') (hB : hi ≤ B) : QAt w' lo hi v us X :=
  ⟨h.own.same (fun k hk => hb.block k (Nat.lt_of_lt_of_le (h.tv k hk) hB)) (fun u hu k hk => hb.block k (Nat.lt_of_lt_of_le (h.tu u hu k hk) hB)), h.apart, h.tv, h.tu⟩

theorem qat_high {w w' : World} {top lo hi : Nat} {v : Value} {us : List Value} {X : List (List Int)} (h : QAt w lo hi v us X) (ha : Above top w w') (hB : top ≤ lo) : QAt w' lo hi v us X :=
  ⟨h.own.same (fun k hk => ha.2 k (by have := (h.own.row.lt k hk).1; omega) (h.own.row.lt k hk).2) (fun u hu k hk => ha.2 k (by have := (h.own.ltI hu hk).1; omega) (h.own.ltI hu hk).2), h.apart, h.tv, h.tu⟩

/-- A Queue whose numbers bear their marks. -/
def MAt (w : World) (base : Nat) (v : Value) (us : List Value) (X : List (List Int)) : Prop := w.ownsRow base 74 1 v X.length us ∧ MarkedQ base us X 1 X.length w
theorem mat_step {w w' : World} {base : Nat} {v : Value} {us : List Value} {X : List (List Int)} (h : MAt w base v us X) (hb : Below w.heap.size w w') : MAt w' base v us X := ⟨own_kept h.1 hb, h.2.below hb⟩

theorem box_stepQ {W W' : World} {b : Nat} {o : Obj} (h : W.heap[b]? = some o) (hb : Below W.heap.size W W') : W'.heap[b]? = some o := (hb.block b (Array.getElem?_eq_some_iff.1 h).1).trans h
theorem box_lowQ {W W' : World} {b B : Nat} {o : Obj} (h : W.heap[b]? = some o) (hb : Below B W W') (hB : b < B) : W'.heap[b]? = some o := (hb.block b hB).trans h
theorem box_highQ {W W' : World} {b top : Nat} {o : Obj} (h : W.heap[b]? = some o) (ha : Above top W W') (hB : top ≤ b) : W'.heap[b]? = some o := (ha.2 b hB (Array.getElem?_eq_some_iff.1 h).1).trans h
theorem low_stepQ {w W W' : World} (h : Below w.heap.size w W) (hb : Below W.heap.size W W') : Below w.heap.size w W' := h.trans (hb.mono h.size)
theorem le_stepQ {n : Nat} {W W' : World} (h : n ≤ W.heap.size) (hb : Below W.heap.size W W') : n ≤ W'.heap.size := Nat.le_trans h hb.size
theorem ne_sliceQ {w : World} {lo hi : Nat} {v : Value} {us : List Value} {X : List (List Int)} (h : QAt w lo hi v us X) : ∃ a m c, v = .slice a m c := own_sliceQ h.own.row

theorem tot_leM (M : Nat) : ∀ (X : List (List Int)), (∀ x ∈ X, x.length ≤ M) → tot X ≤ M * X.length
  | [], _ => by simp [tot]
  | x :: X, h => by
    have h1 := tot_leM M X (fun y hy => h y (by simp [hy]))
    have h2 := h x (by simp)
    simp only [tot, List.length_cons, Nat.mul_add, Nat.mul_one]
    omega

theorem tot_big {X : List (List Int)} (hl : X.length ≤ 1048576) (hp : ∀ x ∈ X, x.length ≤ 1048576) : (1 : Int) + tot X ≤ 4398046511104 := by
  have h1 := tot_leM 1048576 X hp
  have h2 : 1048576 * X.length ≤ 1048576 * 1048576 := Nat.mul_le_mul_left _ hl
  omega

theorem tot_small {X : List (List Int)} (hl : X.length ≤ 8) (hp : ∀ x ∈ X, x.length ≤ 6) : (1 : Int) + tot X ≤ 1099511627776 := by
  have h1 := tot_leM 6 X hp
  have h2 : 6 * X.length ≤ 6 * 8 := Nat.mul_le_mul_left _ hl
  omega

theorem markQueue (t : Int) (X : List (List Int)) (v : Value) (us : List Value) (base top : Nat) (k : Int) (w : World) (h1 : 1 ≤ k) (hl : X.length ≤ 1048576) (h2 : k + tot X ≤ 4398046511104) (hbase : base ≤ w.heap.size)
    (hv : OwnQ w base v us X) (ha : ApartSS us) (ht : ∀ u ∈ us, ∀ b, u.ownBlock = some b → b < top) :
    Calls Tryz.prog 20 #[.agg #[.int .i64 t, v], .int .i64 k] w fun e w' => e = .returned (.int .i64 (k + tot X)) ∧ w'.ownsRow base 74 1 v X.length us ∧ MarkedQ base us X k X.length w' ∧ Below base w w' ∧ Above top w w' := by
  obtain ⟨va, vm, vc, rfl⟩ := own_sliceQ hv.row
  obtain ⟨W0, hW0⟩ : ∃ W0, w.alloc (.cells #[.int .i64 t, .slice va vm vc] 28) = W0 := ⟨_, rfl⟩
  have b0 : Below w.heap.size w W0 := by rw [← hW0]; go_grown
  have a0 : Above top w W0 := by rw [← hW0]; exact Above.alloc _
  have H0 : W0.heap[w.heap.size]? = some (.cells #[.int .i64 t, .slice va vm vc] 28 (0, 0)) := by rw [← hW0]; exact heap_alloc_new w _
  obtain ⟨c0, c1, _, _⟩ := two_cellsQ H0
  have hm := markQ X (.slice va vm vc) us base top k W0 h1 hl h2 (Nat.le_trans hbase b0.size) (hv.below b0) ha ht
  clear H0
  go_enter Tryz.func20, Tryz.ntmps20
  go_wp2_with fail
  go_at_call 43
  refine hm.mono ?_
  rintro e w1 ⟨rfl, m1, m2, m3, m4⟩
  go_wp2
  go_ret
  exact ⟨rfl, m1, m2, (b0.mono hbase).trans m3, a0.trans m4⟩

theorem heldQueue (t : Int) (X : List (List Int)) (v : Value) (us : List Value) (base : Nat) (k : Int) (w : World) (h1 : 1 ≤ k) (hl : X.length ≤ 1048576) (h2 : k + tot X ≤ 1099511627776)
    (hrow : w.ownsRow base 74 1 v X.length us) (hM : MarkedQ base us X k X.length w) :
    Calls Tryz.prog 25 #[.agg #[.int .i64 t, v], .int .i64 k] w fun e w' => e = .returned (.int .i64 (k + tot X)) ∧ Below w.heap.size w w' := by
  obtain ⟨va, vm, vc, rfl⟩ := own_sliceQ hrow
  obtain ⟨W0, hW0⟩ : ∃ W0, w.alloc (.cells #[.int .i64 t, .slice va vm vc] 28) = W0 := ⟨_, rfl⟩
  have b0 : Below w.heap.size w W0 := by rw [← hW0]; go_grown
  have H0 : W0.heap[w.heap.size]? = some (.cells #[.int .i64 t, .slice va vm vc] 28 (0, 0)) := by rw [← hW0]; exact heap_alloc_new w _
  obtain ⟨c0, c1, _, _⟩ := two_cellsQ H0
  have hm := heldQ X (.slice va vm vc) us base k W0 h1 hl h2 (own_kept hrow b0) (hM.below b0)
  have hneg : decide (k + (tot X : Int) < 0) = false := by simp; omega
  clear H0
  go_enter Tryz.func25, Tryz.ntmps25
  go_wp2_with fail
  go_at_call 46
  refine hm.mono ?_
  rintro e w1 ⟨rfl, b1⟩
  go_wp2
  go_ret
  exact ⟨rfl, b0.trans (b1.mono b0.size)⟩

end Go.Proofs.YtggglcjdnllnjaaGreatDoor
