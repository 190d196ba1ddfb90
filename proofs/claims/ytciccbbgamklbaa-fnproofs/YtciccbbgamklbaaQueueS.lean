/-
  A slice of numbers that is worked off at its head (q[1:]) and appended to: where it lies in its block is of no account.
-/
import Derived.Test.YtciccbbgamklbaaG00RelA
import Derived.ArgAppend
import Derived.OwnWalkIn
namespace Go.Proofs.Ytciccbbgamklbaa
open Go.RowKit
set_option linter.unusedVariables false
set_option maxHeartbeats 1000000

/-- The slice v, whose block is the call's own, holds xs. -/
def Queue (w : World) (base : Nat) (v : Value) (xs : List Int) : Prop :=
  ∃ g off cap, v = .slice (some ⟨g, off, none⟩) xs.length cap ∧ base ≤ g ∧ g < w.heap.size ∧ xs.length ≤ cap ∧
    (∀ (j : Nat) (x : Int), xs[j]? = some x → w.cell? ⟨g, off + j, none⟩ = some (.int .i64 x)) ∧
    (∀ j, j < cap → (w.cell? ⟨g, off + j, none⟩).isSome = true ∧ w.frozen? ⟨g, off + j, none⟩ = false)

theorem Queue.lt {w : World} {base : Nat} {v : Value} {xs : List Int} (h : Queue w base v xs) : ∀ k, v.ownBlock = some k → base ≤ k ∧ k < w.heap.size := by
  obtain ⟨g, off, cap, rfl, hb, hlt, _⟩ := h
  intro k hk
  obtain rfl : g = k := by simpa [Value.ownBlock] using hk
  exact ⟨hb, hlt⟩

theorem Queue.kept {w w' : World} {base : Nat} {v : Value} {xs : List Int} {row : Option Nat} (h : Queue w base v xs) (hg : w.grownBy w' row) (hne : ∀ k, v.ownBlock = some k → row ≠ some k) : Queue w' base v xs := by
  obtain ⟨g, off, cap, rfl, hb, hlt, hle, hc, hs⟩ := h
  have e := hg.block g hlt (fun e => hne g rfl e.symm)
  refine ⟨g, off, cap, rfl, hb, Nat.lt_of_lt_of_le hlt hg.size, hle, fun j x hx => (World.cell?_of_block (a := ⟨g, off + j, none⟩) e).trans (hc j x hx), fun j hj => ?_⟩
  rw [World.cell?_of_block (a := ⟨g, off + j, none⟩) e, World.frozen?_of_block (a := ⟨g, off + j, none⟩) e]
  exact hs j hj

theorem Queue.same {w w' : World} {base : Nat} {v : Value} {xs : List Int} (h : Queue w base v xs) (hz : w.heap.size ≤ w'.heap.size) (he : ∀ k, v.ownBlock = some k → w'.heap[k]? = w.heap[k]?) : Queue w' base v xs := by
  obtain ⟨g, off, cap, rfl, hb, hlt, hle, hc, hs⟩ := h
  have e := he g rfl
  refine ⟨g, off, cap, rfl, hb, Nat.lt_of_lt_of_le hlt hz, hle, fun j x hx => (World.cell?_of_block (a := ⟨g, off + j, none⟩) e).trans (hc j x hx), fun j hj => ?_⟩
  rw [World.cell?_of_block (a := ⟨g, off + j, none⟩) e, World.frozen?_of_block (a := ⟨g, off + j, none⟩) e]
  exact hs j hj

/-- A row that owns its cells is such a slice. -/
theorem queue_own {w : World} {base : Nat} {g cap : Nat} {xs : List Int} (h : w.ownsRow base 2 1 (.slice (some ⟨g, 0, none⟩) xs.length cap) xs.length (ints xs)) : Queue w base (.slice (some ⟨g, 0, none⟩) xs.length cap) xs := by
  rcases h.2 with ⟨e, _⟩ | ⟨g', cap', cur, e, hb, hg, hn, hm, hs, ht⟩
  · cases e
  · simp only [Value.slice.injEq, Option.some.injEq, Addr.mk.injEq, and_true, true_and] at e
    obtain ⟨rfl, rfl⟩ := e
    refine ⟨g, 0, cap, rfl, hb, (Array.getElem?_eq_some_iff.1 hg).1, hn, fun j x hx => ?_, fun j hj => ?_⟩
    · have hj : j < xs.length := (List.getElem?_eq_some_iff.1 hx).1
      have := h.cellAt j (by omega)
      rw [Nat.zero_add, this]
      simp [ints, hx]
    · rw [Nat.zero_add, cell_of_row w g j cur 2 (0, 0) hg]
      refine ⟨?_, frozen_of_row w g j cur 2 hg⟩
      rw [Nat.mul_one] at hs
      simp [hs, hj]

/-- Without its head. -/
theorem Queue.tail {w : World} {base g off cap : Nat} {x : Int} {xs : List Int} (h : Queue w base (.slice (some ⟨g, off, none⟩) (xs.length + 1) cap) (x :: xs)) :
    w.cell? ⟨g, off, none⟩ = some (.int .i64 x) ∧ xs.length + 1 ≤ cap ∧ (cap = 1 → Queue w base (.slice (some ⟨g, off, none⟩) 0 0) xs) ∧ Queue w base (.slice (some ⟨g, off + 1, none⟩) xs.length (cap - 1)) xs := by
  obtain ⟨g', off', cap', e, hb, hlt, hle, hc, hs⟩ := h
  simp only [List.length_cons, Value.slice.injEq, Option.some.injEq, Addr.mk.injEq, and_true, true_and] at e
  obtain ⟨⟨rfl, rfl⟩, rfl⟩ := e
  simp only [List.length_cons] at hle
  refine ⟨by simpa using hc 0 x rfl, hle, fun h1 => ?_, g, off + 1, cap - 1, rfl, hb, hlt, by omega, fun j y hy => ?_, fun j hj => ?_⟩
  · subst h1
    have : xs = [] := List.eq_nil_of_length_eq_zero (by omega)
    subst this
    exact ⟨g, off, 0, rfl, hb, hlt, by simp, fun j y hy => by simp at hy, fun j hj => by omega⟩
  · have := hc (j + 1) y (by simpa using hy)
    rwa [show off + (j + 1) = off + 1 + j by omega] at this
  · have := hs (j + 1) (by omega)
    rwa [show off + (j + 1) = off + 1 + j by omega] at this

theorem grown_setCell1 (w : World) (b o : Nat) (v : Value) : w.grownBy (w.setCell ⟨b, o, none⟩ v) (some b) :=
  ⟨rfl, rfl, rfl, by simp [World.setCell], fun k _ hk => Below.heap_setCell w ⟨b, o, none⟩ v k (fun e => hk (by rw [e]))⟩

theorem grown_setCells (b : Nat) : ∀ (vs : List Value) (o : Nat) (w : World), w.grownBy (w.setCells b o vs) (some b)
  | [], _, w => World.grownBy.refl _ _
  | v :: r, o, w => by
    rw [World.setCells]
    exact grown_trans (grown_setCell1 w b o v) (grown_setCells b r (o + 1) _)

/-- append(q, ys...). -/
theorem run_append_queue {P : Program} {w : World} {base : Nat} (t ty : TypeId) (i : TypeInfo) (ht : P.underlying t = some (.slice 2)) (hi : P.info? 2 = some i) (hz : i.zero = some (.int .i64 0)) (hsize : i.size = 1) (hby : i.bytes = 8)
    {v : Value} {xs : List Int} (h : Queue w base v xs) (ad : Addr) (m c : Nat) (ys : List Int) (hl : ys.length = m) (hnews : ∀ j u, (ints ys)[j]? = some u → w.cell? (ad.add j) = some u)
    (h63 : xs.length + ys.length ≤ 1000000) (hbase : base ≤ w.heap.size) :
    ∃ v' w', (Builtin.append_ #[t, t] ty #[v, .slice (some ad) m c]).run P w = .ok v' w' ∧ Queue w' base v' (xs ++ ys) ∧ w.grownBy w' v.ownBlock ∧ (∀ k, v'.ownBlock = some k → v.ownBlock = some k ∨ w.heap.size ≤ k) := by
  subst hl
  obtain ⟨g, off, cap, rfl, hb, hlt, hle, hc, hs⟩ := h
  have hil : (ints ys).length = ys.length * i.size := by rw [hsize, Nat.mul_one, ints_length]
  by_cases hr : xs.length + ys.length ≤ cap
  · have hrun := run_append_room_cells (P := P) w t ty 2 i ht hi g off xs.length cap ad ys.length c (ints ys) hil hnews (ints_oneCell ys) hr
      (fun j hj => by rw [ints_length] at hj; rw [hsize, Nat.mul_one, Nat.add_assoc]; exact (hs (xs.length + j) (by omega)).1)
      (fun j hj => by rw [ints_length] at hj; rw [hsize, Nat.mul_one, Nat.add_assoc]; exact (hs (xs.length + j) (by omega)).2)
    rw [hsize, Nat.mul_one] at hrun
    have hg := grown_setCells g (ints ys) (off + xs.length) w
    have hin := World.cell?_setCells_in g (ints ys) (off + xs.length) w (fun j hj => by rw [ints_length] at hj; rw [Nat.add_assoc]; exact (hs (xs.length + j) (by omega)).1)
    refine ⟨_, _, hrun, ⟨g, off, cap, by rw [List.length_append], hb, Nat.lt_of_lt_of_le hlt hg.size, by rw [List.length_append]; omega, fun j x hx => ?_, fun j hj => ⟨?_, ?_⟩⟩, hg, fun k hk => .inl hk⟩
    · by_cases hj : j < xs.length
      · rw [List.getElem?_append_left hj] at hx
        rw [World.cell?_setCells_out g _ _ _ _ (fun _ _ => Or.inl (by show off + j < off + xs.length; omega))]
        exact hc j x hx
      · rw [List.getElem?_append_right (by omega)] at hx
        have hj2 : j - xs.length < ys.length := (List.getElem?_eq_some_iff.1 hx).1
        have := hin (j - xs.length) (by rw [ints_length]; exact hj2)
        rw [show off + xs.length + (j - xs.length) = off + j by omega] at this
        rw [this]
        obtain ⟨_, hx2⟩ := List.getElem?_eq_some_iff.1 hx
        simp [ints, hx2]
    · by_cases hj2 : j < xs.length ∨ xs.length + ys.length ≤ j
      · rw [World.cell?_setCells_out g _ _ _ _ (fun _ _ => by show off + j < off + xs.length ∨ off + xs.length + (ints ys).length ≤ off + j; rw [ints_length]; omega)]
        exact (hs j hj).1
      · have := hin (j - xs.length) (by rw [ints_length]; omega)
        rw [show off + xs.length + (j - xs.length) = off + j by omega] at this
        rw [this]; rfl
    · rw [World.frozen?_setCells]; exact (hs j hj).2
  · obtain ⟨v', w', hrun, hown, hg⟩ := run_append_arg_grows (P := P) w t ty 2 i (.int .i64 0) 1 8 ht hi hz hsize hby rfl (by decide) ⟨g, off, none⟩ xs.length cap (ints xs) (by simp [ints_length])
      (fun j u hu => by
        simp only [ints, List.getElem?_map, Option.map_eq_some_iff] at hu
        obtain ⟨x, hx, rfl⟩ := hu
        rw [Addr.add_lit]; exact hc j x hx)
      ad ys.length c (ints ys) (by simp [ints_length]) hnews (by omega) (by unfold maxLen; omega) (by omega)
    have ho : w'.ownsRow base 2 1 v' (xs ++ ys).length (ints (xs ++ ys)) := by
      have := own_mono hown hbase
      simpa [ints] using this
    refine ⟨v', w', hrun, ?_, ⟨hg.os, hg.tape, hg.output, hg.size, fun k hk _ => hg.block k hk (by simp)⟩, fun k hk => .inr (hown.lt k hk).1⟩
    rcases ho.2 with ⟨_, hn⟩ | ⟨g', cap', cur, e, _⟩
    · rw [List.length_append] at hn; omega
    · rw [e] at ho ⊢
      exact queue_own ho

/-- .. for the walk. -/
theorem wpList_append_queue {P : Program} {w : World} {ops : Array Oper} {rest : List Oper} {o : Oper} {a : Act} {Q : Exit → Act → World → Prop} (hgd : o.guard = none) (s x : Operand) (t : TypeId)
    (ho : o.op = .call { callee := .builtin .append, args := #[s, x], argTypes := #[t, t] }) {base : Nat} (i : TypeInfo) (ht : P.underlying t = some (.slice 2)) (hi : P.info? 2 = some i) (hz : i.zero = some (.int .i64 0)) (hsize : i.size = 1) (hby : i.bytes = 8)
    {v : Value} {xs : List Int} (hs : a.eval s = v) (h : Queue w base v xs) (ad : Addr) (m c : Nat) (ys : List Int) (hx : a.eval x = .slice (some ad) m c) (hl : ys.length = m) (hnews : ∀ j u, (ints ys)[j]? = some u → w.cell? (ad.add j) = some u)
    (h63 : xs.length + ys.length ≤ 1000000) (hbase : base ≤ w.heap.size)
    (hK : ∀ v' w', Queue w' base v' (xs ++ ys) → w.grownBy w' v.ownBlock → (∀ k, v'.ownBlock = some k → v.ownBlock = some k ∨ w.heap.size ≤ k) → wpList P ops Q rest (a.put o.dst v') w') : wpList P ops Q (o :: rest) a w := by
  refine wpList_plain hgd fun K hK' => ?_
  obtain ⟨v', w', hrun, r1, r2, r3⟩ := run_append_queue (P := P) t o.type i ht hi hz hsize hby h ad m c ys hl hnews h63 hbase
  unfold Oper.wp
  simp [execOp, ho, resolve, invoke, builtin, hs, hx, hrun, Result.andThen]
  exact hK' _ _ (hK v' w' r1 r2 r3)

/-- .. inside a fence. -/
theorem wpListIn_append_queue {F : Fence} {n : Nat} {P : Program} {w : World} {ops : Array Oper} {rest : List Oper} {o : Oper} {a : Act} {Q : Exit → Act → World → Prop} (hgd : o.guard = none) (s x : Operand) (t : TypeId)
    (ho : o.op = .call { callee := .builtin .append, args := #[s, x], argTypes := #[t, t] }) {base : Nat} (i : TypeInfo) (ht : P.underlying t = some (.slice 2)) (hi : P.info? 2 = some i) (hz : i.zero = some (.int .i64 0)) (hsize : i.size = 1) (hby : i.bytes = 8)
    {v : Value} {xs : List Int} (hs : a.eval s = v) (h : Queue w base v xs) (ad : Addr) (m c : Nat) (ys : List Int) (hx : a.eval x = .slice (some ad) m c) (hl : ys.length = m) (hnews : ∀ j u, (ints ys)[j]? = some u → w.cell? (ad.add j) = some u)
    (h63 : xs.length + ys.length ≤ 1000000) (hbase : base ≤ w.heap.size)
    (hK : ∀ v' w', Queue w' base v' (xs ++ ys) → w.grownBy w' v.ownBlock → (∀ k, v'.ownBlock = some k → v.ownBlock = some k ∨ w.heap.size ≤ k) → wpListIn F n P ops Q rest (a.put o.dst v') w') : wpListIn F n P ops Q (o :: rest) a w := by
  refine wpListIn_plain hgd fun K hK' => ?_
  obtain ⟨v', w', hrun, r1, r2, r3⟩ := run_append_queue (P := P) t o.type i ht hi hz hsize hby h ad m c ys hl hnews h63 hbase
  unfold Oper.wpIn
  refine ⟨?_, ?_⟩
  · simp [Oper.about, ho, resolve, Target.leads, Sem.run_pure]
  · rw [Oper.semAt_plain F _ _ (by rw [ho]; intro c hc'; cases hc')]
    simp [execOp, ho, resolve, invoke, builtin, hs, hx, hrun, Result.andThen]
    exact hK' _ _ (hK v' w' r1 r2 r3)

end Go.Proofs.Ytciccbbgamklbaa
