/-
  Put together out of: CallersBoth, Bfs, QueueS, SpecReached.
-/
import Derived.Test.YtldagpfeaabcdaaGreatDoorG35CallsBoth
import Derived.Test.YtldagpfeaabcdaaGreatDoorG21Nexts
import Derived.Test.YtldagpfeaabcdaaGreatDoorG16Put
import Derived.ArgAppend
import Derived.OwnWalkIn
/-
  spec.Callers, impl.Callers.
-/
namespace Go.Proofs.YtldagpfeaabcdaaGreatDoor
open Go.RowKit
set_option linter.unusedVariables false
set_option maxHeartbeats 1000000

theorem ins_any (n i : Int) : ∀ xs : List Int, (ins n xs).any (fun x => decide (x = i)) = (decide (n = i) || xs.any (fun x => decide (x = i)))
  | [] => by simp [ins]
  | x :: xs => by
    unfold ins
    split
    · rw [List.any_cons, ins_any n i xs, List.any_cons]
      cases decide (x = i) <;> cases decide (n = i) <;> simp
    · split
      · rename_i h
        subst h
        simp
      · simp

theorem callsOf_any (p : List Stm) (i : Int) : (callsOf p).any (fun x => decide (x = i)) = called p i := by
  have key : ∀ (p : List Stm) (acc : List Int), (p.foldl putCall acc).any (fun x => decide (x = i)) = (acc.any (fun x => decide (x = i)) || called p i) := by
    intro p
    induction p with
    | nil => intro acc; simp [called]
    | cons s p ih =>
      intro acc
      rw [List.foldl_cons, ih, putCall]
      by_cases h8 : s.k = 8
      · rw [if_pos h8, ins_any]
        simp only [called, List.any_cons, h8, decide_true, Bool.true_and]
        cases decide (s.y = i) <;> simp
      · rw [if_neg h8]
        simp [called, h8]
  have := key p []
  simpa [callsOf] using this

/-- What both answer. -/
def callersAns (ps : List (List Stm)) (i : Int) : List Int := if hasB ps i then nums (ps.map (fun p => called p i)) 0 else []

theorem callersAns_length (ps : List (List Stm)) (i : Int) : (callersAns ps i).length ≤ 12 := by
  unfold callersAns
  cases hok : hasB ps i
  · simp
  · rw [if_pos rfl]
    obtain ⟨h1, _⟩ := hasB_true hok
    obtain ⟨h4, _⟩ := programOk_len h1
    have := nums_length (ps.map (fun p => called p i)) 0
    simp at this ⊢
    omega

/-- Does procedure j, one of the first k, call number i? -/
def upTo (ps : List (List Stm)) (i : Int) (k j : Nat) : Bool := decide (j < k) && called (ps.getD j []) i

theorem upTo_step (ps : List (List Stm)) (i : Int) (k j : Nat) : upTo ps i (k + 1) j = if j = k then called (ps.getD k []) i else upTo ps i k j := by
  unfold upTo
  by_cases h : j = k
  · subst h; simp
  · rw [if_neg h]
    have : decide (j < k + 1) = decide (j < k) := by simp; omega
    rw [this]

theorem nums_false : ∀ (m : Nat) (i : Int), nums (List.replicate m false) i = []
  | 0, _ => by simp [nums]
  | m + 1, i => by simp [List.replicate_succ, nums, nums_false m]

theorem nums_pad (m : Nat) : ∀ (bs : List Bool) (i : Int), nums (bs ++ List.replicate m false) i = nums bs i
  | [], i => by simpa [nums] using nums_false m i
  | b :: bs, i => by cases b <;> simp [nums, nums_pad m bs (i + 1)]

theorem upTo_all (ps : List (List Stm)) (i : Int) (h4 : ps.length ≤ 4) : nums [upTo ps i ps.length 0, upTo ps i ps.length 1, upTo ps i ps.length 2, upTo ps i ps.length 3] 0 = nums (ps.map (fun p => called p i)) 0 := by
  rw [← nums_pad (4 - ps.length) (ps.map (fun p => called p i)) 0]
  match ps, h4 with
  | [], _ => simp [upTo, List.replicate_succ]
  | [a], _ => simp [upTo, List.replicate_succ]
  | [a, b], _ => simp [upTo, List.replicate_succ]
  | [a, b, c], _ => simp [upTo, List.replicate_succ]
  | [a, b, c, d], _ => simp [upTo]

theorem index0 (b0 b1 b2 b3 : Bool) (w : World) : (Instr.index 75 (.agg #[.bool b0, .bool b1, .bool b2, .bool b3]) (.int .i64 0)).run Tryz.prog w = .ok (.bool b0) w := by kernel_rfl
theorem index1 (b0 b1 b2 b3 : Bool) (w : World) : (Instr.index 75 (.agg #[.bool b0, .bool b1, .bool b2, .bool b3]) (.int .i64 1)).run Tryz.prog w = .ok (.bool b1) w := by kernel_rfl
theorem index2 (b0 b1 b2 b3 : Bool) (w : World) : (Instr.index 75 (.agg #[.bool b0, .bool b1, .bool b2, .bool b3]) (.int .i64 2)).run Tryz.prog w = .ok (.bool b2) w := by kernel_rfl
theorem index3 (b0 b1 b2 b3 : Bool) (w : World) : (Instr.index 75 (.agg #[.bool b0, .bool b1, .bool b2, .bool b3]) (.int .i64 3)).run Tryz.prog w = .ok (.bool b3) w := by kernel_rfl

/-- The array's value at a number. -/
theorem four_at (p : List Stm) (i : Int) (h0 : 0 ≤ i) (h3 : i ≤ 3) (w : World) :
    (Instr.index 75 (.agg #[Value.bool (called p 0), .bool (called p 1), .bool (called p 2), .bool (called p 3)]) (.int .i64 i)).run Tryz.prog w = .ok (.bool (called p i)) w := by
  have : i = 0 ∨ i = 1 ∨ i = 2 ∨ i = 3 := by omega
  rcases this with rfl | rfl | rfl | rfl
  · exact index0 _ _ _ _ w
  · exact index1 _ _ _ _ w
  · exact index2 _ _ _ _ w
  · exact index3 _ _ _ _ w

end Go.Proofs.YtldagpfeaabcdaaGreatDoor

/-
  Mathematics: what one comes to within a procedure, and how far it is (no dump is spoken of).
-/
namespace Go.Proofs.YtldagpfeaabcdaaGreatDoor
set_option linter.unusedVariables false

/-- What may come behind statement j. -/
def nx (ss : List Stm) (j : Nat) : List Int := nextsS (ss.getD j ⟨0, 0, 0⟩) j

/-- One comes to i by k steps from 0, never to wo. -/
def rk (ss : List Stm) (wo : Int) : Nat → Nat → Prop
  | 0, i => (i : Int) ≠ wo ∧ i = 0
  | k + 1, i => (i : Int) ≠ wo ∧ ∃ j : Nat, rk ss wo k j ∧ (i : Int) ∈ nx ss j

def Rch (ss : List Stm) (wo : Int) (i : Nat) : Prop := ∃ k, rk ss wo k i

theorem nx_eq {ss : List Stm} {j : Nat} (h : j < ss.length) : nx ss j = nextsS ss[j] j := by
  unfold nx; simp [List.getD, h]

theorem nx_in {ss : List Stm} (hp : procOk ss = true) {j : Nat} (h : j < ss.length) : ∀ x ∈ nx ss j, ∃ i : Nat, x = (i : Int) ∧ i < ss.length := by
  rw [nx_eq h]; exact nextsS_in hp h

theorem rk_in {ss : List Stm} (hp : procOk ss = true) {wo : Int} : ∀ {k i : Nat}, rk ss wo k i → i < ss.length
  | 0, i, h => by have := (procOk_parts hp).1; have := h.2; omega
  | k + 1, i, h => by
    obtain ⟨_, j, hj, hm⟩ := h
    obtain ⟨i', e, hlt⟩ := nx_in hp (rk_in hp hj) _ hm
    omega

theorem rk_ne {ss : List Stm} {wo : Int} : ∀ {k i : Nat}, rk ss wo k i → (i : Int) ≠ wo
  | 0, _, h => h.1
  | _ + 1, _, h => h.1

/-- The list of all that one comes to, rising. -/
def IsReached (ss : List Stm) (wo : Int) (A : List Int) : Prop := A.Pairwise (· < ·) ∧ ∀ x, x ∈ A ↔ ∃ i : Nat, x = (i : Int) ∧ Rch ss wo i

theorem sorted_ext : ∀ (a b : List Int), a.Pairwise (· < ·) → b.Pairwise (· < ·) → (∀ x, x ∈ a ↔ x ∈ b) → a = b
  | [], [], _, _, _ => rfl
  | [], y :: b, _, _, h => absurd ((h y).2 (by simp)) (by simp)
  | x :: a, [], _, _, h => absurd ((h x).1 (by simp)) (by simp)
  | x :: a, y :: b, ha, hb, h => by
    rw [List.pairwise_cons] at ha hb
    have h1 := (h x).1 (by simp)
    have h2 := (h y).2 (by simp)
    have hxy : x = y := by
      rcases List.mem_cons.1 h1 with e | e
      · exact e
      · rcases List.mem_cons.1 h2 with e' | e'
        · exact e'.symm
        · have := hb.1 x e; have := ha.1 y e'; omega
    subst hxy
    rw [sorted_ext a b ha.2 hb.2 (fun z => ?_)]
    have hz := h z
    simp only [List.mem_cons] at hz
    constructor
    · intro hm
      rcases hz.1 (.inr hm) with e | e
      · have := ha.1 z hm; omega
      · exact e
    · intro hm
      rcases hz.2 (.inr hm) with e | e
      · have := hb.1 z hm; omega
      · exact e

theorem isReached_unique {ss : List Stm} {wo : Int} {A B : List Int} (ha : IsReached ss wo A) (hb : IsReached ss wo B) : A = B :=
  sorted_ext A B ha.1 hb.1 (fun x => (ha.2 x).trans (hb.2 x).symm)

theorem isReached_some {ss : List Stm} (hp : procOk ss = true) (wo : Int) : ∃ A, IsReached ss wo A := by
  classical
  refine ⟨((List.range ss.length).filter (fun i => decide (Rch ss wo i))).map (fun i : Nat => (i : Int)), ?_, fun x => ?_⟩
  · rw [List.pairwise_map]
    exact (List.pairwise_lt_range.sublist List.filter_sublist).imp (fun h => by omega)
  · simp only [List.mem_map, List.mem_filter, List.mem_range, decide_eq_true_eq]
    constructor
    · rintro ⟨i, ⟨_, h⟩, rfl⟩; exact ⟨i, rfl, h⟩
    · rintro ⟨i, rfl, k, h⟩; exact ⟨i, ⟨rk_in hp h, k, h⟩, rfl⟩

theorem mem_ins (n : Int) : ∀ (xs : List Int) (x : Int), x ∈ ins n xs ↔ x = n ∨ x ∈ xs
  | [], x => by simp [ins]
  | y :: xs, x => by
    unfold ins
    split
    · simp only [List.mem_cons, mem_ins n xs x]
      constructor
      · rintro (h | h | h) <;> simp [h]
      · rintro (h | h | h) <;> simp [h]
    · split
      · rename_i h; subst h; simp
      · simp

theorem ins_sorted (n : Int) : ∀ xs : List Int, xs.Pairwise (· < ·) → (ins n xs).Pairwise (· < ·)
  | [], _ => by simp [ins]
  | y :: xs, h => by
    rw [List.pairwise_cons] at h
    unfold ins
    split
    · rename_i hy
      rw [List.pairwise_cons]
      refine ⟨fun z hz => ?_, ins_sorted n xs h.2⟩
      rcases (mem_ins n xs z).1 hz with rfl | hz
      · exact hy
      · exact h.1 z hz
    · split
      · rw [List.pairwise_cons]; exact h
      · rw [List.pairwise_cons, List.pairwise_cons]
        refine ⟨fun z hz => ?_, h⟩
        rcases List.mem_cons.1 hz with rfl | hz
        · omega
        · have := h.1 z hz; omega

theorem ins_len_new (n : Int) : ∀ xs : List Int, n ∉ xs → (ins n xs).length = xs.length + 1
  | [], _ => by simp [ins]
  | y :: xs, h => by
    simp only [List.mem_cons, not_or] at h
    unfold ins
    split
    · simp [ins_len_new n xs h.2]
    · split
      · omega
      · simp

theorem sorted_length : ∀ (a : List Int) (lo : Int) (n : Nat), a.Pairwise (· < ·) → (∀ x ∈ a, lo ≤ x ∧ x < lo + n) → a.length ≤ n
  | [], _, _, _, _ => by simp
  | x :: a, lo, n, h, hb => by
    rw [List.pairwise_cons] at h
    have hx := hb x (by simp)
    have hn : ((n - 1 - (x - lo).toNat : Nat) : Int) = n - 1 - (x - lo) := by omega
    have := sorted_length a (x + 1) (n - 1 - (x - lo).toNat) h.2 (fun y hy => by have := h.1 y hy; have := hb y (by simp [hy]); omega)
    simp only [List.length_cons]
    omega

/-- The state of a search that works its list off. -/
structure RInv (ss : List Stm) (wo : Int) (out todo : List Int) : Prop where
  sorted : out.Pairwise (· < ·)
  outR : ∀ x ∈ out, ∃ i : Nat, x = (i : Int) ∧ Rch ss wo i
  todoR : ∀ x ∈ todo, ∃ i : Nat, x = (i : Int) ∧ i < ss.length ∧ ((i : Int) ≠ wo → Rch ss wo i)
  zero : (0 : Int) ∈ out ∨ (0 : Int) ∈ todo ∨ (0 : Int) = wo
  closed : ∀ i : Nat, (i : Int) ∈ out → ∀ y ∈ nx ss i, y ∈ out ∨ y ∈ todo ∨ y = wo
  len : todo.length ≤ 1 + 2 * out.length

theorem RInv.start {ss : List Stm} (hp : procOk ss = true) (wo : Int) : RInv ss wo [] [0] where
  sorted := by simp
  outR := by simp
  todoR := fun x hx => by simp at hx; subst hx; exact ⟨0, rfl, by have := (procOk_parts hp).1; omega, fun h => ⟨0, h, rfl⟩⟩
  zero := by simp
  closed := by simp
  len := by simp

theorem RInv.outLen {ss : List Stm} {wo : Int} {out todo : List Int} (hp : procOk ss = true) (h : RInv ss wo out todo) : out.length ≤ 12 := by
  have h12 := (procOk_parts hp).2.1
  refine Nat.le_trans (sorted_length out 0 ss.length h.sorted (fun x hx => ?_)) h12
  obtain ⟨i, rfl, k, hk⟩ := h.outR x hx
  have := rk_in hp hk
  omega

theorem RInv.skip {ss : List Stm} {wo : Int} {out todo : List Int} {x : Int} (h : RInv ss wo out (x :: todo)) (hx : x = wo ∨ x ∈ out) : RInv ss wo out todo where
  sorted := h.sorted
  outR := h.outR
  todoR := fun y hy => h.todoR y (by simp [hy])
  zero := by
    rcases h.zero with h0 | h0 | h0
    · exact .inl h0
    · rcases List.mem_cons.1 h0 with e | e
      · rcases hx with hx | hx
        · exact .inr (.inr (e.trans hx))
        · exact .inl (e ▸ hx)
      · exact .inr (.inl e)
    · exact .inr (.inr h0)
  closed := fun i hi y hy => by
    rcases h.closed i hi y hy with h0 | h0 | h0
    · exact .inl h0
    · rcases List.mem_cons.1 h0 with e | e
      · rcases hx with hx | hx
        · exact .inr (.inr (e.trans hx))
        · exact .inl (e ▸ hx)
      · exact .inr (.inl e)
    · exact .inr (.inr h0)
  len := by have := h.len; simp at this; omega

theorem RInv.step {ss : List Stm} {wo : Int} {out todo : List Int} {i : Nat} (hp : procOk ss = true) (h : RInv ss wo out ((i : Int) :: todo)) (h1 : (i : Int) ≠ wo) (h2 : (i : Int) ∉ out) : RInv ss wo (ins i out) (todo ++ nx ss i) := by
  obtain ⟨i', e, hlt, hR⟩ := h.todoR i (by simp)
  obtain rfl : i = i' := by omega
  have hi := hR h1
  refine ⟨ins_sorted _ _ h.sorted, fun x hx => ?_, fun x hx => ?_, ?_, fun j hj y hy => ?_, ?_⟩
  · rcases (mem_ins _ _ _).1 hx with rfl | hx
    · exact ⟨i, rfl, hi⟩
    · exact h.outR x hx
  · rcases List.mem_append.1 hx with hx | hx
    · exact h.todoR x (by simp [hx])
    · obtain ⟨j, rfl, hj⟩ := nx_in hp hlt x hx
      obtain ⟨k, hk⟩ := hi
      exact ⟨j, rfl, hj, fun hne => ⟨k + 1, hne, i, hk, hx⟩⟩
  · rcases h.zero with h0 | h0 | h0
    · exact .inl ((mem_ins _ _ _).2 (.inr h0))
    · rcases List.mem_cons.1 h0 with e | e
      · exact .inl ((mem_ins _ _ _).2 (.inl e))
      · exact .inr (.inl (by simp [e]))
    · exact .inr (.inr h0)
  · rcases (mem_ins _ _ _).1 hj with e | hj
    · obtain rfl : j = i := by omega
      exact .inr (.inl (by simp [hy]))
    · rcases h.closed j hj y hy with h0 | h0 | h0
      · exact .inl ((mem_ins _ _ _).2 (.inr h0))
      · rcases List.mem_cons.1 h0 with e | e
        · exact .inl ((mem_ins _ _ _).2 (.inl e))
        · exact .inr (.inl (by simp [e]))
      · exact .inr (.inr h0)
  · have := h.len
    have h3 : (nx ss i).length ≤ 2 := nextsS_length _ _
    rw [ins_len_new _ _ h2, List.length_append]
    simp at this
    omega

theorem RInv.done {ss : List Stm} {wo : Int} {out : List Int} (h : RInv ss wo out []) : IsReached ss wo out := by
  refine ⟨h.sorted, fun x => ⟨h.outR x, ?_⟩⟩
  rintro ⟨i, rfl, k, hk⟩
  have key : ∀ (k i : Nat), rk ss wo k i → (i : Int) ∈ out := by
    intro k
    induction k with
    | zero =>
      intro i hk
      obtain ⟨h1, rfl⟩ := hk
      rcases h.zero with h0 | h0 | h0
      · exact h0
      · simp at h0
      · exact absurd h0 h1
    | succ k ih =>
      intro i hk
      obtain ⟨h1, j, hj, hm⟩ := hk
      rcases h.closed j (ih j hj) _ hm with h0 | h0 | h0
      · exact h0
      · simp at h0
      · exact absurd h0 h1
  exact key k i hk

end Go.Proofs.YtldagpfeaabcdaaGreatDoor

/-
  A slice of numbers that is worked off at its head (q[1:]) and appended to: where it lies in its block is of no account.
-/
namespace Go.Proofs.YtldagpfeaabcdaaGreatDoor
open Go.RowKit
set_option linter.unusedVariables false
set_option maxHeartbeats 1000000

/-- The slice v, whose block is the call's own, holds xs. -/
def Queue (w : World) (base : Nat) (v : Value) (xs : List Int) : Prop :=
  ∃ g off cap, v = .slice (some ⟨g, off, none⟩) xs.length cap ∧ base ≤ g ∧ g < w.heap.size ∧ xs.length ≤ cap ∧
    (∀ (j : Nat) (x : Int), xs[j]? = some x → w.cell? ⟨g, off + j, none⟩ = some (.int .i64 x)) ∧
    (∀ j, j < cap → (w.cell? ⟨g, off + j, none⟩).isSome = true ∧ w.frozen? ⟨g, off + j, none⟩ = false)

theorem Queue.lt {w : World} {base : Nat} {v : Value} {xs : List Int} (h : Queue w base v xs) : ∀ k, v.ownBlock = some k → base ≤ k ∧ k < w.heap.size := by
  obtain ⟨g, off, cap, rfl, hb, hlt, _⟩ := h
  intro k hk
  obtain rfl : g = k := by simpa [Value.ownBlock] using hk
  exact ⟨hb, hlt⟩

theorem Queue.kept {w w' : World} {base : Nat} {v : Value} {xs : List Int} {row : Option Nat} (h : Queue w base v xs) (hg : w.grownBy w' row) (hne : ∀ k, v.ownBlock = some k → row ≠ some k) : Queue w' base v xs := by
  obtain ⟨g, off, cap, rfl, hb, hlt, hle, hc, hs⟩ := h
  have e := hg.block g hlt (fun e => hne g rfl e.symm)
  refine ⟨g, off, cap, rfl, hb, Nat.lt_of_lt_of_le hlt hg.size, hle, fun j x hx => (World.cell?_of_block (a := ⟨g, off + j, none⟩) e).trans (hc j x hx), fun j hj => ?_⟩
  rw [World.cell?_of_block (a := ⟨g, off + j, none⟩) e, World.frozen?_of_block (a := ⟨g, off + j, none⟩) e]
  exact hs j hj

theorem Queue.same {w w' : World} {base : Nat} {v : Value} {xs : List Int} (h : Queue w base v xs) (hz : w.heap.size ≤ w'.heap.size) (he : ∀ k, v.ownBlock = some k → w'.heap[k]? = w.heap[k]?) : Queue w' base v xs := by
  obtain ⟨g, off, cap, rfl, hb, hlt, hle, hc, hs⟩ := h
  have e := he g rfl
  refine ⟨g, off, cap, rfl, hb, Nat.lt_of_lt_of_le hlt hz, hle, fun j x hx => (World.cell?_of_block (a := ⟨g, off + j, none⟩) e).trans (hc j x hx), fun j hj => ?_⟩
  rw [World.cell?_of_block (a := ⟨g, off + j, none⟩) e, World.frozen?_of_block (a := ⟨g, off + j, none⟩) e]
  exact hs j hj

/-- A row that owns its cells is such a slice. -/
theorem queue_own {w : World} {base : Nat} {g cap : Nat} {xs : List Int} (h : w.ownsRow base 2 1 (.slice (some ⟨g, 0, none⟩) xs.length cap) xs.length (ints xs)) : Queue w base (.slice (some ⟨g, 0, none⟩) xs.length cap) xs := by
  rcases h.2 with ⟨e, _⟩ | ⟨g', cap', cur, e, hb, hg, hn, hm, hs, ht⟩
  · cases e
  · simp only [Value.slice.injEq, Option.some.injEq, Addr.mk.injEq, and_true, true_and] at e
    obtain ⟨rfl, rfl⟩ := e
    refine ⟨g, 0, cap, rfl, hb, (Array.getElem?_eq_some_iff.1 hg).1, hn, fun j x hx => ?_, fun j hj => ?_⟩
    · have hj : j < xs.length := (List.getElem?_eq_some_iff.1 hx).1
      have := h.cellAt j (by omega)
      rw [Nat.zero_add, this]
      simp [ints, hx]
    · rw [Nat.zero_add, cell_of_row w g j cur 2 (0, 0) hg]
      refine ⟨?_, frozen_of_row w g j cur 2 hg⟩
      rw [Nat.mul_one] at hs
      simp [hs, hj]

/-- Without its head. -/
theorem Queue.tail {w : World} {base g off cap : Nat} {x : Int} {xs : List Int} (h : Queue w base (.slice (some ⟨g, off, none⟩) (xs.length + 1) cap) (x :: xs)) :
    w.cell? ⟨g, off, none⟩ = some (.int .i64 x) ∧ xs.length + 1 ≤ cap ∧ (cap = 1 → Queue w base (.slice (some ⟨g, off, none⟩) 0 0) xs) ∧ Queue w base (.slice (some ⟨g, off + 1, none⟩) xs.length (cap - 1)) xs := by
  obtain ⟨g', off', cap', e, hb, hlt, hle, hc, hs⟩ := h
  simp only [List.length_cons, Value.slice.injEq, Option.some.injEq, Addr.mk.injEq, and_true, true_and] at e
  obtain ⟨⟨rfl, rfl⟩, rfl⟩ := e
  simp only [List.length_cons] at hle
  refine ⟨by simpa using hc 0 x rfl, hle, fun h1 => ?_, g, off + 1, cap - 1, rfl, hb, hlt, by omega, fun j y hy => ?_, fun j hj => ?_⟩
  · subst h1
    have : xs = [] := List.eq_nil_of_length_eq_zero (by omega)
    subst this
    exact ⟨g, off, 0, rfl, hb, hlt, by simp, fun j y hy => by simp at hy, fun j hj => by omega⟩
  · have := hc (j + 1) y (by simpa using hy)
    rwa [show off + (j + 1) = off + 1 + j by omega] at this
  · have := hs (j + 1) (by omega)
    rwa [show off + (j + 1) = off + 1 + j by omega] at this

theorem grown_setCell1 (w : World) (b o : Nat) (v : Value) : w.grownBy (w.setCell ⟨b, o, none⟩ v) (some b) :=
  ⟨rfl, rfl, rfl, by simp [World.setCell], fun k _ hk => Below.heap_setCell w ⟨b, o, none⟩ v k (fun e => hk (by rw [e]))⟩

theorem grown_setCells (b : Nat) : ∀ (vs : List Value) (o : Nat) (w : World), w.grownBy (w.setCells b o vs) (some b)
  | [], _, w => World.grownBy.refl _ _
  | v :: r, o, w => by
    rw [World.setCells]
    exact grown_trans (grown_setCell1 w b o v) (grown_setCells b r (o + 1) _)

/-- append(q, ys...). -/
theorem run_append_queue {P : Program} {w : World} {base : Nat} (t ty : TypeId) (i : TypeInfo) (ht : P.underlying t = some (.slice 2)) (hi : P.info? 2 = some i) (hz : i.zero = some (.int .i64 0)) (hsize : i.size = 1) (hby : i.bytes = 8)
    {v : Value} {xs : List Int} (h : Queue w base v xs) (ad : Addr) (m c : Nat) (ys : List Int) (hl : ys.length = m) (hnews : ∀ j u, (ints ys)[j]? = some u → w.cell? (ad.add j) = some u)
    (h63 : xs.length + ys.length ≤ 1000000) (hbase : base ≤ w.heap.size) :
    ∃ v' w', (Builtin.append_ #[t, t] ty #[v, .slice (some ad) m c]).run P w = .ok v' w' ∧ Queue w' base v' (xs ++ ys) ∧ w.grownBy w' v.ownBlock ∧ (∀ k, v'.ownBlock = some k → v.ownBlock = some k ∨ w.heap.size ≤ k) := by
  subst hl
  obtain ⟨g, off, cap, rfl, hb, hlt, hle, hc, hs⟩ := h
  have hil : (ints ys).length = ys.length * i.size := by rw [hsize, Nat.mul_one, ints_length]
  by_cases hr : xs.length + ys.length ≤ cap
  · have hrun := run_append_room_cells (P := P) w t ty 2 i ht hi g off xs.length cap ad ys.length c (ints ys) hil hnews (ints_oneCell ys) hr
      (fun j hj => by rw [ints_length] at hj; rw [hsize, Nat.mul_one, Nat.add_assoc]; exact (hs (xs.length + j) (by omega)).1)
      (fun j hj => by rw [ints_length] at hj; rw [hsize, Nat.mul_one, Nat.add_assoc]; exact (hs (xs.length + j) (by omega)).2)
    rw [hsize, Nat.mul_one] at hrun
    have hg := grown_setCells g (ints ys) (off + xs.length) w
    have hin := World.cell?_setCells_in g (ints ys) (off + xs.length) w (fun j hj => by rw [ints_length] at hj; rw [Nat.add_assoc]; exact (hs (xs.length + j) (by omega)).1)
    refine ⟨_, _, hrun, ⟨g, off, cap, by rw [List.length_append], hb, Nat.lt_of_lt_of_le hlt hg.size, by rw [List.length_append]; omega, fun j x hx => ?_, fun j hj => ⟨?_, ?_⟩⟩, hg, fun k hk => .inl hk⟩
    · by_cases hj : j < xs.length
      · rw [List.getElem?_append_left hj] at hx
        rw [World.cell?_setCells_out g _ _ _ _ (fun _ _ => Or.inl (by show off + j < off + xs.length; omega))]
        exact hc j x hx
      · rw [List.getElem?_append_right (by omega)] at hx
        have hj2 : j - xs.length < ys.length := (List.getElem?_eq_some_iff.1 hx).1
        have := hin (j - xs.length) (by rw [ints_length]; exact hj2)
        rw [show off + xs.length + (j - xs.length) = off + j by omega] at this
        rw [this]
        obtain ⟨_, hx2⟩ := List.getElem?_eq_some_iff.1 hx
        simp [ints, hx2]
    · by_cases hj2 : j < xs.length ∨ xs.length + ys.length ≤ j
      · rw [World.cell?_setCells_out g _ _ _ _ (fun _ _ => by show off + j < off + xs.length ∨ off + xs.length + (ints ys).length ≤ off + j; rw [ints_length]; omega)]
        exact (hs j hj).1
      · have := hin (j - xs.length) (by rw [ints_length]; omega)
        rw [show off + xs.length + (j - xs.length) = off + j by omega] at this
        rw [this]; rfl
    · rw [World.frozen?_setCells]; exact (hs j hj).2
  · obtain ⟨v', w', hrun, hown, hg⟩ := run_append_arg_grows (P := P) w t ty 2 i (.int .i64 0) 1 8 ht hi hz hsize hby rfl (by decide) ⟨g, off, none⟩ xs.length cap (ints xs) (by simp [ints_length])
      (fun j u hu => by
        simp only [ints, List.getElem?_map, Option.map_eq_some_iff] at hu
        obtain ⟨x, hx, rfl⟩ := hu
        rw [Addr.add_lit]; exact hc j x hx)
      ad ys.length c (ints ys) (by simp [ints_length]) hnews (by omega) (by unfold maxLen; omega) (by omega)
    have ho : w'.ownsRow base 2 1 v' (xs ++ ys).length (ints (xs ++ ys)) := by
      have := own_mono hown hbase
      simpa [ints] using this
    refine ⟨v', w', hrun, ?_, ⟨hg.os, hg.tape, hg.output, hg.size, fun k hk _ => hg.block k hk (by simp)⟩, fun k hk => .inr (hown.lt k hk).1⟩
    rcases ho.2 with ⟨_, hn⟩ | ⟨g', cap', cur, e, _⟩
    · rw [List.length_append] at hn; omega
    · rw [e] at ho ⊢
      exact queue_own ho

/-- .. for the walk. -/
theorem wpList_append_queue {P : Program} {w : World} {ops : Array Oper} {rest : List Oper} {o : Oper} {a : Act} {Q : Exit → Act → World → Prop} (hgd : o.guard = none) (s x : Operand) (t : TypeId)
    (ho : o.op = .call { callee := .builtin .append, args := #[s, x], argTypes := #[t, t] }) {base : Nat} (i : TypeInfo) (ht : P.underlying t = some (.slice 2)) (hi : P.info? 2 = some i) (hz : i.zero = some (.int .i64 0)) (hsize : i.size = 1) (hby : i.bytes = 8)
    {v : Value} {xs : List Int} (hs : a.eval s = v) (h : Queue w base v xs) (ad : Addr) (m c : Nat) (ys : List Int) (hx : a.eval x = .slice (some ad) m c) (hl : ys.length = m) (hnews : ∀ j u, (ints ys)[j]? = some u → w.cell? (ad.add j) = some u)
    (h63 : xs.length + ys.length ≤ 1000000) (hbase : base ≤ w.heap.size)
    (hK : ∀ v' w', Queue w' base v' (xs ++ ys) → w.grownBy w' v.ownBlock → (∀ k, v'.ownBlock = some k → v.ownBlock = some k ∨ w.heap.size ≤ k) → wpList P ops Q rest (a.put o.dst v') w') : wpList P ops Q (o :: rest) a w := by
  refine wpList_plain hgd fun K hK' => ?_
  obtain ⟨v', w', hrun, r1, r2, r3⟩ := run_append_queue (P := P) t o.type i ht hi hz hsize hby h ad m c ys hl hnews h63 hbase
  unfold Oper.wp
  simp [execOp, ho, resolve, invoke, builtin, hs, hx, hrun, Result.andThen]
  exact hK' _ _ (hK v' w' r1 r2 r3)

/-- .. inside a fence. -/
theorem wpListIn_append_queue {F : Fence} {n : Nat} {P : Program} {w : World} {ops : Array Oper} {rest : List Oper} {o : Oper} {a : Act} {Q : Exit → Act → World → Prop} (hgd : o.guard = none) (s x : Operand) (t : TypeId)
    (ho : o.op = .call { callee := .builtin .append, args := #[s, x], argTypes := #[t, t] }) {base : Nat} (i : TypeInfo) (ht : P.underlying t = some (.slice 2)) (hi : P.info? 2 = some i) (hz : i.zero = some (.int .i64 0)) (hsize : i.size = 1) (hby : i.bytes = 8)
    {v : Value} {xs : List Int} (hs : a.eval s = v) (h : Queue w base v xs) (ad : Addr) (m c : Nat) (ys : List Int) (hx : a.eval x = .slice (some ad) m c) (hl : ys.length = m) (hnews : ∀ j u, (ints ys)[j]? = some u → w.cell? (ad.add j) = some u)
    (h63 : xs.length + ys.length ≤ 1000000) (hbase : base ≤ w.heap.size)
    (hK : ∀ v' w', Queue w' base v' (xs ++ ys) → w.grownBy w' v.ownBlock → (∀ k, v'.ownBlock = some k → v.ownBlock = some k ∨ w.heap.size ≤ k) → wpListIn F n P ops Q rest (a.put o.dst v') w') : wpListIn F n P ops Q (o :: rest) a w := by
  refine wpListIn_plain hgd fun K hK' => ?_
  obtain ⟨v', w', hrun, r1, r2, r3⟩ := run_append_queue (P := P) t o.type i ht hi hz hsize hby h ad m c ys hl hnews h63 hbase
  unfold Oper.wpIn
  refine ⟨?_, ?_⟩
  · simp [Oper.about, ho, resolve, Target.leads, Sem.run_pure]
  · rw [Oper.semAt_plain F _ _ (by rw [ho]; intro c hc'; cases hc')]
    simp [execOp, ho, resolve, invoke, builtin, hs, hx, hrun, Result.andThen]
    exact hK' _ _ (hK v' w' r1 r2 r3)

end Go.Proofs.YtldagpfeaabcdaaGreatDoor

/-
  spec.l4Reached (all that one comes to without one statement), spec.Reached.
-/
namespace Go.Proofs.YtldagpfeaabcdaaGreatDoor
open Go.RowKit
set_option linter.unusedVariables false
set_option maxHeartbeats 1000000

def lenOf : Value → Nat
  | .slice _ n _ => n
  | _ => 0

theorem hasI_mem (xs : List Int) (n : Int) : xs.any (fun x => decide (x = n)) = decide (n ∈ xs) := by
  rw [Bool.eq_iff_iff]
  simp

end Go.Proofs.YtldagpfeaabcdaaGreatDoor
