/-
 Put together out of: CallersBoth, Bfs, QueueS, SpecReached.
-/
import Derived.Test.YtldagpfeaabcdaaGreatDoorG35CallsBoth
import Derived.ArgAppend
import Derived.OwnWalkIn
namespace Go.Proofs.YtldagpfeaabcdaaGreatDoor
open Go.RowKit
set_option linter.unusedVariables false
set_option maxHeartbeats 1000000
theorem ins_any (n i : Int) : ∀ xs : List Int, (ins n xs).any (fun x => decide (x = i)) = (decide (n = i) || xs.any (fun x => decide (x = i)))
 | [] => by simp [ins]
 | x :: xs => by
  unfold ins
  split
  · rw [List.any_cons, ins_any n i xs, List.any_cons]
    cases decide (x = i) <;> cases decide (n = i) <;> simp
  · split
    · rename_i h
      subst h
      simp
    · simp
theorem qc0 (p : List Stm) (i : Int) : (ju7 p).any (fun x => decide (x = i)) = jd2 p i := by
 have key : ∀ (p : List Stm) (acc : List Int), (p.foldl jy9 acc).any (fun x => decide (x = i)) = (acc.any (fun x => decide (x = i)) || jd2 p i) := by
  intro p
  induction p with
  | nil => intro acc; simp [jd2]
  | cons s p ih =>
   intro acc
   rw [List.foldl_cons, ih, jy9]
   by_cases h8 : s.k = 8
   · rw [if_pos h8, ins_any]
     simp only [jd2, List.any_cons, h8, decide_true, Bool.true_and]
     cases decide (s.y = i) <;> simp
   · rw [if_neg h8]
     simp [jd2, h8]
 have := key p []
 simpa [ju7] using this
end Go.Proofs.YtldagpfeaabcdaaGreatDoor
namespace Go.Proofs.YtldagpfeaabcdaaGreatDoor
set_option linter.unusedVariables false
def nx (ss : List Stm) (j : Nat) : List Int := jj0 (ss.getD j ⟨0, 0, 0⟩) j
def rk (ss : List Stm) (wo : Int) : Nat → Nat → Prop
 | 0, i => (i : Int) ≠ wo ∧ i = 0
 | k + 1, i => (i : Int) ≠ wo ∧ ∃ j : Nat, rk ss wo k j ∧ (i : Int) ∈ nx ss j
def Rch (ss : List Stm) (wo : Int) (i : Nat) : Prop := ∃ k, rk ss wo k i
theorem nx_eq {ss : List Stm} {j : Nat} (h : j < ss.length) : nx ss j = jj0 ss[j] j := by
 unfold nx; simp [List.getD, h]
theorem nx_in {ss : List Stm} (hp : je7 ss = true) {j : Nat} (h : j < ss.length) : ∀ x ∈ nx ss j, ∃ i : Nat, x = (i : Int) ∧ i < ss.length := by
 rw [nx_eq h]; exact qc9 hp h
def IsReached (ss : List Stm) (wo : Int) (A : List Int) : Prop := A.Pairwise (· < ·) ∧ ∀ x, x ∈ A ↔ ∃ i : Nat, x = (i : Int) ∧ Rch ss wo i
theorem qh0 : ∀ (a b : List Int), a.Pairwise (· < ·) → b.Pairwise (· < ·) → (∀ x, x ∈ a ↔ x ∈ b) → a = b
 | [], [], _, _, _ => rfl
 | [], y :: b, _, _, h => absurd ((h y).2 (by simp)) (by simp)
 | x :: a, [], _, _, h => absurd ((h x).1 (by simp)) (by simp)
 | x :: a, y :: b, ha, hb, h => by
  rw [List.pairwise_cons] at ha hb
  have h1 := (h x).1 (by simp)
  have h2 := (h y).2 (by simp)
  have hxy : x = y := by
   rcases List.mem_cons.1 h1 with e | e
   · exact e
   · rcases List.mem_cons.1 h2 with e' | e'
     · exact e'.symm
     · have := hb.1 x e; have := ha.1 y e'; omega
  subst hxy
  rw [qh0 a b ha.2 hb.2 (fun z => ?_)]
  have hz := h z
  simp only [List.mem_cons] at hz
  constructor
  · intro hm
    rcases hz.1 (.inr hm) with e | e
    · have := ha.1 z hm; omega
    · exact e
  · intro hm
    rcases hz.2 (.inr hm) with e | e
    · have := hb.1 z hm; omega
    · exact e
theorem jl3 (n : Int) : ∀ (xs : List Int) (x : Int), x ∈ ins n xs ↔ x = n ∨ x ∈ xs
 | [], x => by simp [ins]
 | y :: xs, x => by
  unfold ins
  split
  · simp only [List.mem_cons, jl3 n xs x]
    constructor
    · rintro (h | h | h) <;> simp [h]
    · rintro (h | h | h) <;> simp [h]
  · split
    · rename_i h; subst h; simp
    · simp
theorem jy3 (n : Int) : ∀ xs : List Int, xs.Pairwise (· < ·) → (ins n xs).Pairwise (· < ·)
 | [], _ => by simp [ins]
 | y :: xs, h => by
  rw [List.pairwise_cons] at h
  unfold ins
  split
  · rename_i hy
    rw [List.pairwise_cons]
    refine ⟨fun z hz => ?_, jy3 n xs h.2⟩
    rcases (jl3 n xs z).1 hz with rfl | hz
    · exact hy
    · exact h.1 z hz
  · split
    · rw [List.pairwise_cons]; exact h
    · rw [List.pairwise_cons, List.pairwise_cons]
      refine ⟨fun z hz => ?_, h⟩
      rcases List.mem_cons.1 hz with rfl | hz
      · omega
      · have := h.1 z hz; omega
theorem jt5 (n : Int) : ∀ xs : List Int, n ∉ xs → (ins n xs).length = xs.length + 1
 | [], _ => by simp [ins]
 | y :: xs, h => by
  simp only [List.mem_cons, not_or] at h
  unfold ins
  split
  · simp [jt5 n xs h.2]
  · split
    · omega
    · simp
theorem jw5 : ∀ (a : List Int) (lo : Int) (n : Nat), a.Pairwise (· < ·) → (∀ x ∈ a, lo ≤ x ∧ x < lo + n) → a.length ≤ n
 | [], _, _, _, _ => by simp
 | x :: a, lo, n, h, hb => by
  rw [List.pairwise_cons] at h
  have hx := hb x (by simp)
  have hn : ((n - 1 - (x - lo).toNat : Nat) : Int) = n - 1 - (x - lo) := by omega
  have := jw5 a (x + 1) (n - 1 - (x - lo).toNat) h.2 (fun y hy => by have := h.1 y hy; have := hb y (by simp [hy]); omega)
  simp only [List.length_cons]
  omega
structure RInv (ss : List Stm) (wo : Int) (out todo : List Int) : Prop where
 sorted : out.Pairwise (· < ·)
 outR : ∀ x ∈ out, ∃ i : Nat, x = (i : Int) ∧ Rch ss wo i
 todoR : ∀ x ∈ todo, ∃ i : Nat, x = (i : Int) ∧ i < ss.length ∧ ((i : Int) ≠ wo → Rch ss wo i)
 zero : (0 : Int) ∈ out ∨ (0 : Int) ∈ todo ∨ (0 : Int) = wo
 closed : ∀ i : Nat, (i : Int) ∈ out → ∀ y ∈ nx ss i, y ∈ out ∨ y ∈ todo ∨ y = wo
 len : todo.length ≤ 1 + 2 * out.length
theorem RInv.start {ss : List Stm} (hp : je7 ss = true) (wo : Int) : RInv ss wo [] [0] where
 sorted := by simp
 outR := by simp
 todoR := fun x hx => by simp at hx; subst hx; exact ⟨0, rfl, by have := (jh0 hp).1; omega, fun h => ⟨0, h, rfl⟩⟩
 zero := by simp
 closed := by simp
 len := by simp
theorem RInv.skip {ss : List Stm} {wo : Int} {out todo : List Int} {x : Int} (h : RInv ss wo out (x :: todo)) (hx : x = wo ∨ x ∈ out) : RInv ss wo out todo where
 sorted := h.sorted
 outR := h.outR
 todoR := fun y hy => h.todoR y (by simp [hy])
 zero := by
  rcases h.zero with h0 | h0 | h0
  · exact .inl h0
  · rcases List.mem_cons.1 h0 with e | e
    · rcases hx with hx | hx
      · exact .inr (.inr (e.trans hx))
      · exact .inl (e ▸ hx)
    · exact .inr (.inl e)
  · exact .inr (.inr h0)
 closed := fun i hi y hy => by
  rcases h.closed i hi y hy with h0 | h0 | h0
  · exact .inl h0
  · rcases List.mem_cons.1 h0 with e | e
    · rcases hx with hx | hx
      · exact .inr (.inr (e.trans hx))
      · exact .inl (e ▸ hx)
    · exact .inr (.inl e)
  · exact .inr (.inr h0)
 len := by have := h.len; simp at this; omega
theorem RInv.step {ss : List Stm} {wo : Int} {out todo : List Int} {i : Nat} (hp : je7 ss = true) (h : RInv ss wo out ((i : Int) :: todo)) (h1 : (i : Int) ≠ wo) (h2 : (i : Int) ∉ out) : RInv ss wo (ins i out) (todo ++ nx ss i) := by
 obtain ⟨i', e, hlt, hR⟩ := h.todoR i (by simp)
 obtain rfl : i = i' := by omega
 have hi := hR h1
 refine ⟨jy3 _ _ h.sorted, fun x hx => ?_, fun x hx => ?_, ?_, fun j hj y hy => ?_, ?_⟩
 · rcases (jl3 _ _ _).1 hx with rfl | hx
   · exact ⟨i, rfl, hi⟩
   · exact h.outR x hx
 · rcases List.mem_append.1 hx with hx | hx
   · exact h.todoR x (by simp [hx])
   · obtain ⟨j, rfl, hj⟩ := nx_in hp hlt x hx
     obtain ⟨k, hk⟩ := hi
     exact ⟨j, rfl, hj, fun hne => ⟨k + 1, hne, i, hk, hx⟩⟩
 · rcases h.zero with h0 | h0 | h0
   · exact .inl ((jl3 _ _ _).2 (.inr h0))
   · rcases List.mem_cons.1 h0 with e | e
     · exact .inl ((jl3 _ _ _).2 (.inl e))
     · exact .inr (.inl (by simp [e]))
   · exact .inr (.inr h0)
 · rcases (jl3 _ _ _).1 hj with e | hj
   · obtain rfl : j = i := by omega
     exact .inr (.inl (by simp [hy]))
   · rcases h.closed j hj y hy with h0 | h0 | h0
     · exact .inl ((jl3 _ _ _).2 (.inr h0))
     · rcases List.mem_cons.1 h0 with e | e
       · exact .inl ((jl3 _ _ _).2 (.inl e))
       · exact .inr (.inl (by simp [e]))
     · exact .inr (.inr h0)
 · have := h.len
   have h3 : (nx ss i).length ≤ 2 := jw6 _ _
   rw [jt5 _ _ h2, List.length_append]
   simp at this
   omega
theorem RInv.done {ss : List Stm} {wo : Int} {out : List Int} (h : RInv ss wo out []) : IsReached ss wo out := by
 refine ⟨h.sorted, fun x => ⟨h.outR x, ?_⟩⟩
 rintro ⟨i, rfl, k, hk⟩
 have key : ∀ (k i : Nat), rk ss wo k i → (i : Int) ∈ out := by
  intro k
  induction k with
  | zero =>
   intro i hk
   obtain ⟨h1, rfl⟩ := hk
   rcases h.zero with h0 | h0 | h0
   · exact h0
   · simp at h0
   · exact absurd h0 h1
  | succ k ih =>
   intro i hk
   obtain ⟨h1, j, hj, hm⟩ := hk
   rcases h.closed j (ih j hj) _ hm with h0 | h0 | h0
   · exact h0
   · simp at h0
   · exact absurd h0 h1
 exact key k i hk
end Go.Proofs.YtldagpfeaabcdaaGreatDoor
namespace Go.Proofs.YtldagpfeaabcdaaGreatDoor
open Go.RowKit
set_option linter.unusedVariables false
set_option maxHeartbeats 1000000
def Queue (w : World) (base : Nat) (v : Value) (xs : List Int) : Prop :=
 ∃ g off cap, v = .slice (some ⟨g, off, none⟩) xs.length cap ∧ base ≤ g ∧ g < w.heap.size ∧ xs.length ≤ cap ∧
  (∀ (j : Nat) (x : Int), xs[j]? = some x → w.cell? ⟨g, off + j, none⟩ = some (.int .i64 x)) ∧
  (∀ j, j < cap → (w.cell? ⟨g, off + j, none⟩).isSome = true ∧ w.frozen? ⟨g, off + j, none⟩ = false)
theorem Queue.lt {w : World} {base : Nat} {v : Value} {xs : List Int} (h : Queue w base v xs) : ∀ k, v.ownBlock = some k → base ≤ k ∧ k < w.heap.size := by
 obtain ⟨g, off, cap, rfl, hb, hlt, _⟩ := h
 intro k hk
 obtain rfl : g = k := by simpa [Value.ownBlock] using hk
 exact ⟨hb, hlt⟩
theorem Queue.kept {w w' : World} {base : Nat} {v : Value} {xs : List Int} {row : Option Nat} (h : Queue w base v xs) (hg : w.grownBy w' row) (hne : ∀ k, v.ownBlock = some k → row ≠ some k) : Queue w' base v xs := by
 obtain ⟨g, off, cap, rfl, hb, hlt, hle, hc, hs⟩ := h
 have e := hg.block g hlt (fun e => hne g rfl e.symm)
 refine ⟨g, off, cap, rfl, hb, Nat.lt_of_lt_of_le hlt hg.size, hle, fun j x hx => (World.cell?_of_block (a := ⟨g, off + j, none⟩) e).trans (hc j x hx), fun j hj => ?_⟩
 rw [World.cell?_of_block (a := ⟨g, off + j, none⟩) e, World.frozen?_of_block (a := ⟨g, off + j, none⟩) e]
 exact hs j hj
theorem Queue.same {w w' : World} {base : Nat} {v : Value} {xs : List Int} (h : Queue w base v xs) (hz : w.heap.size ≤ w'.heap.size) (he : ∀ k, v.ownBlock = some k → w'.heap[k]? = w.heap[k]?) : Queue w' base v xs := by
 obtain ⟨g, off, cap, rfl, hb, hlt, hle, hc, hs⟩ := h
 have e := he g rfl
 refine ⟨g, off, cap, rfl, hb, Nat.lt_of_lt_of_le hlt hz, hle, fun j x hx => (World.cell?_of_block (a := ⟨g, off + j, none⟩) e).trans (hc j x hx), fun j hj => ?_⟩
 rw [World.cell?_of_block (a := ⟨g, off + j, none⟩) e, World.frozen?_of_block (a := ⟨g, off + j, none⟩) e]
 exact hs j hj
theorem Queue.tail {w : World} {base g off cap : Nat} {x : Int} {xs : List Int} (h : Queue w base (.slice (some ⟨g, off, none⟩) (xs.length + 1) cap) (x :: xs)) :
 w.cell? ⟨g, off, none⟩ = some (.int .i64 x) ∧ xs.length + 1 ≤ cap ∧ (cap = 1 → Queue w base (.slice (some ⟨g, off, none⟩) 0 0) xs) ∧ Queue w base (.slice (some ⟨g, off + 1, none⟩) xs.length (cap - 1)) xs := by
 obtain ⟨g', off', cap', e, hb, hlt, hle, hc, hs⟩ := h
 simp only [List.length_cons, Value.slice.injEq, Option.some.injEq, Addr.mk.injEq, and_true, true_and] at e
 obtain ⟨⟨rfl, rfl⟩, rfl⟩ := e
 simp only [List.length_cons] at hle
 refine ⟨by simpa using hc 0 x rfl, hle, fun h1 => ?_, g, off + 1, cap - 1, rfl, hb, hlt, by omega, fun j y hy => ?_, fun j hj => ?_⟩
 · subst h1
   have : xs = [] := List.eq_nil_of_length_eq_zero (by omega)
   subst this
   exact ⟨g, off, 0, rfl, hb, hlt, by simp, fun j y hy => by simp at hy, fun j hj => by omega⟩
 · have := hc (j + 1) y (by simpa using hy)
   rwa [show off + (j + 1) = off + 1 + j by omega] at this
 · have := hs (j + 1) (by omega)
   rwa [show off + (j + 1) = off + 1 + j by omega] at this
theorem qe6 (w : World) (b o : Nat) (v : Value) : w.grownBy (w.setCell ⟨b, o, none⟩ v) (some b) :=
 ⟨rfl, rfl, rfl, by simp [World.setCell], fun k _ hk => Below.heap_setCell w ⟨b, o, none⟩ v k (fun e => hk (by rw [e]))⟩
end Go.Proofs.YtldagpfeaabcdaaGreatDoor
namespace Go.Proofs.YtldagpfeaabcdaaGreatDoor
open Go.RowKit
set_option linter.unusedVariables false
set_option maxHeartbeats 1000000
end Go.Proofs.YtldagpfeaabcdaaGreatDoor
