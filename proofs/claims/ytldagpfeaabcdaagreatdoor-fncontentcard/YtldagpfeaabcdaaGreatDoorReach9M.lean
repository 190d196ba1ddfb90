/-
 Mathematics: who comes to whom by calls (no dump is spoken of).
-/
import Derived.Test.YtldagpfeaabcdaaGreatDoorG36SpecReached
namespace Go.Proofs.YtldagpfeaabcdaaGreatDoor
set_option linter.unusedVariables false
def ck (C : Nat → List Int) (p : Nat) : Nat → Nat → Prop
 | 0, i => i = p
 | k + 1, i => ∃ j : Nat, ck C p k j ∧ (i : Int) ∈ C j
def CR (C : Nat → List Int) (p i : Nat) : Prop := ∃ k, ck C p k i
theorem CR.refl (C : Nat → List Int) (p : Nat) : CR C p p := ⟨0, rfl⟩
theorem CR.step {C : Nat → List Int} {p i j : Nat} (h : CR C p i) (hj : (j : Int) ∈ C i) : CR C p j := by
 obtain ⟨k, hk⟩ := h
 exact ⟨k + 1, i, hk, hj⟩
theorem CR.trans {C : Nat → List Int} {p q i : Nat} (h : CR C p q) (h' : CR C q i) : CR C p i := by
 obtain ⟨k, hk⟩ := h'
 induction k generalizing i with
 | zero => rw [show i = q from hk]; exact h
 | succ k ih =>
  obtain ⟨j, hj, hm⟩ := hk
  exact (ih hj).step hm
theorem CR.closed {C : Nat → List Int} {p : Nat} {S : Nat → Prop} (hp : S p) (hc : ∀ x, S x → ∀ y : Nat, (y : Int) ∈ C x → S y) {i : Nat} (h : CR C p i) : S i := by
 obtain ⟨k, hk⟩ := h
 induction k generalizing i with
 | zero => rw [show i = p from hk]; exact hp
 | succ k ih =>
  obtain ⟨j, hj, hm⟩ := hk
  exact hc j (ih hj) i hm
def jr7 (C : Nat → List Int) (p : Nat) (A : List Int) : Prop := A.Pairwise (· < ·) ∧ ∀ x, x ∈ A ↔ ∃ i : Nat, x = (i : Int) ∧ CR C p i
theorem qe7 {C : Nat → List Int} {p : Nat} {A B : List Int} (ha : jr7 C p A) (hb : jr7 C p B) : A = B :=
 qh0 A B ha.1 hb.1 (fun x => (ha.2 x).trans (hb.2 x).symm)
structure Graph (C : Nat → List Int) (n : Nat) : Prop where
 four : n ≤ 4
 inn : ∀ j, j < n → ∀ x ∈ C j, ∃ i : Nat, x = (i : Int) ∧ i < n
 len : ∀ j, (C j).length ≤ 4
theorem CR.inn {C : Nat → List Int} {n p i : Nat} (hg : Graph C n) (hp : p < n) (h : CR C p i) : i < n :=
 CR.closed (S := fun x => x < n) hp (fun x hx y hy => by obtain ⟨i, e, hi⟩ := hg.inn x hx _ hy; omega) h
def jq4 (ps : List (List Stm)) (j : Nat) : List Int := if ja5 ps then nums [jd2 (ps.getD j []) 0, jd2 (ps.getD j []) 1, jd2 (ps.getD j []) 2, jd2 (ps.getD j []) 3] 0 else []
theorem qb0 {ps : List (List Stm)} (hok : ja5 ps = true) {j : Nat} (h : j < ps.length) : jq4 ps j = ju7 ps[j] := by
 obtain ⟨_, _, hpr⟩ := jc1 hok
 have hm := hpr ps[j] (List.getElem_mem h)
 unfold jq4
 rw [if_pos hok, qh2 ps[j] (fun s hs => ji1 hm.1 hs)]
 simp [List.getD, h]
theorem qe9 {ps : List (List Stm)} (hok : ja5 ps = true) {j : Nat} (h : j < ps.length) : jx1 ps (j : Int) = jq4 ps j := by
 have hb : hasB ps (j : Int) = true := by unfold hasB wiB; rw [hok]; simp; omega
 unfold jx1
 rw [if_pos hb, qb0 hok h]
 simp [List.getD, h]
theorem jw7 {ps : List (List Stm)} (hok : ja5 ps = true) : Graph (jq4 ps) ps.length := by
 obtain ⟨h4, _, hpr⟩ := jc1 hok
 refine ⟨h4, fun j hj x hx => ?_, fun j => ?_⟩
 · rw [qb0 hok hj] at hx
   have h1 : jd2 ps[j] x = true := by
    rw [← qc0]
    exact List.any_eq_true.2 ⟨x, hx, by simp⟩
   have hm := hpr ps[j] (List.getElem_mem hj)
   obtain ⟨s, hs, hk⟩ := List.any_eq_true.1 h1
   simp only [Bool.and_eq_true, decide_eq_true_eq] at hk
   have h2 := List.all_eq_true.1 hm.2 s hs
   have h3 := ji1 hm.1 hs
   rw [hk.1] at h3
   obtain ⟨y0, y3⟩ := jm1 h3
   have h5 : s.y < ps.length := by
    unfold ji5 at h2
    simpa [hk.1] using h2
   exact ⟨s.y.toNat, by omega, by omega⟩
 · unfold jq4
   split
   · have := jv3 [jd2 (ps.getD j []) 0, jd2 (ps.getD j []) 1, jd2 (ps.getD j []) 2, jd2 (ps.getD j []) 3] 0
     simpa using this
   · rename_i h; exact absurd hok h
theorem isReach_some {C : Nat → List Int} {n p : Nat} (hg : Graph C n) (hp : p < n) : ∃ A, jr7 C p A := by
 classical
 refine ⟨((List.range n).filter (fun i => decide (CR C p i))).map (fun i : Nat => (i : Int)), ?_, fun x => ?_⟩
 · rw [List.pairwise_map]
   exact (List.pairwise_lt_range.sublist List.filter_sublist).imp (fun h => by omega)
 · simp only [List.mem_map, List.mem_filter, List.mem_range, decide_eq_true_eq]
   constructor
   · rintro ⟨i, ⟨_, h⟩, rfl⟩; exact ⟨i, rfl, h⟩
   · rintro ⟨i, rfl, h⟩; exact ⟨i, ⟨h.inn hg hp, h⟩, rfl⟩
theorem isReach_len {C : Nat → List Int} {n p : Nat} (hg : Graph C n) (hp : p < n) {A : List Int} (h : jr7 C p A) : A.length ≤ 4 := by
 refine Nat.le_trans (jw5 A 0 n h.1 (fun x hx => ?_)) hg.four
 obtain ⟨i, rfl, hi⟩ := (h.2 x).1 hx
 have := hi.inn hg hp
 omega
structure CInv (C : Nat → List Int) (p n : Nat) (out todo : List Int) : Prop where
 sorted : out.Pairwise (· < ·)
 outR : ∀ x ∈ out, ∃ i : Nat, x = (i : Int) ∧ CR C p i
 todoR : ∀ x ∈ todo, ∃ i : Nat, x = (i : Int) ∧ i < n ∧ CR C p i
 zero : (p : Int) ∈ out ∨ (p : Int) ∈ todo
 closed : ∀ i : Nat, (i : Int) ∈ out → ∀ y ∈ C i, y ∈ out ∨ y ∈ todo
 len : todo.length ≤ 1 + 4 * out.length
theorem CInv.start {C : Nat → List Int} {n p : Nat} (hp : p < n) : CInv C p n [] [(p : Int)] where
 sorted := by simp
 outR := by simp
 todoR := fun x hx => by simp at hx; exact ⟨p, hx, hp, CR.refl C p⟩
 zero := by simp
 closed := by simp
 len := by simp
theorem CInv.skip {C : Nat → List Int} {n p : Nat} {out todo : List Int} {x : Int} (h : CInv C p n out (x :: todo)) (hx : x ∈ out) : CInv C p n out todo where
 sorted := h.sorted
 outR := h.outR
 todoR := fun y hy => h.todoR y (by simp [hy])
 zero := by
  rcases h.zero with h0 | h0
  · exact .inl h0
  · rcases List.mem_cons.1 h0 with e | e
    · exact .inl (e ▸ hx)
    · exact .inr e
 closed := fun i hi y hy => by
  rcases h.closed i hi y hy with h0 | h0
  · exact .inl h0
  · rcases List.mem_cons.1 h0 with e | e
    · exact .inl (e ▸ hx)
    · exact .inr e
 len := by have := h.len; simp at this; omega
theorem CInv.step {C : Nat → List Int} {n p : Nat} {out todo : List Int} {i : Nat} (hg : Graph C n) (h : CInv C p n out ((i : Int) :: todo)) (h2 : (i : Int) ∉ out) : CInv C p n (ins i out) (todo ++ C i) := by
 obtain ⟨i', e, hlt, hi⟩ := h.todoR i (by simp)
 obtain rfl : i = i' := by omega
 refine ⟨jy3 _ _ h.sorted, fun x hx => ?_, fun x hx => ?_, ?_, fun j hj y hy => ?_, ?_⟩
 · rcases (jl3 _ _ _).1 hx with rfl | hx
   · exact ⟨i, rfl, hi⟩
   · exact h.outR x hx
 · rcases List.mem_append.1 hx with hx | hx
   · exact h.todoR x (by simp [hx])
   · obtain ⟨j, rfl, hj⟩ := hg.inn i hlt x hx
     exact ⟨j, rfl, hj, hi.step hx⟩
 · rcases h.zero with h0 | h0
   · exact .inl ((jl3 _ _ _).2 (.inr h0))
   · rcases List.mem_cons.1 h0 with e | e
     · exact .inl ((jl3 _ _ _).2 (.inl e))
     · exact .inr (by simp [e])
 · rcases (jl3 _ _ _).1 hj with e | hj
   · obtain rfl : j = i := by omega
     exact .inr (by simp [hy])
   · rcases h.closed j hj y hy with h0 | h0
     · exact .inl ((jl3 _ _ _).2 (.inr h0))
     · rcases List.mem_cons.1 h0 with e | e
       · exact .inl ((jl3 _ _ _).2 (.inl e))
       · exact .inr (by simp [e])
 · have := h.len
   have h3 := hg.len i
   rw [jt5 _ _ h2, List.length_append]
   simp at this
   omega
theorem CInv.done {C : Nat → List Int} {n p : Nat} {out : List Int} (h : CInv C p n out []) : jr7 C p out := by
 refine ⟨h.sorted, fun x => ⟨h.outR x, ?_⟩⟩
 rintro ⟨i, rfl, hi⟩
 refine CR.closed (S := fun x => (x : Int) ∈ out) ?_ (fun x hx y hy => ?_) hi
 · rcases h.zero with h0 | h0
   · exact h0
   · simp at h0
 · rcases h.closed x hx y hy with h0 | h0
   · exact h0
   · simp at h0
structure DR (C : Nat → List Int) (p : Nat) (f f' : Nat → Bool) : Prop where
 mono : ∀ x, f x = true → f' x = true
 only : ∀ x, f' x = true → f x = true ∨ CR C p x
 closed : ∀ x, f' x = true → f x = true ∨ ∀ y : Nat, (y : Int) ∈ C x → f' y = true
def upd (f : Nat → Bool) (i : Nat) : Nat → Bool := fun x => if x = i then true else f x
def unr (f : Nat → Bool) : Nat := (if f 0 then 0 else 1) + (if f 1 then 0 else 1) + (if f 2 then 0 else 1) + (if f 3 then 0 else 1)
theorem unr_upd {f : Nat → Bool} {i : Nat} (hi : i < 4) (h : f i = false) : unr (upd f i) + 1 = unr f := by
 have : i = 0 ∨ i = 1 ∨ i = 2 ∨ i = 3 := by omega
 rcases this with rfl | rfl | rfl | rfl <;> simp [unr, upd, h] <;> omega
theorem unr_mono {f f' : Nat → Bool} (h : ∀ x, f x = true → f' x = true) : unr f' ≤ unr f := by
 have one : ∀ x, (if f' x then 0 else 1) ≤ (if f x then 0 else 1 : Nat) := fun x => by
  cases hx : f x with
  | true => rw [h x hx]; simp
  | false => cases f' x <;> simp
 have := one 0; have := one 1; have := one 2; have := one 3
 unfold unr
 omega
structure DM (C : Nat → List Int) (p k : Nat) (f g : Nat → Bool) : Prop where
 self : g p = true
 mono : ∀ x, f x = true → g x = true
 only : ∀ x, g x = true → f x = true ∨ CR C p x
 closed : ∀ x, g x = true → f x = true ∨ x = p ∨ ∀ y : Nat, (y : Int) ∈ C x → g y = true
 upto : ∀ (j y : Nat), j < k → (C p)[j]? = some (y : Int) → g y = true
theorem DM.start {C : Nat → List Int} {p : Nat} {f : Nat → Bool} : DM C p 0 f (upd f p) where
 self := by simp [upd]
 mono := fun x hx => by unfold upd; split <;> simp [hx]
 only := fun x hx => by
  unfold upd at hx
  split at hx
  · rename_i e; subst e; exact .inr (CR.refl C x)
  · exact .inl hx
 closed := fun x hx => by
  unfold upd at hx
  split at hx
  · rename_i e; exact .inr (.inl e)
  · exact .inl hx
 upto := fun j y hj => by omega
theorem DM.next {C : Nat → List Int} {p k y : Nat} {f g h : Nat → Bool} (hm : DM C p k f g) (hy : (C p)[k]? = some (y : Int)) (hr : DR C y g h) (hself : h y = true) : DM C p (k + 1) f h where
 self := hr.mono p hm.self
 mono := fun x hx => hr.mono x (hm.mono x hx)
 only := fun x hx => by
  rcases hr.only x hx with h1 | h1
  · exact hm.only x h1
  · exact .inr ((CR.refl C p).step (List.mem_of_getElem? hy) |>.trans h1)
 closed := fun x hx => by
  rcases hr.closed x hx with h1 | h1
  · rcases hm.closed x h1 with h2 | h2 | h2
    · exact .inl h2
    · exact .inr (.inl h2)
    · exact .inr (.inr (fun z hz => hr.mono z (h2 z hz)))
  · exact .inr (.inr h1)
 upto := fun j z hj hz => by
  by_cases e : j < k
  · exact hr.mono z (hm.upto j z e hz)
  · obtain rfl : j = k := by omega
    rw [hy] at hz
    have : y = z := by simp at hz; omega
    subst this
    exact hself
theorem DM.done {C : Nat → List Int} {p k : Nat} {f g : Nat → Bool} (hm : DM C p k f g) (hk : (C p).length ≤ k) : DR C p f g where
 mono := hm.mono
 only := hm.only
 closed := fun x hx => by
  rcases hm.closed x hx with h2 | h2 | h2
  · exact .inl h2
  · subst h2
    refine .inr (fun y hy => ?_)
    obtain ⟨j, hj⟩ := List.getElem?_of_mem hy
    have hl := (List.getElem?_eq_some_iff.1 hj).1
    exact hm.upto j y (by omega) hj
  · exact .inr h2
theorem DR.refl {C : Nat → List Int} {p : Nat} {f : Nat → Bool} : DR C p f f := ⟨fun _ h => h, fun _ h => .inl h, fun _ h => .inl h⟩
theorem DR.all {C : Nat → List Int} {n p : Nat} {f : Nat → Bool} (hg : Graph C n) (hp : p < n) (h : DR C p (fun _ => false) f) (hself : f p = true) : jr7 C p (nums [f 0, f 1, f 2, f 3] 0) := by
 have hR : ∀ i, f i = true ↔ CR C p i := fun i => by
  constructor
  · intro hi
    rcases h.only i hi with h1 | h1
    · cases h1
    · exact h1
  · intro hi
    refine CR.closed (S := fun x => f x = true) hself (fun x hx y hy => ?_) hi
    rcases h.closed x hx with h1 | h1
    · cases h1
    · exact h1 y hy
 have hlt : ∀ i, CR C p i → i < 4 := fun i hi => Nat.lt_of_lt_of_le (hi.inn hg hp) hg.four
 have mem : ∀ x, x ∈ nums [f 0, f 1, f 2, f 3] 0 ↔ ∃ i : Nat, i < 4 ∧ x = (i : Int) ∧ f i = true := by
  intro x
  have key : ∀ (b0 b1 b2 b3 : Bool), x ∈ nums [b0, b1, b2, b3] 0 ↔ (x = 0 ∧ b0 = true) ∨ (x = 1 ∧ b1 = true) ∨ (x = 2 ∧ b2 = true) ∨ (x = 3 ∧ b3 = true) := by
   intro b0 b1 b2 b3
   cases b0 <;> cases b1 <;> cases b2 <;> cases b3 <;> simp [nums]
  rw [key]
  constructor
  · rintro (⟨e, hb⟩ | ⟨e, hb⟩ | ⟨e, hb⟩ | ⟨e, hb⟩)
    · exact ⟨0, by omega, e, hb⟩
    · exact ⟨1, by omega, e, hb⟩
    · exact ⟨2, by omega, e, hb⟩
    · exact ⟨3, by omega, e, hb⟩
  · rintro ⟨i, hi, e, hb⟩
    have : i = 0 ∨ i = 1 ∨ i = 2 ∨ i = 3 := by omega
    rcases this with rfl | rfl | rfl | rfl
    · exact .inl ⟨e, hb⟩
    · exact .inr (.inl ⟨e, hb⟩)
    · exact .inr (.inr (.inl ⟨e, hb⟩))
    · exact .inr (.inr (.inr ⟨e, hb⟩))
 refine ⟨?_, fun x => ?_⟩
 · cases f 0 <;> cases f 1 <;> cases f 2 <;> cases f 3 <;> simp [nums]
 · rw [mem]
   constructor
   · rintro ⟨i, _, e, hb⟩
     exact ⟨i, e, (hR i).1 hb⟩
   · rintro ⟨i, e, hb⟩
     exact ⟨i, hlt i hb, e, (hR i).2 hb⟩
def ReachA (ps : List (List Stm)) (i : Int) (A : List Int) : Prop := (hasB ps i = true → jr7 (jq4 ps) i.toNat A) ∧ (hasB ps i = false → A = [])
theorem reachA_some (ps : List (List Stm)) (i : Int) : ∃ A, ReachA ps i A ∧ A.length ≤ 4 := by
 cases hb : hasB ps i with
 | false => exact ⟨[], ⟨by simp [hb], fun _ => rfl⟩, by simp⟩
 | true =>
  obtain ⟨hok, j, hj, rfl, _⟩ := jx4 hb
  obtain ⟨A, hA⟩ := isReach_some (jw7 hok) hj
  refine ⟨A, ⟨fun _ => hA, by simp [hb]⟩, isReach_len (jw7 hok) hj hA⟩
end Go.Proofs.YtldagpfeaabcdaaGreatDoor
