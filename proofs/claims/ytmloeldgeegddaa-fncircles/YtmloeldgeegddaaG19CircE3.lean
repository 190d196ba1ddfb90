/-
  Put together out of: CircM, CircE0, CircE1, CircE2, CircE3.
-/
import Derived.Test.YtmloeldgeegddaaTarjanM
/-
  Mathematics: who comes to whom, groups, their order, as functions of lists; what is asked of all graphs of up to four procedures.
-/
namespace Go.Proofs.Ytmloeldgeegddaa
set_option linter.unusedVariables false

def uni (s t : List Nat) : List Nat := t.foldl (fun a x => bif hasN a x then a else a ++ [x]) s
def stepR (C : Nat → List Nat) (s : List Nat) : List Nat := s.foldl (fun a x => uni a (C x)) s
def rch (C : Nat → List Nat) (i : Nat) : List Nat := stepR C (stepR C (stepR C [i]))
def closedB (C : Nat → List Nat) (s : List Nat) : Bool := s.all (fun x => (C x).all (fun y => hasN s y))

def grp (n : Nat) (r : Nat → Nat → Bool) (i : Nat) : List Nat := (List.range n).filter (fun k => r i k && r k i)
def stepS (n : Nat) (r : Nat → Nat → Bool) (out : List (List Nat)) (i : Nat) : List (List Nat) := bif Nat.beq (hd (grp n r i)) i then out ++ [grp n r i] else out
def circS (n : Nat) (r : Nat → Nat → Bool) : List (List Nat) := (List.range n).foldl (stepS n r) []

/-- The first that is so. -/
def fidx {α : Type} (p : α → Bool) : List α → Nat
  | [] => 0
  | x :: xs => bif p x then 0 else fidx p xs + 1

def noOther (r : Nat → Nat → Bool) (left : List (List Nat)) (g : List Nat) : Bool := !left.any (fun o => !Nat.beq (hd o) (hd g) && r (hd g) (hd o))

def ordI (r : Nat → Nat → Bool) : Nat → List (List Nat) → List (List Nat)
  | 0, _ => []
  | f + 1, left => bif Nat.blt (fidx (noOther r left) left) left.length then left.getD (fidx (noOther r left) left) [] :: ordI r f (left.eraseIdx (fidx (noOther r left) left)) else []

def ready (C : Nat → List Nat) (done : List Nat) (g : List Nat) : Bool := g.all (fun k => (C k).all (fun y => hasN g y || hasN done y))

def ordS (C : Nat → List Nat) : Nat → List (List Nat) → List Nat → List (List Nat)
  | 0, _, _ => []
  | f + 1, left, done => bif Nat.blt (fidx (ready C done) left) left.length then left.getD (fidx (ready C done) left) [] :: ordS C f (left.eraseIdx (fidx (ready C done) left)) (done ++ left.getD (fidx (ready C done) left) []) else []

def eqL : List Nat → List Nat → Bool
  | [], [] => true
  | a :: x, b :: y => Nat.beq a b && eqL x y
  | _, _ => false
def eqLL : List (List Nat) → List (List Nat) → Bool
  | [], [] => true
  | a :: x, b :: y => eqL a b && eqLL x y
  | _, _ => false

theorem eqL_eq : ∀ {a b : List Nat}, eqL a b = true → a = b
  | [], [], _ => rfl
  | [], _ :: _, h => by simp [eqL] at h
  | _ :: _, [], h => by simp [eqL] at h
  | a :: x, b :: y, h => by
    simp only [eqL, Bool.and_eq_true] at h
    rw [Nat.eq_of_beq_eq_true h.1, eqL_eq h.2]

theorem eqLL_eq : ∀ {a b : List (List Nat)}, eqLL a b = true → a = b
  | [], [], _ => rfl
  | [], _ :: _, h => by simp [eqLL] at h
  | _ :: _, [], h => by simp [eqLL] at h
  | a :: x, b :: y, h => by
    simp only [eqLL, Bool.and_eq_true] at h
    rw [eqL_eq h.1, eqLL_eq h.2]

def row4 {α : Type} (d : α) (r0 r1 r2 r3 : α) : Nat → α
  | 0 => r0
  | 1 => r1
  | 2 => r2
  | 3 => r3
  | _ => d

/-- Everybody once. -/
def onceB : List Nat → List Nat → Bool
  | [], _ => true
  | x :: xs, seen => !hasN seen x && onceB xs (seen ++ [x])

/-- Nobody calls one that is behind. -/
def behindB (C : Nat → List Nat) : List (List Nat) → List Nat → Bool
  | [], _ => true
  | g :: o, done => g.all (fun k => (C k).all (fun y => hasN (done ++ g) y)) && behindB C o (done ++ g)

structure Asked (n : Nat) (C : Nat → List Nat) (r : Nat → Nat → Bool) (c o : List (List Nat)) : Prop where
  circ : circI n C = c
  ordI : ordI r 4 c = o
  ordS : ordS C 4 c [] = o
  len : o.length = c.length
  all : c.all (fun g => g.all (fun x => g.all (fun y => r x y))) = true
  once : onceB c.flatten [] = true
  recu : c.all (fun g => Nat.ble g.length 1 || g.all (fun x => (C x).any (fun y => r y x))) = true
  behind : behindB C o [] = true
  cn : c.flatten.length = n
  on : o.flatten.length = n

def askB (n : Nat) (C : Nat → List Nat) (r : Nat → Nat → Bool) (c o : List (List Nat)) : Bool :=
  eqLL (circI n C) c && (eqLL (ordS C 4 c []) o && (eqLL (ordI r 4 c) o && (Nat.beq o.length c.length && (c.all (fun g => g.all (fun x => g.all (fun y => r x y))) && (onceB c.flatten [] && (c.all (fun g => Nat.ble g.length 1 || g.all (fun x => (C x).any (fun y => r y x))) && (behindB C o [] && (Nat.beq c.flatten.length n && Nat.beq o.flatten.length n))))))))

/-- A number, a list, a list of lists that is worked out first. -/
def forceN {β : Type} : Nat → (Nat → β) → β
  | 0, f => f 0
  | m + 1, f => f (m + 1)
def forceL {β : Type} : List Nat → (List Nat → β) → β
  | [], k => k []
  | x :: xs, k => forceN x (fun x' => forceL xs (fun xs' => k (x' :: xs')))
def forceLL {β : Type} : List (List Nat) → (List (List Nat) → β) → β
  | [], k => k []
  | x :: xs, k => forceL x (fun x' => forceLL xs (fun xs' => k (x' :: xs')))

theorem forceN_eq {β : Type} (x : Nat) (f : Nat → β) : forceN x f = f x := by cases x <;> rfl
theorem forceL_eq {β : Type} : ∀ (l : List Nat) (k : List Nat → β), forceL l k = k l
  | [], k => rfl
  | x :: l, k => by
    show forceN x (fun x' => forceL l (fun xs' => k (x' :: xs'))) = k (x :: l)
    rw [forceN_eq, forceL_eq l]
theorem forceLL_eq {β : Type} : ∀ (l : List (List Nat)) (k : List (List Nat) → β), forceLL l k = k l
  | [], k => rfl
  | x :: l, k => by
    show forceL x (fun x' => forceLL l (fun xs' => k (x' :: xs'))) = k (x :: l)
    rw [forceL_eq, forceLL_eq l]

def relR (R : Nat → List Nat) (i k : Nat) : Bool := hasN (R i) k

def chk (n : Nat) (C : Nat → List Nat) : Bool :=
  forceL (rch C 0) fun R0 => forceL (rch C 1) fun R1 => forceL (rch C 2) fun R2 => forceL (rch C 3) fun R3 =>
    (List.range n).all (fun i => closedB C (row4 [] R0 R1 R2 R3 i)) &&
      forceLL (circS n (relR (row4 [] R0 R1 R2 R3))) fun c => forceLL (ordI (relR (row4 [] R0 R1 R2 R3)) 4 c) fun o => askB n C (relR (row4 [] R0 R1 R2 R3)) c o

def subs : List Nat → List (List Nat)
  | [] => [[]]
  | x :: xs => subs xs ++ (subs xs).map (fun l => x :: l)

theorem subs_mem : ∀ {l xs : List Nat}, l.Sublist xs → l ∈ subs xs
  | _, _, .slnil => by simp [subs]
  | _, _, .cons a h => by simp only [subs, List.mem_append]; exact .inl (subs_mem h)
  | _, _, .cons_cons a h => by simp only [subs, List.mem_append, List.mem_map]; exact .inr ⟨_, subs_mem h, rfl⟩

def cand (n i : Nat) : List (List Nat) := bif Nat.blt i n then subs ((List.range n).filter (fun y => !Nat.beq y i)) else [[]]

def chkRow (n : Nat) (r0 : List Nat) : Bool := (cand n 1).all fun r1 => (cand n 2).all fun r2 => (cand n 3).all fun r3 => chk n (row4 [] r0 r1 r2 r3)

end Go.Proofs.Ytmloeldgeegddaa

/-
  All graphs of up to three procedures, and some of four, asked one by one by the kernel.
-/
namespace Go.Proofs.Ytmloeldgeegddaa
set_option maxRecDepth 100000

theorem chk1 : (cand 1 0).all (chkRow 1) = true := by decide +kernel
theorem chk2 : (cand 2 0).all (chkRow 2) = true := by decide +kernel
theorem chk3 : (cand 3 0).all (chkRow 3) = true := by decide +kernel
theorem chk40 : chkRow 4 [] = true := by decide +kernel

end Go.Proofs.Ytmloeldgeegddaa

/-
  Graphs of four procedures, asked one by one by the kernel.
-/
namespace Go.Proofs.Ytmloeldgeegddaa
set_option maxRecDepth 100000

theorem chk4r3 : chkRow 4 [3] = true := by decide +kernel
theorem chk4r2 : chkRow 4 [2] = true := by decide +kernel

end Go.Proofs.Ytmloeldgeegddaa

/-
  Graphs of four procedures, asked one by one by the kernel.
-/
namespace Go.Proofs.Ytmloeldgeegddaa
set_option maxRecDepth 100000

theorem chk4r23 : chkRow 4 [2, 3] = true := by decide +kernel
theorem chk4r1 : chkRow 4 [1] = true := by decide +kernel

end Go.Proofs.Ytmloeldgeegddaa

/-
  Graphs of four procedures, asked one by one by the kernel.
-/
namespace Go.Proofs.Ytmloeldgeegddaa
set_option maxRecDepth 100000

theorem chk4r13 : chkRow 4 [1, 3] = true := by decide +kernel
theorem chk4r12 : chkRow 4 [1, 2] = true := by decide +kernel
theorem chk4r123 : chkRow 4 [1, 2, 3] = true := by decide +kernel

end Go.Proofs.Ytmloeldgeegddaa
