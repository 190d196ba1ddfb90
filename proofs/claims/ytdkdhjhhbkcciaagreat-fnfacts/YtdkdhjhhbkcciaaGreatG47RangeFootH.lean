/-
 Put together out of: RangeFootG, RangeFootH.
-/
import Derived.Test.YtdkdhjhhbkcciaaGreatG46RangeFoot
namespace Go.Proofs.YtdkdhjhhbkcciaaGreat
open Go.RowKit
section
variable {F : Fence} {n : Nat} {P : Program}
end
end Go.Proofs.YtdkdhjhhbkcciaaGreat
namespace Go.Proofs.YtdkdhjhhbkcciaaGreat
open Go.RowKit
structure GrownA (W : World) (A : Nat → Prop) (W' : World) : Prop where
 os : W'.os = W.os
 tape : W'.tape = W.tape
 output : W'.output = W.output
 size : W.heap.size ≤ W'.heap.size
 block : ∀ r, r < W.heap.size → ¬ A r → W'.heap[r]? = W.heap[r]?
theorem GrownA.of {W W' : World} {row : Option Nat} (h : W.grownBy W' row) : GrownA W (fun r => row = some r) W' :=
 ⟨h.os, h.tape, h.output, h.size, fun r hr hn => h.block r hr (fun e => hn e.symm)⟩
theorem Below.grownA {base : Nat} {w W W' : World} {A : Nat → Prop} (h : Below base w W) (hg : GrownA W A W') (hb : base ≤ W.heap.size) (hA : ∀ r, A r → base ≤ r) : Below base w W' :=
 ⟨hg.os.trans h.os, hg.tape.trans h.tape, hg.output.trans h.output, Nat.le_trans h.size hg.size, fun k hk => (hg.block k (by omega) (fun e => by have := hA k e; omega)).trans (h.block k hk)⟩
def FootAbidesA {α : Type} (B : Nat) (J : List α → (Nat → Prop) → World → Prop) : Prop :=
 ∀ s f W W' A, J s f W → GrownA W A W' → (∀ r, A r → B ≤ r ∧ ¬ f r) → J s f W'
def FootOwnA {α : Type} (B : Nat) (I : List α → (Nat → Prop) → World → Prop) : Prop :=
 ∀ s f W W' A, I s f W → GrownA W A W' → (∀ r, A r → B ≤ r ∧ (¬ f r ∨ ∃ o : Obj, W.heap[r]? = some o ∧ o.isCells = false)) → I s f W'
theorem FootOwnA.put {α : Type} {B : Nat} {I : List α → (Nat → Prop) → World → Prop} (h : FootOwnA B I) {s : List α} {f : Nat → Prop} {W : World} {l : Nat} {o : Obj} (o' : Obj) (hs : I s f W) (hB : B ≤ l) (hl : W.heap[l]? = some o) (ho : o.isCells = false) : I s f (W.putObj l o') :=
 h s f W _ _ hs (GrownA.of (grownBy_putObj' W l o')) (fun r e => by cases e; exact ⟨hB, .inr ⟨o, hl, ho⟩⟩)
theorem FootOwnA.alloc {α : Type} {B : Nat} {I : List α → (Nat → Prop) → World → Prop} (h : FootOwnA B I) {s : List α} {f : Nat → Prop} {W : World} (o : Obj) (hs : I s f W) : I s f (W.alloc o) :=
 h s f W _ _ hs (GrownA.of (World.grownBy_alloc W o none)) (fun r e => by cases e)
def FootPut {α : Type} (B : Nat) (I : List α → (Nat → Prop) → World → Prop) : Prop :=
 ∀ s f W l o o', B ≤ l → I s f W → W.heap[l]? = some o → o.isCells = false → I s f (W.putObj l o')
def SeqFootH {α : Type} (F : Fence) (n : Nat) (P : Program) (g : Nat) (lb : Array Value) (encs : α → Array Value) (G : α → (Nat → Prop) → World → Prop) (Pf : (Nat → Prop) → Prop) (S Sp : List α → Prop) (N : Nat) (w : World) : Prop :=
 ∀ (l : Nat) (J Jx : List α → (Nat → Prop) → World → Prop) (W : World) (f : Nat → Prop), Below w.heap.size w W → FootAbidesA W.heap.size J → Pf f → (∀ r, f r → r < W.heap.size) →
  (∀ pre x f W1, J pre f W1 → G x f W1 → pre.length < N → YieldAt F (n - 1) P l (encs x) W1 fun e W' =>
   (e = .returned (.bool true) ∧ ∃ f', Outside f W1 f' W' ∧ J (pre ++ [x]) f' W') ∨ (e = .returned (.bool false) ∧ ∃ f', Outside f W1 f' W' ∧ Jx (pre ++ [x]) f' W')) →
  J [] f W →
  CallsIn F n P g (#[.func (.yield l) #[] #[]] ++ lb) W fun e W' => (∃ v, e = .returned v) ∧ ((∃ xs f', S xs ∧ J xs f' W') ∨ (∃ pre f', Sp pre ∧ Jx pre f' W'))
section
variable {F : Fence} {n : Nat} {P : Program}
end
end Go.Proofs.YtdkdhjhhbkcciaaGreat
