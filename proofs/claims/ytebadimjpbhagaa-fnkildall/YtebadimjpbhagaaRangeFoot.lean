/-
  A loop over an iterator that keeps a state of its own in cells: the caller's cells are a set of blocks (its foot), which the iterator leaves alone; all others the body leaves alone.
-/
import Derived.Test.YtebadimjpbhagaaG00IntS
import Derived.RangeFuncNested
import Derived.RangeFuncLeaves
import Derived.RangeFuncFrom
import Derived.RangeFuncCalls
import Derived.RangeFuncBound
import Derived.Shelf.Abstract
import Derived.Shelf.RegionOpen
import Derived.OwnWalkIn
import Derived.TacticsInMore
import Derived.LoopNIn
import Derived.LoopIn
namespace Go.Proofs.Ytebadimjpbhagaa
open Go.RowKit

/-- From W to W' only blocks of the foot f have turned; what f' has more is new. -/
structure Outside (f : Nat → Prop) (W : World) (f' : Nat → Prop) (W' : World) : Prop where
  os : W'.os = W.os
  tape : W'.tape = W.tape
  output : W'.output = W.output
  size : W.heap.size ≤ W'.heap.size
  block : ∀ r, r < W.heap.size → ¬ f r → W'.heap[r]? = W.heap[r]?
  more : ∀ r, f r → f' r
  less : ∀ r, r < W.heap.size → f' r → f r
  lt : ∀ r, f' r → r < W'.heap.size

theorem Outside.trans {f g h : Nat → Prop} {A B C : World} (x : Outside f A g B) (y : Outside g B h C) : Outside f A h C :=
  ⟨y.os.trans x.os, y.tape.trans x.tape, y.output.trans x.output, Nat.le_trans x.size y.size, fun r hr hf => (y.block r (Nat.lt_of_lt_of_le hr x.size) (fun hg => hf (x.less r hr hg))).trans (x.block r hr hf),
    fun r hf => y.more r (x.more r hf), fun r hr hh => x.less r hr (y.less r (Nat.lt_of_lt_of_le hr x.size) hh), y.lt⟩

theorem Outside.refl {f : Nat → Prop} {A : World} (h : ∀ r, f r → r < A.heap.size) : Outside f A f A :=
  ⟨rfl, rfl, rfl, Nat.le_refl _, fun _ _ _ => rfl, fun _ h => h, fun _ _ h => h, h⟩

/-- One block of the foot turns, others are laid. -/
theorem Outside.grown {f : Nat → Prop} {A B : World} {row : Option Nat} (hg : A.grownBy B row) (h : ∀ r, f r → r < A.heap.size) (hr : ∀ r, row = some r → f r) : Outside f A f B :=
  ⟨hg.os, hg.tape, hg.output, hg.size, fun r hr' hf => hg.block r hr' (fun e => hf (hr r e.symm)), fun _ h => h, fun _ _ h => h, fun r hf => Nat.lt_of_lt_of_le (h r hf) hg.size⟩

/-- What the iterator's steps leave as it is. -/
def FootAbides {α : Type} (B : Nat) (J : List α → (Nat → Prop) → World → Prop) : Prop :=
  ∀ s f W W' row, J s f W → W.grownBy W' row → (∀ r, row = some r → B ≤ r ∧ ¬ f r) → J s f W'

/-- The contract of an iterator: whatever the caller's foot. -/
def SeqFoot {α : Type} (F : Fence) (n : Nat) (P : Program) (g : Nat) (lb : Array Value) (encs : α → Array Value) (Pf : (Nat → Prop) → Prop) (S Sp : List α → Prop) (N : Nat) (w : World) : Prop :=
  ∀ (l : Nat) (J Jx : List α → (Nat → Prop) → World → Prop) (W : World) (f : Nat → Prop), Below w.heap.size w W → FootAbides W.heap.size J → FootAbides W.heap.size Jx → Pf f → (∀ r, f r → r < W.heap.size) →
    (∀ pre x f W1, J pre f W1 → pre.length < N → YieldAt F (n - 1) P l (encs x) W1 fun e W' =>
      (e = .returned (.bool true) ∧ ∃ f', Outside f W1 f' W' ∧ J (pre ++ [x]) f' W') ∨ (e = .returned (.bool false) ∧ ∃ f', Outside f W1 f' W' ∧ Jx (pre ++ [x]) f' W')) →
    J [] f W →
    CallsIn F n P g (#[.func (.yield l) #[] #[]] ++ lb) W fun e W' => (∃ v, e = .returned v) ∧ ((∃ xs f', S xs ∧ J xs f' W') ∨ (∃ pre f', Sp pre ∧ Jx pre f' W'))

/-- How the body of a round may be left. -/
def footPost {α : Type} (I : List α → (Nat → Prop) → World → Prop) (Ix : Code → List α → (Nat → Prop) → World → Prop) (xs : List α) (f : Nat → Prop) (W : World) : Exit → Act → World → Prop
  | .normal, _, W' => KeepsOthers W W' ∧ ∃ f', Outside f W f' W' ∧ I xs f' W'
  | .ret, _, W' => KeepsOthers W W' ∧ ∃ f', Outside f W f' W' ∧ Ix .ret xs f' W'
  | .exit id, _, W' => KeepsOthers W W' ∧ ∃ f', Outside f W f' W' ∧ Ix (.exit id) xs f' W'
  | .goto t, _, W' => KeepsOthers W W' ∧ ∃ f', Outside f W f' W' ∧ Ix (.goto t) xs f' W'
  | .panic _, _, _ => False
  | .outgrown, _, _ => False

/-- The caller's invariant abides the turn of blocks beyond B that are none of its foot, or are no cells. -/
def FootOwn {α : Type} (B : Nat) (I : List α → (Nat → Prop) → World → Prop) : Prop :=
  ∀ s f W W' row, I s f W → W.grownBy W' row → (∀ r, row = some r → B ≤ r ∧ (¬ f r ∨ ∃ o : Obj, W.heap[r]? = some o ∧ o.isCells = false)) → I s f W'

theorem FootOwn.put {α : Type} {B : Nat} {I : List α → (Nat → Prop) → World → Prop} (h : FootOwn B I) {s : List α} {f : Nat → Prop} {W : World} {l : Nat} {o : Obj} (o' : Obj) (hs : I s f W) (hB : B ≤ l) (hl : W.heap[l]? = some o) (ho : o.isCells = false) : I s f (W.putObj l o') :=
  h s f W _ (some l) hs (grownBy_putObj' W l o') (fun r e => by cases e; exact ⟨hB, .inr ⟨o, hl, ho⟩⟩)

theorem FootOwn.alloc {α : Type} {B : Nat} {I : List α → (Nat → Prop) → World → Prop} (h : FootOwn B I) {s : List α} {f : Nat → Prop} {W : World} (o : Obj) (hs : I s f W) : I s f (W.alloc o) :=
  h s f W _ none hs (World.grownBy_alloc W o none) (fun r e => by cases e)

section
variable {F : Fence} {n : Nat} {P : Program}

theorem outside_put {f : Nat → Prop} {W : World} {l : Nat} (o' : Obj) (h : ∀ r, f r → r < W.heap.size) (hl : f l) : Outside f W f (W.putObj l o') :=
  Outside.grown (grownBy_putObj' W l o') h (fun r e => by cases e; exact hl)

set_option maxHeartbeats 1000000 in
/-- The loop: the foot at its beginning is f0; the loop's own two blocks are added to it. -/
theorem wpIn_rangeFunc_foot {α : Type} {g : Operand} {ps : Array Tmp} {assign body : Code} {Q : Exit → Act → World → Prop} {a : Act} {w : World}
    (hro : F.round = none) (h1 : 1 ≤ n) {gf : Nat} {lb : Array Value} (hg : a.eval g = .func (.func gf) #[] lb) (hFg : F.fn gf) (eg : ∀ args w, (callFunc gf args).run P w = .ok (.enter gf args) w)
    {encs : α → Array Value} {Pf : (Nat → Prop) → Prop} {S Sp : List α → Prop} {N : Nat} {w0 : World} (hseq : SeqFoot F (n - 1) P gf lb encs Pf S Sp N w0) (hb0 : Below w0.heap.size w0 w) (hps : ∀ x, (encs x).size = ps.size)
    (f0 : Nat → Prop) (hf0 : ∀ r, f0 r → r < w.heap.size) (hPf : Pf (fun r => f0 r ∨ r = w.heap.size ∨ r = w.heap.size + 1))
    (I : List α → (Nat → Prop) → World → Prop) (Ix : Code → List α → (Nat → Prop) → World → Prop) (hI : FootOwn w.heap.size I) (hIx : ∀ c, FootOwn w.heap.size (Ix c))
    (h0 : I [] (fun r => f0 r ∨ r = w.heap.size ∨ r = w.heap.size + 1) w) (a₁ : α → Act)
    (hassign : ∀ (l : Nat) (x : α) (W : World) (K : Act → World → Prop), K (a₁ x) W →
      assign.wpIn (F.inRound l) (n - 1 - 1) P (Exit.then K (fun _ _ _ => False)) { tmps := (ps.zip (encs x)).foldl (fun t (p, v) => t.setIfInBounds p v) a.tmps, defers := [] } W)
    (hbody : ∀ (l : Nat) (pre : List α) (x : α) (f : Nat → Prop) (W : World), I pre f W → (∀ r, f r → r < W.heap.size) → f w.heap.size → pre.length < N → body.wpIn (F.inRound l) (n - 1 - 1) P (footPost I Ix (pre ++ [x]) f W) (a₁ x) W)
    (hdone : ∀ (D : Nat) (xs : List α) (f : Nat → Prop) (W : World), w.heap.size ≤ D → S xs → I xs f W → W.heap[D]? = some (.deferred (some [])) → Q .normal { a with defers := { target := .collected D, args := #[] } :: a.defers } W)
    (hstop : ∀ (D : Nat) (c : Code) (pre : List α) (f : Nat → Prop) (W : World), w.heap.size ≤ D → Sp pre → Ix c pre f W → W.heap[D]? = some (.deferred (some [])) → c.wpIn F n P Q { a with defers := { target := .collected D, args := #[] } :: a.defers } W) :
    (Code.rangeFunc g ps assign body).wpIn F n P Q a w := by
  refine wpIn_rangeFunc ?_
  intro fn hfn
  rw [hro]
  obtain ⟨rec, hrec⟩ : ∃ rec : LoopState → Option Code → Loop, rec = fun st pe => { state := st, pending := pe, fn, tmps := a.tmps, params := ps, assign, body, defers := w.heap.size } := ⟨_, rfl⟩
  obtain ⟨W1, hW1⟩ : ∃ W1, (w.alloc (.deferred (some []))).alloc (.loop (rec .ready none)) = W1 := ⟨_, rfl⟩
  have hs1 : W1.heap.size = w.heap.size + 1 + 1 := by rw [← hW1]; simp
  have hL1 : W1.heap[w.heap.size + 1]? = some (.loop (rec .ready none)) := by
    have := World.alloc_heap_new (w.alloc (.deferred (some []))) (.loop (rec .ready none))
    rw [World.size_alloc] at this
    rw [← hW1]; exact this
  have hK1 : W1.heap[w.heap.size]? = some (.deferred (some [])) := by
    rw [← hW1]; exact (Below.heap_alloc _ _ _ (by simp)).trans (World.alloc_heap_new w _)
  have hI1 : I [] (fun r => f0 r ∨ r = w.heap.size ∨ r = w.heap.size + 1) W1 := by rw [← hW1]; exact hI.alloc _ (hI.alloc _ h0)
  have hb1 : Below w0.heap.size w0 W1 := by
    rw [← hW1]; exact hb0.trans ((((Below.refl _ w).alloc (Nat.le_refl _) _).alloc (by simp) _).mono hb0.size)
  refine ⟨w.heap.size + 1, [{ target := .collected w.heap.size, args := #[] }], W1, { target := .fn (.func gf) lb, args := #[.func (.yield (w.heap.size + 1)) #[] #[]] }, W1, gf,
    #[.func (.yield (w.heap.size + 1)) #[] #[]] ++ lb, W1, ?_, ?_, ?_, ?_, fun _ => h1, ?_⟩
  · rw [← hW1, hrec]; exact run_enterLoop_outer _ _ _ _ _
  · simp only [resolve, hg]
    simp [go_sem]
  · intro f' hf'; simp [Target.leads] at hf'; subst hf'; exact hFg
  · simp [invoke, go_sem, eg]
  -- the iterator's contract, at the caller's invariant and the loop's own two blocks
  have ab : ∀ (st : LoopState) (pe : Option Code) (I' : List α → (Nat → Prop) → World → Prop), FootOwn w.heap.size I' → FootAbides W1.heap.size (fun pre f W => I' pre f W ∧ f w.heap.size ∧ f (w.heap.size + 1) ∧ (∀ r, f r → r < W.heap.size) ∧
      W.heap[w.heap.size + 1]? = some (.loop (rec st pe)) ∧ W.heap[w.heap.size]? = some (.deferred (some []))) := by
    rintro st pe I' hI' s f A B row ⟨hi, hfD, hfL, hlt, hl, hk⟩ hgr hr
    refine ⟨hI' s f A B row hi hgr (fun r e => ⟨by have := (hr r e).1; omega, .inl (hr r e).2⟩), hfD, hfL, fun r hf => Nat.lt_of_lt_of_le (hlt r hf) hgr.size, ?_, ?_⟩
    · exact (hgr.block _ (hlt _ hfL) (fun e => (hr _ e.symm).2 hfL)).trans hl
    · exact (hgr.block _ (hlt _ hfD) (fun e => (hr _ e.symm).2 hfD)).trans hk
  refine (hseq (w.heap.size + 1)
    (fun pre f W => I pre f W ∧ f w.heap.size ∧ f (w.heap.size + 1) ∧ (∀ r, f r → r < W.heap.size) ∧ W.heap[w.heap.size + 1]? = some (.loop (rec .ready none)) ∧ W.heap[w.heap.size]? = some (.deferred (some [])))
    (fun pre f W => ∃ c, Ix c pre f W ∧ f w.heap.size ∧ f (w.heap.size + 1) ∧ (∀ r, f r → r < W.heap.size) ∧ W.heap[w.heap.size + 1]? = some (.loop (rec .done (some c))) ∧ W.heap[w.heap.size]? = some (.deferred (some [])))
    W1 (fun r => f0 r ∨ r = w.heap.size ∨ r = w.heap.size + 1) hb1 (ab _ _ I hI)
    (by
      rintro s f A B row ⟨c, hc⟩ hgr hr
      exact ⟨c, ab _ _ (Ix c) (hIx c) s f A B row hc hgr hr⟩)
    hPf (fun r hf => by rcases hf with h | h | h; · have := hf0 r h; omega
                        · omega
                        · omega)
    ?_ ⟨hI1, .inr (.inl rfl), .inr (.inr rfl), (fun r hf => by rcases hf with h | h | h; · have := hf0 r h; omega
                                                               · omega
                                                               · omega), hL1, hK1⟩).mono ?_
  · -- one round
    rintro pre x f W ⟨hi, hfD, hfL, hlt, hl, hk⟩ hlen
    have hltL := hlt _ hfL
    have hy := run_yield (P := P) (args := encs x) hl (by rw [hrec]; exact hps x)
    rw [hrec] at hy
    refine ⟨fn, _, assign, body, hy, roundIn_of_wpIn hfn (hassign _ x W _ ⟨_, run_beginRound hl (by rw [hrec]), ?_⟩)⟩
    obtain ⟨WB, hWB⟩ : ∃ WB, W.putObj (w.heap.size + 1) (.loop { rec .ready none with state := .busy }) = WB := ⟨_, rfl⟩
    have hl2 : WB.heap[w.heap.size + 1]? = some (.loop { rec .ready none with state := .busy }) := by rw [← hWB]; exact World.putObj_heap_same hltL
    have hk2 : WB.heap[w.heap.size]? = some (.deferred (some [])) := by rw [← hWB]; exact (World.putObj_heap_other (by omega)).trans hk
    have hO2 : Outside f W f WB := by rw [← hWB]; exact outside_put _ hlt hfL
    have hi2 : I pre f WB := by rw [← hWB]; exact hI.put _ hi (by omega) hl rfl
    rw [hWB]
    refine wpIn_mono (hbody _ pre x f WB hi2 hO2.lt hfD hlen) ?_
    have fin : ∀ (jump : Option Code) (f' : Nat → Prop) (W3 : World), KeepsOthers WB W3 → Outside f WB f' W3 →
        ∃ W4, (Instr.endRound (w.heap.size + 1) jump).run P W3 = .ok (.bool jump.isNone) W4 ∧ W4 = W3.putObj (w.heap.size + 1) (.loop (rec (if jump.isNone then .ready else .done) jump)) ∧
        (∃ o : Obj, W3.heap[w.heap.size + 1]? = some o ∧ o.isCells = false) ∧ f' w.heap.size ∧ f' (w.heap.size + 1) ∧ Outside f W f' W4 ∧
        W4.heap[w.heap.size + 1]? = some (.loop (rec (if jump.isNone then .ready else .done) jump)) ∧ W4.heap[w.heap.size]? = some (.deferred (some [])) := fun jump f' W3 hk3 ho3 => by
      have hl3 := hk3.same _ _ hl2 rfl
      have hrun := run_endRound (P := P) jump hl3
      rw [hrec] at hrun hl3
      refine ⟨W3.putObj (w.heap.size + 1) (.loop (rec (if jump.isNone then .ready else .done) jump)), by rw [hrec]; exact hrun, rfl, ⟨_, hl3, rfl⟩, ho3.more _ hfD, ho3.more _ hfL, hO2.trans (ho3.trans (outside_put _ ho3.lt (ho3.more _ hfL))), ?_, ?_⟩
      · rw [hrec]; exact World.putObj_heap_same (Array.getElem?_eq_some_iff.1 hl3).1
      · exact (World.putObj_heap_other (by omega)).trans (hk3.same _ _ hk2 rfl)
    rintro e a3 W3 hp
    cases e with
    | normal =>
      obtain ⟨hk3, f', ho3, hi3⟩ := hp
      obtain ⟨W4, hr, rfl, ⟨o, hl3, hoc⟩, hD', hL', hO4, hl4, hk4⟩ := fin none f' W3 hk3 ho3
      exact ⟨_, _, hr, .inl ⟨rfl, f', hO4, hI.put _ hi3 (by omega) hl3 hoc, hD', hL', hO4.lt, hl4, hk4⟩⟩
    | ret =>
      obtain ⟨hk3, f', ho3, hi3⟩ := hp
      obtain ⟨W4, hr, rfl, ⟨o, hl3, hoc⟩, hD', hL', hO4, hl4, hk4⟩ := fin (some .ret) f' W3 hk3 ho3
      exact ⟨_, _, hr, .inr ⟨rfl, f', hO4, .ret, (hIx _).put _ hi3 (by omega) hl3 hoc, hD', hL', hO4.lt, hl4, hk4⟩⟩
    | exit id =>
      obtain ⟨hk3, f', ho3, hi3⟩ := hp
      obtain ⟨W4, hr, rfl, ⟨o, hl3, hoc⟩, hD', hL', hO4, hl4, hk4⟩ := fin (some (.exit id)) f' W3 hk3 ho3
      exact ⟨_, _, hr, .inr ⟨rfl, f', hO4, .exit id, (hIx _).put _ hi3 (by omega) hl3 hoc, hD', hL', hO4.lt, hl4, hk4⟩⟩
    | goto t =>
      obtain ⟨hk3, f', ho3, hi3⟩ := hp
      obtain ⟨W4, hr, rfl, ⟨o, hl3, hoc⟩, hD', hL', hO4, hl4, hk4⟩ := fin (some (.goto t)) f' W3 hk3 ho3
      exact ⟨_, _, hr, .inr ⟨rfl, f', hO4, .goto t, (hIx _).put _ hi3 (by omega) hl3 hoc, hD', hL', hO4.lt, hl4, hk4⟩⟩
    | panic ch => exact hp.elim
    | outgrown => exact hp.elim
  · -- behind the iterator
    rintro e W2 ⟨⟨v, rfl⟩, (⟨xs, f', hS, hi, hfD, hfL, hlt, hl, hk⟩ | ⟨pre, f', hSp, c, hi, hfD, hfL, hlt, hl, hk⟩)⟩
    · exact ⟨none, _, by have := run_endLoop (P := P) hl (by rw [hrec]; simp); rw [hrec] at this; exact this, hdone _ xs f' _ (Nat.le_refl _) hS (hI.put _ hi (by omega) hl rfl) ((World.putObj_heap_other (by omega)).trans hk)⟩
    · exact ⟨some c, _, by have := run_endLoop (P := P) hl (by rw [hrec]; simp); rw [hrec] at this; exact this, hstop _ c pre f' _ (Nat.le_refl _) hSp ((hIx c).put _ hi (by omega) hl rfl) ((World.putObj_heap_other (by omega)).trans hk)⟩

end
end Go.Proofs.Ytebadimjpbhagaa
