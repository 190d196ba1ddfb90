/-
  Put together out of: RangeFootV, FillIn.
-/
import Derived.Test.YtebadimjpbhagaaRangeFootH
import Derived.Test.YtebadimjpbhagaaRangeFoot
import Derived.Laws.CopyOwn
/-
  As RangeFootH, where what is handed over is laid into a block of its own, round by round.
-/
namespace Go.Proofs.Ytebadimjpbhagaa
open Go.RowKit

section
variable {F : Fence} {n : Nat} {P : Program}

set_option maxHeartbeats 1000000 in
/-- The loop: the foot at its beginning is f0; the loop's own two blocks are added to it. -/
theorem wpIn_rangeFunc_footV {α : Type} {g : Operand} {ps : Array Tmp} {assign body : Code} {Q : Exit → Act → World → Prop} {a : Act} {w : World}
    (hro : F.round = none) (h1 : 1 ≤ n) {gf : Nat} {lb : Array Value} (hg : a.eval g = .func (.func gf) #[] lb) (hFg : F.fn gf) (eg : ∀ args w, (callFunc gf args).run P w = .ok (.enter gf args) w)
    {encs : α → Array Value} {G : α → (Nat → Prop) → World → Prop} {Pf : (Nat → Prop) → Prop} {S Sp : List α → Prop} {N : Nat} {w0 : World} (hseq : SeqFootH F (n - 1) P gf lb encs G Pf S Sp N w0) (hb0 : Below w0.heap.size w0 w) (hps : ∀ x, (encs x).size = ps.size)
    (hG : ∀ (x : α) (f : Nat → Prop) (W : World) (l : Nat) (o o' : Obj), G x f W → W.heap[l]? = some o → o.isCells = false → G x f (W.putObj l o')) (f0 : Nat → Prop) (hf0 : ∀ r, f0 r → r < w.heap.size) (hPf : Pf (fun r => f0 r ∨ r = w.heap.size ∨ r = w.heap.size + 1))
    (I : List α → (Nat → Prop) → World → Prop) (Ix : Code → List α → (Nat → Prop) → World → Prop) (hI : FootOwnA w.heap.size I) (hIx : ∀ c, FootPut w.heap.size (Ix c))
    (h0 : I [] (fun r => f0 r ∨ r = w.heap.size ∨ r = w.heap.size + 1) w) (a₁ : α → Nat → Act) (ob : α → Obj) (hGa : ∀ (x : α) (f : Nat → Prop) (W : World), G x f W → G x f (W.alloc (ob x)))
    (hassign : ∀ (l : Nat) (x : α) (W : World) (K : Act → World → Prop), (∃ f, G x f W) → K (a₁ x W.heap.size) (W.alloc (ob x)) →
      assign.wpIn (F.inRound l) (n - 1 - 1) P (Exit.then K (fun _ _ _ => False)) { tmps := (ps.zip (encs x)).foldl (fun t (p, v) => t.setIfInBounds p v) a.tmps, defers := [] } W)
    (hbody : ∀ (l : Nat) (pre : List α) (x : α) (f : Nat → Prop) (W : World) (Vb : Nat), I pre f W → G x f W → (∀ r, f r → r < W.heap.size) → f w.heap.size → pre.length < N → W.heap[Vb]? = some (ob x) → ¬ f Vb → body.wpIn (F.inRound l) (n - 1 - 1) P (footPost I Ix (pre ++ [x]) f W) (a₁ x Vb) W)
    (hdone : ∀ (D : Nat) (xs : List α) (f : Nat → Prop) (W : World), w.heap.size ≤ D → S xs → I xs f W → W.heap[D]? = some (.deferred (some [])) → Q .normal { a with defers := { target := .collected D, args := #[] } :: a.defers } W)
    (hstop : ∀ (D : Nat) (c : Code) (pre : List α) (f : Nat → Prop) (W : World), w.heap.size ≤ D → Sp pre → Ix c pre f W → W.heap[D]? = some (.deferred (some [])) → c.wpIn F n P Q { a with defers := { target := .collected D, args := #[] } :: a.defers } W) :
    (Code.rangeFunc g ps assign body).wpIn F n P Q a w := by
  refine wpIn_rangeFunc ?_
  intro fn hfn
  rw [hro]
  obtain ⟨rec, hrec⟩ : ∃ rec : LoopState → Option Code → Loop, rec = fun st pe => { state := st, pending := pe, fn, tmps := a.tmps, params := ps, assign, body, defers := w.heap.size } := ⟨_, rfl⟩
  obtain ⟨W1, hW1⟩ : ∃ W1, (w.alloc (.deferred (some []))).alloc (.loop (rec .ready none)) = W1 := ⟨_, rfl⟩
  have hs1 : W1.heap.size = w.heap.size + 1 + 1 := by rw [← hW1]; simp
  have hL1 : W1.heap[w.heap.size + 1]? = some (.loop (rec .ready none)) := by
    have := World.alloc_heap_new (w.alloc (.deferred (some []))) (.loop (rec .ready none))
    rw [World.size_alloc] at this
    rw [← hW1]; exact this
  have hK1 : W1.heap[w.heap.size]? = some (.deferred (some [])) := by
    rw [← hW1]; exact (Below.heap_alloc _ _ _ (by simp)).trans (World.alloc_heap_new w _)
  have hI1 : I [] (fun r => f0 r ∨ r = w.heap.size ∨ r = w.heap.size + 1) W1 := by rw [← hW1]; exact hI.alloc _ (hI.alloc _ h0)
  have hb1 : Below w0.heap.size w0 W1 := by
    rw [← hW1]; exact hb0.trans ((((Below.refl _ w).alloc (Nat.le_refl _) _).alloc (by simp) _).mono hb0.size)
  refine ⟨w.heap.size + 1, [{ target := .collected w.heap.size, args := #[] }], W1, { target := .fn (.func gf) lb, args := #[.func (.yield (w.heap.size + 1)) #[] #[]] }, W1, gf,
    #[.func (.yield (w.heap.size + 1)) #[] #[]] ++ lb, W1, ?_, ?_, ?_, ?_, fun _ => h1, ?_⟩
  · rw [← hW1, hrec]; exact run_enterLoop_outer _ _ _ _ _
  · simp only [resolve, hg]
    simp [go_sem]
  · intro f' hf'; simp [Target.leads] at hf'; subst hf'; exact hFg
  · simp [invoke, go_sem, eg]
  -- the iterator's contract, at the caller's invariant and the loop's own two blocks
  have ab : ∀ (st : LoopState) (pe : Option Code) (I' : List α → (Nat → Prop) → World → Prop), FootOwnA w.heap.size I' → FootAbidesA W1.heap.size (fun pre f W => I' pre f W ∧ f w.heap.size ∧ f (w.heap.size + 1) ∧ (∀ r, f r → r < W.heap.size) ∧
      W.heap[w.heap.size + 1]? = some (.loop (rec st pe)) ∧ W.heap[w.heap.size]? = some (.deferred (some []))) := by
    rintro st pe I' hI' s f A B AA ⟨hi, hfD, hfL, hlt, hl, hk⟩ hgr hr
    refine ⟨hI' s f A B AA hi hgr (fun r e => ⟨by have := (hr r e).1; omega, .inl (hr r e).2⟩), hfD, hfL, fun r hf => Nat.lt_of_lt_of_le (hlt r hf) hgr.size, ?_, ?_⟩
    · exact (hgr.block _ (hlt _ hfL) (fun e => (hr _ e).2 hfL)).trans hl
    · exact (hgr.block _ (hlt _ hfD) (fun e => (hr _ e).2 hfD)).trans hk
  refine (hseq (w.heap.size + 1)
    (fun pre f W => I pre f W ∧ f w.heap.size ∧ f (w.heap.size + 1) ∧ (∀ r, f r → r < W.heap.size) ∧ W.heap[w.heap.size + 1]? = some (.loop (rec .ready none)) ∧ W.heap[w.heap.size]? = some (.deferred (some [])))
    (fun pre f W => ∃ c, Ix c pre f W ∧ f w.heap.size ∧ f (w.heap.size + 1) ∧ (∀ r, f r → r < W.heap.size) ∧ W.heap[w.heap.size + 1]? = some (.loop (rec .done (some c))) ∧ W.heap[w.heap.size]? = some (.deferred (some [])))
    W1 (fun r => f0 r ∨ r = w.heap.size ∨ r = w.heap.size + 1) hb1 (ab _ _ I hI)
    hPf (fun r hf => by rcases hf with h | h | h; · have := hf0 r h; omega
                        · omega
                        · omega)
    ?_ ⟨hI1, .inr (.inl rfl), .inr (.inr rfl), (fun r hf => by rcases hf with h | h | h; · have := hf0 r h; omega
                                                               · omega
                                                               · omega), hL1, hK1⟩).mono ?_
  · -- one round
    rintro pre x f W ⟨hi, hfD, hfL, hlt, hl, hk⟩ hgx hlen
    have hltL := hlt _ hfL
    have hy := run_yield (P := P) (args := encs x) hl (by rw [hrec]; exact hps x)
    rw [hrec] at hy
    obtain ⟨WA, hWA⟩ : ∃ WA, W.alloc (ob x) = WA := ⟨_, rfl⟩
    have hlA : WA.heap[w.heap.size + 1]? = some (.loop (rec .ready none)) := by rw [← hWA]; exact (Below.heap_alloc _ _ _ hltL).trans hl
    have hkA : WA.heap[w.heap.size]? = some (.deferred (some [])) := by rw [← hWA]; exact (Below.heap_alloc _ _ _ (hlt _ hfD)).trans hk
    have hiA : I pre f WA := by rw [← hWA]; exact hI.alloc _ hi
    have hgA : G x f WA := by rw [← hWA]; exact hGa x f W hgx
    have hvA : WA.heap[W.heap.size]? = some (ob x) := by rw [← hWA]; exact World.alloc_heap_new W _
    have hOA : Outside f W f WA := by rw [← hWA]; exact Outside.grown (World.grownBy_alloc W (ob x) none) hlt (fun r e => by cases e)
    have hnv : ¬ f W.heap.size := fun hf => by have := hlt _ hf; omega
    have hltA : w.heap.size + 1 < WA.heap.size := Nat.lt_of_lt_of_le hltL hOA.size
    refine ⟨fn, _, assign, body, hy, roundIn_of_wpIn hfn (hassign _ x W _ ⟨f, hgx⟩ ?_)⟩
    rw [hWA]
    refine ⟨_, run_beginRound hlA (by rw [hrec]), ?_⟩
    obtain ⟨WB, hWB⟩ : ∃ WB, WA.putObj (w.heap.size + 1) (.loop { rec .ready none with state := .busy }) = WB := ⟨_, rfl⟩
    have hl2 : WB.heap[w.heap.size + 1]? = some (.loop { rec .ready none with state := .busy }) := by rw [← hWB]; exact World.putObj_heap_same hltA
    have hk2 : WB.heap[w.heap.size]? = some (.deferred (some [])) := by rw [← hWB]; exact (World.putObj_heap_other (by omega)).trans hkA
    have hO2 : Outside f W f WB := by rw [← hWB]; exact hOA.trans (outside_put _ hOA.lt hfL)
    have hi2 : I pre f WB := by rw [← hWB]; exact hI.put _ hiA (by omega) hlA rfl
    have hg2 : G x f WB := by rw [← hWB]; exact hG x f WA _ _ _ hgA hlA rfl
    have hv2 : WB.heap[W.heap.size]? = some (ob x) := by rw [← hWB]; exact (World.putObj_heap_other (by omega)).trans hvA
    rw [hWB]
    refine wpIn_mono (hbody _ pre x f WB W.heap.size hi2 hg2 hO2.lt hfD hlen hv2 hnv) ?_
    have fin : ∀ (jump : Option Code) (f' : Nat → Prop) (W3 : World), KeepsOthers WB W3 → Outside f WB f' W3 →
        ∃ W4, (Instr.endRound (w.heap.size + 1) jump).run P W3 = .ok (.bool jump.isNone) W4 ∧ W4 = W3.putObj (w.heap.size + 1) (.loop (rec (if jump.isNone then .ready else .done) jump)) ∧
        (∃ o : Obj, W3.heap[w.heap.size + 1]? = some o ∧ o.isCells = false) ∧ f' w.heap.size ∧ f' (w.heap.size + 1) ∧ Outside f W f' W4 ∧
        W4.heap[w.heap.size + 1]? = some (.loop (rec (if jump.isNone then .ready else .done) jump)) ∧ W4.heap[w.heap.size]? = some (.deferred (some [])) := fun jump f' W3 hk3 ho3 => by
      have hl3 := hk3.same _ _ hl2 rfl
      have hrun := run_endRound (P := P) jump hl3
      rw [hrec] at hrun hl3
      refine ⟨W3.putObj (w.heap.size + 1) (.loop (rec (if jump.isNone then .ready else .done) jump)), by rw [hrec]; exact hrun, rfl, ⟨_, hl3, rfl⟩, ho3.more _ hfD, ho3.more _ hfL, hO2.trans (ho3.trans (outside_put _ ho3.lt (ho3.more _ hfL))), ?_, ?_⟩
      · rw [hrec]; exact World.putObj_heap_same (Array.getElem?_eq_some_iff.1 hl3).1
      · exact (World.putObj_heap_other (by omega)).trans (hk3.same _ _ hk2 rfl)
    rintro e a3 W3 hp
    cases e with
    | normal =>
      obtain ⟨hk3, f', ho3, hi3⟩ := hp
      obtain ⟨W4, hr, rfl, ⟨o, hl3, hoc⟩, hD', hL', hO4, hl4, hk4⟩ := fin none f' W3 hk3 ho3
      exact ⟨_, _, hr, .inl ⟨rfl, f', hO4, hI.put _ hi3 (by omega) hl3 hoc, hD', hL', hO4.lt, hl4, hk4⟩⟩
    | ret =>
      obtain ⟨hk3, f', ho3, hi3⟩ := hp
      obtain ⟨W4, hr, rfl, ⟨o, hl3, hoc⟩, hD', hL', hO4, hl4, hk4⟩ := fin (some .ret) f' W3 hk3 ho3
      exact ⟨_, _, hr, .inr ⟨rfl, f', hO4, .ret, hIx _ _ _ _ _ _ _ (by omega) hi3 hl3 hoc, hD', hL', hO4.lt, hl4, hk4⟩⟩
    | exit id =>
      obtain ⟨hk3, f', ho3, hi3⟩ := hp
      obtain ⟨W4, hr, rfl, ⟨o, hl3, hoc⟩, hD', hL', hO4, hl4, hk4⟩ := fin (some (.exit id)) f' W3 hk3 ho3
      exact ⟨_, _, hr, .inr ⟨rfl, f', hO4, .exit id, hIx _ _ _ _ _ _ _ (by omega) hi3 hl3 hoc, hD', hL', hO4.lt, hl4, hk4⟩⟩
    | goto t =>
      obtain ⟨hk3, f', ho3, hi3⟩ := hp
      obtain ⟨W4, hr, rfl, ⟨o, hl3, hoc⟩, hD', hL', hO4, hl4, hk4⟩ := fin (some (.goto t)) f' W3 hk3 ho3
      exact ⟨_, _, hr, .inr ⟨rfl, f', hO4, .goto t, hIx _ _ _ _ _ _ _ (by omega) hi3 hl3 hoc, hD', hL', hO4.lt, hl4, hk4⟩⟩
    | panic ch => exact hp.elim
    | outgrown => exact hp.elim
  · -- behind the iterator
    rintro e W2 ⟨⟨v, rfl⟩, (⟨xs, f', hS, hi, hfD, hfL, hlt, hl, hk⟩ | ⟨pre, f', hSp, c, hi, hfD, hfL, hlt, hl, hk⟩)⟩
    · exact ⟨none, _, by have := run_endLoop (P := P) hl (by rw [hrec]; simp); rw [hrec] at this; exact this, hdone _ xs f' _ (Nat.le_refl _) hS (hI.put _ hi (by omega) hl rfl) ((World.putObj_heap_other (by omega)).trans hk)⟩
    · exact ⟨some c, _, by have := run_endLoop (P := P) hl (by rw [hrec]; simp); rw [hrec] at this; exact this, hstop _ c pre f' _ (Nat.le_refl _) hSp (hIx c _ _ _ _ _ _ (by omega) hi hl rfl) ((World.putObj_heap_other (by omega)).trans hk)⟩

end
end Go.Proofs.Ytebadimjpbhagaa

/-
  make and copy inside a fence.
-/
namespace Go.Proofs.Ytebadimjpbhagaa
open Go.RowKit

theorem wpListIn_make_full {F : Fence} {nn : Nat} {P : Program} (w : World) {ops : Array Oper} {rest : List Oper} {o : Oper} {a : Act} {Q : Exit → Act → World → Prop}
    (hg : o.guard = none) (l c : Operand) (t : TypeId) (hop : o.op = Op.makeSlice t l c)
    (base : Nat) (e : TypeId) (i : TypeInfo) (z : Value) (size : Nat) (h1 : P.underlying t = some (.slice e)) (h2 : P.info? e = some i) (h3 : i.zero = some z) (h4 : i.size = size)
    (kl kc : IntKind) (L C : Int) (n : Nat) (hl : a.eval l = .int kl L) (hc : a.eval c = .int kc C) (hL : L = (n : Int)) (hC : C = (n : Int)) (b2 : i.bytes * n ≤ 281474976710656) (b3 : n ≤ maxLen) (b4 : base ≤ w.heap.size)
    (hK : ∀ w', w'.ownsRow base e size (.slice (some ⟨w.heap.size, 0, none⟩) n n) n (madeCells z.cells (n * size)).toList → w.grownBy w' none → wpListIn F nn P ops Q rest (a.put o.dst (.slice (some ⟨w.heap.size, 0, none⟩) n n)) w') :
    wpListIn F nn P ops Q (o :: rest) a w := by
  refine wpListIn_plain hg fun K hK' => ?_
  obtain ⟨w', hrun, r1, r2⟩ := run_make_full (P := P) w base t e i z size h1 h2 h3 h4 kl kc n b2 b3 b4
  subst hL
  subst hC
  unfold Oper.wpIn
  refine ⟨?_, ?_⟩
  · simp [Oper.about, hop]
  · rw [Oper.semAt_plain F _ _ (by rw [hop]; intro c hc'; cases hc')]
    simp [execOp, hop, hl, hc, hrun, Result.andThen]
    exact hK' _ _ (hK w' r1 r2)

theorem wpListIn_copy_own {F : Fence} {nn : Nat} {P : Program} {w : World} {ops : Array Oper} {rest : List Oper} {o : Oper} {a : Act} {Q : Exit → Act → World → Prop} (hgd : o.guard = none) (d s : Operand) (dT sT : TypeId)
    (ho : o.op = .call { callee := .builtin .copy, args := #[d, s], argTypes := #[dT, sT] }) (elem : TypeId) (hu : P.underlying dT = some (.slice elem)) (hsz : (P.info? elem).map (·.size) = some 1)
    (g off dLen dCap : Nat) (ad : Addr) (sLen sCap : Nat) (hd : a.eval d = .slice (some ⟨g, off, none⟩) dLen dCap) (hs : a.eval s = .slice (some ad) sLen sCap)
    (cur : Array Value) (t : TypeId) (hg : w.heap[g]? = some (.cells cur t (0, 0))) (cs : List Value) (hn : cs.length = Nat.min sLen dLen)
    (hsrc : ∀ j v, cs[j]? = some v → w.cell? (ad.add j) = some v) (hfit : off + cs.length ≤ cur.size) (h1 : ∀ v ∈ cs, v.oneCell' = true)
    (h : wpListIn F nn P ops Q rest (a.put o.dst (goInt cs.length)) (w.setRow g (cur.toList.take off ++ (cs ++ cur.toList.drop (off + cs.length))).toArray)) : wpListIn F nn P ops Q (o :: rest) a w := by
  refine wpListIn_plain hgd fun K hK => ?_
  have hrun := run_copy_row (P := P) w dT sT o.type elem g off dLen dCap ad sLen sCap cur t cs hu hsz hg hn hsrc hfit h1
  unfold Oper.wpIn
  refine ⟨?_, ?_⟩
  · simp [Oper.about, ho, resolve, Target.leads, Sem.run_pure]
  · rw [Oper.semAt_plain F _ _ (by rw [ho]; intro c hc'; cases hc')]
    simp [execOp, ho, resolve, invoke, builtin, hd, hs, hrun, Result.andThen]
    exact hK _ _ h

end Go.Proofs.Ytebadimjpbhagaa
