/-
 Put together out of: RegionInvIn, RangeFootV, FillIn.
-/
import Derived.Test.YtdkdhjhhbkcciaaGreatG03RelTop
import Derived.OrdersIn
import Derived.TacticsIn
import Derived.Test.YtdkdhjhhbkcciaaGreatG47RangeFootH
import Derived.Test.YtdkdhjhhbkcciaaGreatG46RangeFoot
import Derived.Laws.CopyOwn
namespace Go.Proofs.YtdkdhjhhbkcciaaGreat
open Go.RowKit
section
variable {F : Fence} {n : Nat} {P : Program} {ops : Array Oper} {Q : Exit → Act → World → Prop}
theorem wpIn_then {o : Oper} {a : Act} {w : World} {K : Act → World → Prop} (h : o.wpIn F n P a w K (Exit.then K Q)) : o.wpIn F n P a w K Q := by
 unfold Oper.wpIn at *
 refine ⟨h.1, ?_⟩
 have h := h.2
 generalize (o.semAt F.round a.eval).run P w = r at *
 cases r with
 | ok x w' =>
  cases x <;> simp only [Oper.uponIn] at h ⊢ <;>
   first
    | exact h
    | exact ⟨h.1, CallsIn.mono h.2 (fun e w'' he => by cases e <;> exact he)⟩
    | exact ⟨h.1, RoundIn.mono h.2 (fun e w'' he => by cases e <;> exact he)⟩
 | halt x w' => cases x <;> simp only [Oper.uponIn] at h ⊢ <;> exact h
theorem wpIn_then_mk {o : Oper} {a : Act} {w : World} {K : Act → World → Prop} (h : o.wpIn F n P a w K Q) : o.wpIn F n P a w K (Exit.then K Q) := by
 unfold Oper.wpIn at *
 refine ⟨h.1, ?_⟩
 have h := h.2
 generalize (o.semAt F.round a.eval).run P w = r at *
 cases r with
 | ok x w' =>
  cases x <;> simp only [Oper.uponIn] at h ⊢ <;>
   first
    | exact h
    | exact ⟨h.1, CallsIn.mono h.2 (fun e w'' he => by cases e <;> exact he)⟩
    | exact ⟨h.1, RoundIn.mono h.2 (fun e w'' he => by cases e <;> exact he)⟩
 | halt x w' => cases x <;> simp only [Oper.uponIn] at h ⊢ <;> exact h
theorem wpOpIn_of_list {i : Nat} {o : Oper} {a : Act} {w : World} {K : Act → World → Prop} (ho : ops[i]? = some o) (h : wpListIn F n P ops (Exit.then K Q) [o] a w) : wpOpIn F n P ops Q i K a w := by
 unfold wpOpIn
 rw [ho]
 simp only
 unfold wpListIn at h
 split
 · rename_i hw
   rw [if_pos hw] at h
   exact wpIn_then h
 · rename_i hw
   rw [if_neg hw] at h
   exact h
theorem wpListIn_mono_then {o : Oper} {a : Act} {w : World} {K K' : Act → World → Prop} (hk : ∀ a w, K a w → K' a w) (h : wpListIn F n P ops (Exit.then K Q) [o] a w) : wpListIn F n P ops (Exit.then K' Q) [o] a w := by
 unfold wpListIn at h ⊢
 split
 · rename_i hw
   rw [if_pos hw] at h
   have h3 : o.wpIn F n P a w K' Q := Oper.wpIn_mono hk (wpIn_then h)
   exact wpIn_then_mk h3
 · rename_i hw
   rw [if_neg hw] at h
   exact ⟨h.1, hk _ _ h.2⟩
theorem wpIn_region_inv {id : Nat} {a : Act} {w : World} (hm : P.follows .mixedOrders = true) (hlow : lowB ops = true) (I : (Nat → Bool) → Act → World → Prop) (h0 : I (fun _ => false) a w.drew)
 (hstep : ∀ (l : Nat → Bool) (i : Nat) (o : Oper) (a : Act) (w : World), ops[i]? = some o → I l a w → l i = false → (o.after.all fun e => !Region.binds .any e || l e.on) = true →
  wpListIn F n P ops (Exit.then (fun a' w' => I (fun j => j == i || l j) a' w') Q) [o] a w)
 (hend : ∀ (l : Nat → Bool) (a : Act) (w : World), I l a w → (∀ i, i < ops.size → l i = true) → Q .normal a w) : (Code.region id ops true).wpIn F n P Q a w := by
 refine wpIn_region_any hm ?_
 have key : ∀ (fuel : Nat) (listed : Array Bool) (a : Act) (w : World), listed.size = ops.size → listed.toList.count false ≤ fuel → I (fun j => listed.getD j false) a w → wpAnyIn F n P .any ops Q fuel listed a w := by
  intro fuel
  have fin : ∀ (listed : Array Bool) (a : Act) (w : World), listed.size = ops.size → I (fun j => listed.getD j false) a w → Region.ready .any ops listed = [] → Q .normal a w := by
   intro listed a w hs hI hnil
   refine hend _ a w hI (fun i hi => ?_)
   cases hd : listed.getD i false with
   | true => rfl
   | false => exact absurd hnil (ready_some hlow hs hi hd)
  induction fuel with
  | zero =>
   intro listed a w hs hc hI
   have hnil : Region.ready .any ops listed = [] := by
    unfold Region.ready
    rw [List.filter_eq_nil_iff]
    intro i hi
    have hi' : i < listed.size := by rw [hs]; simpa using hi
    have hne : listed[i] = true := by
     cases hb : listed[i] with
     | true => rfl
     | false =>
      have hmem : false ∈ listed.toList := by
       rw [← hb]
       exact Array.getElem_mem_toList hi'
      have := List.count_pos_iff.2 hmem
      omega
    rw [Array.getD_eq_getD_getElem?, Array.getElem?_eq_getElem hi', hne]
    simp
   exact ⟨hnil, fin listed a w hs hI hnil⟩
  | succ fuel ih =>
   intro listed a w hs hc hI
   refine ⟨fin listed a w hs hI, fun i hi => ?_⟩
   unfold Region.ready at hi
   rw [List.mem_filter] at hi
   obtain ⟨hir, hc2⟩ := hi
   have hio : i < ops.size := by simpa using hir
   have hil : i < listed.size := by omega
   rw [Array.getElem?_eq_getElem hio] at hc2
   simp only [Bool.and_eq_true, Option.map_some, Option.getD_some] at hc2
   have hf : listed[i] = false := by
    have := hc2.1
    rw [Array.getD_eq_getD_getElem?, Array.getElem?_eq_getElem hil] at this
    simpa using this
   refine wpOpIn_of_list (Array.getElem?_eq_getElem hio) ?_
   have hst := hstep (fun j => listed.getD j false) i ops[i] a w (Array.getElem?_eq_getElem hio) hI (by rw [Array.getD_eq_getD_getElem?, Array.getElem?_eq_getElem hil, hf]; rfl) hc2.2
   refine wpListIn_mono_then (fun a' w' hI' => ih _ a' w' (by simpa using hs) ?_ ?_) hst
   · have := count_set listed.toList i (by rw [Array.getElem?_toList, Array.getElem?_eq_getElem hil, hf])
     rw [Array.toList_setIfInBounds]
     omega
   · have e : (fun j => (listed.setIfInBounds i true).getD j false) = fun j => j == i || listed.getD j false := by
      funext j
      rw [Array.getD_eq_getD_getElem?, Array.getElem?_setIfInBounds, Array.getD_eq_getD_getElem?]
      by_cases hj : i = j
      · subst hj
        simp [hil]
      · rw [if_neg hj]
        have : (j == i) = false := by simp; omega
        rw [this, Bool.false_or]
     rw [e]
     exact hI'
 refine key ops.size (Array.replicate ops.size false) a _ (by simp) (by simp) ?_
 have e : (fun j => (Array.replicate ops.size false).getD j false) = fun _ => false := by
  funext j
  rw [Array.getD_eq_getD_getElem?, Array.getElem?_replicate]
  split <;> rfl
 rw [e]
 exact h0
end
end Go.Proofs.YtdkdhjhhbkcciaaGreat
namespace Go.Proofs.YtdkdhjhhbkcciaaGreat
open Go.RowKit
section
variable {F : Fence} {n : Nat} {P : Program}
set_option maxHeartbeats 1000000 in
theorem wpIn_rangeFunc_footV {α : Type} {g : Operand} {ps : Array Tmp} {assign body : Code} {Q : Exit → Act → World → Prop} {a : Act} {w : World}
 (hro : F.round = none) (h1 : 1 ≤ n) {gf : Nat} {lb : Array Value} (hg : a.eval g = .func (.func gf) #[] lb) (hFg : F.fn gf) (eg : ∀ args w, (callFunc gf args).run P w = .ok (.enter gf args) w)
 {encs : α → Array Value} {G : α → (Nat → Prop) → World → Prop} {Pf : (Nat → Prop) → Prop} {S Sp : List α → Prop} {N : Nat} {w0 : World} (hseq : SeqFootH F (n - 1) P gf lb encs G Pf S Sp N w0) (hb0 : Below w0.heap.size w0 w) (hps : ∀ x, (encs x).size = ps.size)
 (hG : ∀ (x : α) (f : Nat → Prop) (W : World) (l : Nat) (o o' : Obj), G x f W → W.heap[l]? = some o → o.isCells = false → G x f (W.putObj l o')) (f0 : Nat → Prop) (hf0 : ∀ r, f0 r → r < w.heap.size) (hPf : Pf (fun r => f0 r ∨ r = w.heap.size ∨ r = w.heap.size + 1))
 (I : List α → (Nat → Prop) → World → Prop) (Ix : Code → List α → (Nat → Prop) → World → Prop) (hI : FootOwnA w.heap.size I) (hIx : ∀ c, FootPut w.heap.size (Ix c))
 (h0 : I [] (fun r => f0 r ∨ r = w.heap.size ∨ r = w.heap.size + 1) w) (a₁ : α → Nat → Act) (ob : α → Obj) (hGa : ∀ (x : α) (f : Nat → Prop) (W : World), G x f W → G x f (W.alloc (ob x)))
 (hassign : ∀ (l : Nat) (x : α) (W : World) (K : Act → World → Prop), (∃ f, G x f W) → K (a₁ x W.heap.size) (W.alloc (ob x)) →
  assign.wpIn (F.inRound l) (n - 1 - 1) P (Exit.then K (fun _ _ _ => False)) { tmps := (ps.zip (encs x)).foldl (fun t (p, v) => t.setIfInBounds p v) a.tmps, defers := [] } W)
 (hbody : ∀ (l : Nat) (pre : List α) (x : α) (f : Nat → Prop) (W : World) (Vb : Nat), I pre f W → G x f W → (∀ r, f r → r < W.heap.size) → f w.heap.size → pre.length < N → W.heap[Vb]? = some (ob x) → ¬ f Vb → body.wpIn (F.inRound l) (n - 1 - 1) P (footPost I Ix (pre ++ [x]) f W) (a₁ x Vb) W)
 (hdone : ∀ (D : Nat) (xs : List α) (f : Nat → Prop) (W : World), w.heap.size ≤ D → S xs → I xs f W → W.heap[D]? = some (.deferred (some [])) → Q .normal { a with defers := { target := .collected D, args := #[] } :: a.defers } W)
 (hstop : ∀ (D : Nat) (c : Code) (pre : List α) (f : Nat → Prop) (W : World), w.heap.size ≤ D → Sp pre → Ix c pre f W → W.heap[D]? = some (.deferred (some [])) → c.wpIn F n P Q { a with defers := { target := .collected D, args := #[] } :: a.defers } W) :
 (Code.rangeFunc g ps assign body).wpIn F n P Q a w := by
 refine wpIn_rangeFunc ?_
 intro fn hfn
 rw [hro]
 obtain ⟨rec, hrec⟩ : ∃ rec : LoopState → Option Code → Loop, rec = fun st pe => { state := st, pending := pe, fn, tmps := a.tmps, params := ps, assign, body, defers := w.heap.size } := ⟨_, rfl⟩
 obtain ⟨W1, hW1⟩ : ∃ W1, (w.alloc (.deferred (some []))).alloc (.loop (rec .ready none)) = W1 := ⟨_, rfl⟩
 have hs1 : W1.heap.size = w.heap.size + 1 + 1 := by rw [← hW1]; simp
 have hL1 : W1.heap[w.heap.size + 1]? = some (.loop (rec .ready none)) := by
  have := World.alloc_heap_new (w.alloc (.deferred (some []))) (.loop (rec .ready none))
  rw [World.size_alloc] at this
  rw [← hW1]; exact this
 have hK1 : W1.heap[w.heap.size]? = some (.deferred (some [])) := by
  rw [← hW1]; exact (Below.heap_alloc _ _ _ (by simp)).trans (World.alloc_heap_new w _)
 have hI1 : I [] (fun r => f0 r ∨ r = w.heap.size ∨ r = w.heap.size + 1) W1 := by rw [← hW1]; exact hI.alloc _ (hI.alloc _ h0)
 have hb1 : Below w0.heap.size w0 W1 := by
  rw [← hW1]; exact hb0.trans ((((Below.refl _ w).alloc (Nat.le_refl _) _).alloc (by simp) _).mono hb0.size)
 refine ⟨w.heap.size + 1, [{ target := .collected w.heap.size, args := #[] }], W1, { target := .fn (.func gf) lb, args := #[.func (.yield (w.heap.size + 1)) #[] #[]] }, W1, gf,
  #[.func (.yield (w.heap.size + 1)) #[] #[]] ++ lb, W1, ?_, ?_, ?_, ?_, fun _ => h1, ?_⟩
 · rw [← hW1, hrec]; exact run_enterLoop_outer _ _ _ _ _
 · simp only [resolve, hg]
   simp [go_sem]
 · intro f' hf'; simp [Target.leads] at hf'; subst hf'; exact hFg
 · simp [invoke, go_sem, eg]
 have ab : ∀ (st : LoopState) (pe : Option Code) (I' : List α → (Nat → Prop) → World → Prop), FootOwnA w.heap.size I' → FootAbidesA W1.heap.size (fun pre f W => I' pre f W ∧ f w.heap.size ∧ f (w.heap.size + 1) ∧ (∀ r, f r → r < W.heap.size) ∧
  W.heap[w.heap.size + 1]? = some (.loop (rec st pe)) ∧ W.heap[w.heap.size]? = some (.deferred (some []))) := by
  rintro st pe I' hI' s f A B AA ⟨hi, hfD, hfL, hlt, hl, hk⟩ hgr hr
  refine ⟨hI' s f A B AA hi hgr (fun r e => ⟨by have := (hr r e).1; omega, .inl (hr r e).2⟩), hfD, hfL, fun r hf => Nat.lt_of_lt_of_le (hlt r hf) hgr.size, ?_, ?_⟩
  · exact (hgr.block _ (hlt _ hfL) (fun e => (hr _ e).2 hfL)).trans hl
  · exact (hgr.block _ (hlt _ hfD) (fun e => (hr _ e).2 hfD)).trans hk
 refine (hseq (w.heap.size + 1)
  (fun pre f W => I pre f W ∧ f w.heap.size ∧ f (w.heap.size + 1) ∧ (∀ r, f r → r < W.heap.size) ∧ W.heap[w.heap.size + 1]? = some (.loop (rec .ready none)) ∧ W.heap[w.heap.size]? = some (.deferred (some [])))
  (fun pre f W => ∃ c, Ix c pre f W ∧ f w.heap.size ∧ f (w.heap.size + 1) ∧ (∀ r, f r → r < W.heap.size) ∧ W.heap[w.heap.size + 1]? = some (.loop (rec .done (some c))) ∧ W.heap[w.heap.size]? = some (.deferred (some [])))
  W1 (fun r => f0 r ∨ r = w.heap.size ∨ r = w.heap.size + 1) hb1 (ab _ _ I hI)
  hPf (fun r hf => by rcases hf with h | h | h; · have := hf0 r h; omega
                      · omega
                      · omega)
  ?_ ⟨hI1, .inr (.inl rfl), .inr (.inr rfl), (fun r hf => by rcases hf with h | h | h; · have := hf0 r h; omega
                                                             · omega
                                                             · omega), hL1, hK1⟩).mono ?_
 · -- one round
   rintro pre x f W ⟨hi, hfD, hfL, hlt, hl, hk⟩ hgx hlen
   have hltL := hlt _ hfL
   have hy := run_yield (P := P) (args := encs x) hl (by rw [hrec]; exact hps x)
   rw [hrec] at hy
   obtain ⟨WA, hWA⟩ : ∃ WA, W.alloc (ob x) = WA := ⟨_, rfl⟩
   have hlA : WA.heap[w.heap.size + 1]? = some (.loop (rec .ready none)) := by rw [← hWA]; exact (Below.heap_alloc _ _ _ hltL).trans hl
   have hkA : WA.heap[w.heap.size]? = some (.deferred (some [])) := by rw [← hWA]; exact (Below.heap_alloc _ _ _ (hlt _ hfD)).trans hk
   have hiA : I pre f WA := by rw [← hWA]; exact hI.alloc _ hi
   have hgA : G x f WA := by rw [← hWA]; exact hGa x f W hgx
   have hvA : WA.heap[W.heap.size]? = some (ob x) := by rw [← hWA]; exact World.alloc_heap_new W _
   have hOA : Outside f W f WA := by rw [← hWA]; exact Outside.grown (World.grownBy_alloc W (ob x) none) hlt (fun r e => by cases e)
   have hnv : ¬ f W.heap.size := fun hf => by have := hlt _ hf; omega
   have hltA : w.heap.size + 1 < WA.heap.size := Nat.lt_of_lt_of_le hltL hOA.size
   refine ⟨fn, _, assign, body, hy, roundIn_of_wpIn hfn (hassign _ x W _ ⟨f, hgx⟩ ?_)⟩
   rw [hWA]
   refine ⟨_, run_beginRound hlA (by rw [hrec]), ?_⟩
   obtain ⟨WB, hWB⟩ : ∃ WB, WA.putObj (w.heap.size + 1) (.loop { rec .ready none with state := .busy }) = WB := ⟨_, rfl⟩
   have hl2 : WB.heap[w.heap.size + 1]? = some (.loop { rec .ready none with state := .busy }) := by rw [← hWB]; exact World.putObj_heap_same hltA
   have hk2 : WB.heap[w.heap.size]? = some (.deferred (some [])) := by rw [← hWB]; exact (World.putObj_heap_other (by omega)).trans hkA
   have hO2 : Outside f W f WB := by rw [← hWB]; exact hOA.trans (outside_put _ hOA.lt hfL)
   have hi2 : I pre f WB := by rw [← hWB]; exact hI.put _ hiA (by omega) hlA rfl
   have hg2 : G x f WB := by rw [← hWB]; exact hG x f WA _ _ _ hgA hlA rfl
   have hv2 : WB.heap[W.heap.size]? = some (ob x) := by rw [← hWB]; exact (World.putObj_heap_other (by omega)).trans hvA
   rw [hWB]
   refine wpIn_mono (hbody _ pre x f WB W.heap.size hi2 hg2 hO2.lt hfD hlen hv2 hnv) ?_
   have fin : ∀ (jump : Option Code) (f' : Nat → Prop) (W3 : World), KeepsOthers WB W3 → Outside f WB f' W3 →
    ∃ W4, (Instr.endRound (w.heap.size + 1) jump).run P W3 = .ok (.bool jump.isNone) W4 ∧ W4 = W3.putObj (w.heap.size + 1) (.loop (rec (if jump.isNone then .ready else .done) jump)) ∧
    (∃ o : Obj, W3.heap[w.heap.size + 1]? = some o ∧ o.isCells = false) ∧ f' w.heap.size ∧ f' (w.heap.size + 1) ∧ Outside f W f' W4 ∧
    W4.heap[w.heap.size + 1]? = some (.loop (rec (if jump.isNone then .ready else .done) jump)) ∧ W4.heap[w.heap.size]? = some (.deferred (some [])) := fun jump f' W3 hk3 ho3 => by
    have hl3 := hk3.same _ _ hl2 rfl
    have hrun := run_endRound (P := P) jump hl3
    rw [hrec] at hrun hl3
    refine ⟨W3.putObj (w.heap.size + 1) (.loop (rec (if jump.isNone then .ready else .done) jump)), by rw [hrec]; exact hrun, rfl, ⟨_, hl3, rfl⟩, ho3.more _ hfD, ho3.more _ hfL, hO2.trans (ho3.trans (outside_put _ ho3.lt (ho3.more _ hfL))), ?_, ?_⟩
    · rw [hrec]; exact World.putObj_heap_same (Array.getElem?_eq_some_iff.1 hl3).1
    · exact (World.putObj_heap_other (by omega)).trans (hk3.same _ _ hk2 rfl)
   rintro e a3 W3 hp
   cases e with
   | normal =>
    obtain ⟨hk3, f', ho3, hi3⟩ := hp
    obtain ⟨W4, hr, rfl, ⟨o, hl3, hoc⟩, hD', hL', hO4, hl4, hk4⟩ := fin none f' W3 hk3 ho3
    exact ⟨_, _, hr, .inl ⟨rfl, f', hO4, hI.put _ hi3 (by omega) hl3 hoc, hD', hL', hO4.lt, hl4, hk4⟩⟩
   | ret =>
    obtain ⟨hk3, f', ho3, hi3⟩ := hp
    obtain ⟨W4, hr, rfl, ⟨o, hl3, hoc⟩, hD', hL', hO4, hl4, hk4⟩ := fin (some .ret) f' W3 hk3 ho3
    exact ⟨_, _, hr, .inr ⟨rfl, f', hO4, .ret, hIx _ _ _ _ _ _ _ (by omega) hi3 hl3 hoc, hD', hL', hO4.lt, hl4, hk4⟩⟩
   | exit id =>
    obtain ⟨hk3, f', ho3, hi3⟩ := hp
    obtain ⟨W4, hr, rfl, ⟨o, hl3, hoc⟩, hD', hL', hO4, hl4, hk4⟩ := fin (some (.exit id)) f' W3 hk3 ho3
    exact ⟨_, _, hr, .inr ⟨rfl, f', hO4, .exit id, hIx _ _ _ _ _ _ _ (by omega) hi3 hl3 hoc, hD', hL', hO4.lt, hl4, hk4⟩⟩
   | goto t =>
    obtain ⟨hk3, f', ho3, hi3⟩ := hp
    obtain ⟨W4, hr, rfl, ⟨o, hl3, hoc⟩, hD', hL', hO4, hl4, hk4⟩ := fin (some (.goto t)) f' W3 hk3 ho3
    exact ⟨_, _, hr, .inr ⟨rfl, f', hO4, .goto t, hIx _ _ _ _ _ _ _ (by omega) hi3 hl3 hoc, hD', hL', hO4.lt, hl4, hk4⟩⟩
   | panic ch => exact hp.elim
   | outgrown => exact hp.elim
 · -- behind the iterator
   rintro e W2 ⟨⟨v, rfl⟩, (⟨xs, f', hS, hi, hfD, hfL, hlt, hl, hk⟩ | ⟨pre, f', hSp, c, hi, hfD, hfL, hlt, hl, hk⟩)⟩
   · exact ⟨none, _, by have := run_endLoop (P := P) hl (by rw [hrec]; simp); rw [hrec] at this; exact this, hdone _ xs f' _ (Nat.le_refl _) hS (hI.put _ hi (by omega) hl rfl) ((World.putObj_heap_other (by omega)).trans hk)⟩
   · exact ⟨some c, _, by have := run_endLoop (P := P) hl (by rw [hrec]; simp); rw [hrec] at this; exact this, hstop _ c pre f' _ (Nat.le_refl _) hSp (hIx c _ _ _ _ _ _ (by omega) hi hl rfl) ((World.putObj_heap_other (by omega)).trans hk)⟩
end
end Go.Proofs.YtdkdhjhhbkcciaaGreat
namespace Go.Proofs.YtdkdhjhhbkcciaaGreat
open Go.RowKit
theorem wpListIn_make_full {F : Fence} {nn : Nat} {P : Program} (w : World) {ops : Array Oper} {rest : List Oper} {o : Oper} {a : Act} {Q : Exit → Act → World → Prop}
 (hg : o.guard = none) (l c : Operand) (t : TypeId) (hop : o.op = Op.makeSlice t l c)
 (base : Nat) (e : TypeId) (i : TypeInfo) (z : Value) (size : Nat) (h1 : P.underlying t = some (.slice e)) (h2 : P.info? e = some i) (h3 : i.zero = some z) (h4 : i.size = size)
 (kl kc : IntKind) (L C : Int) (n : Nat) (hl : a.eval l = .int kl L) (hc : a.eval c = .int kc C) (hL : L = (n : Int)) (hC : C = (n : Int)) (b2 : i.bytes * n ≤ 281474976710656) (b3 : n ≤ maxLen) (b4 : base ≤ w.heap.size)
 (hK : ∀ w', w'.ownsRow base e size (.slice (some ⟨w.heap.size, 0, none⟩) n n) n (madeCells z.cells (n * size)).toList → w.grownBy w' none → wpListIn F nn P ops Q rest (a.put o.dst (.slice (some ⟨w.heap.size, 0, none⟩) n n)) w') :
 wpListIn F nn P ops Q (o :: rest) a w := by
 refine wpListIn_plain hg fun K hK' => ?_
 obtain ⟨w', hrun, r1, r2⟩ := run_make_full (P := P) w base t e i z size h1 h2 h3 h4 kl kc n b2 b3 b4
 subst hL
 subst hC
 unfold Oper.wpIn
 refine ⟨?_, ?_⟩
 · simp [Oper.about, hop]
 · rw [Oper.semAt_plain F _ _ (by rw [hop]; intro c hc'; cases hc')]
   simp [execOp, hop, hl, hc, hrun, Result.andThen]
   exact hK' _ _ (hK w' r1 r2)
end Go.Proofs.YtdkdhjhhbkcciaaGreat
