/-
  impl.Ways.
-/
import Derived.Test.YtciccbbgamklbaaImplWays1
import Derived.Test.YtciccbbgamklbaaG11FillIn
import Derived.Test.YtciccbbgamklbaaSpecWays
import Derived.Test.YtciccbbgamklbaaMarkSS
namespace Go.Proofs.Ytciccbbgamklbaa
open Go.RowKit Go.Shelf
set_option linter.unusedVariables false
set_option linter.unusedSimpArgs false
set_option maxHeartbeats 4000000
set_option maxRecDepth 20000
attribute [local go_sem] Oper.semAt_some

theorem allTo_filter (ss : List Stm) (i : Int) : ∀ M, (allTo ss M).filter (fun way => decide (lastI way = i)) = waysTo ss i M
  | 0 => rfl
  | k + 1 => by rw [allTo, waysTo, List.filter_append, allTo_filter ss i k]

/-- The ways so far that come to i. -/
def wfl (i : Int) (pre : List (Value × List Int)) : List (List Int) := (pre.map (·.2)).filter (fun way => decide (lastI way = i))

theorem wfl_snoc (i : Int) (pre : List (Value × List Int)) (x : Value × List Int) : wfl i (pre ++ [x]) = wfl i pre ++ (if lastI x.2 = i then [x.2] else []) := by
  unfold wfl
  rw [List.map_append, List.filter_append]
  congr 1
  by_cases h : lastI x.2 = i <;> simp [h]

/-- What has come so far is laid down. -/
structure VSt (i : Int) (w : World) (Bw Bt : Nat) (pre : List (Value × List Int)) (f : Nat → Prop) (W : World) : Prop where
  st : ∃ ov us, W.heap[Bw]? = some (.cells #[ov] 45 (0, 0)) ∧ OwnSS W w.heap.size ov us (wfl i pre) ∧ ApartSS us ∧ (∀ k, ov.ownBlock = some k → f k) ∧ (∀ u ∈ us, ∀ k, u.ownBlock = some k → f k)
  at' : W.heap[Bt]? = some (.cells #[.int .i64 i] 2 (0, 0))
  foot : f Bw
  footT : f Bt
  below : Below w.heap.size w W

theorem own_cells {w : World} {base : Nat} {e : TypeId} {s : Nat} {v : Value} {n : Nat} {xs : List Value} (h : w.ownsRow base e s v n xs) {k : Nat} (hk : v.ownBlock = some k) : ∃ cur, w.heap[k]? = some (.cells cur e (0, 0)) := by
  rcases h.2 with ⟨rfl, _⟩ | ⟨g, cap, cur, rfl, _, hg, _⟩
  · simp [Value.ownBlock] at hk
  · simp [Value.ownBlock] at hk
    subst hk
    exact ⟨cur, hg⟩

theorem vst_own (i : Int) (w : World) (Bw Bt B : Nat) (hBw : Bw < B) (hBt : Bt < B) (hB : w.heap.size ≤ B) : FootOwn B (VSt i w Bw Bt) := by
  rintro s f A A' row ⟨⟨ov, us, h1, h2, h3, h4, h5⟩, ha, hf, hft, hb⟩ hg hr
  have keep : ∀ k, f k → (∃ cur t fz, A.heap[k]? = some (.cells cur t fz)) → A'.heap[k]? = A.heap[k]? := by
    rintro k hfk ⟨cur, t, fz, hk⟩
    refine hg.block k (Array.getElem?_eq_some_iff.1 hk).1 (fun e => ?_)
    rcases (hr k e.symm).2 with h | ⟨o, ho, hc⟩
    · exact h hfk
    · rw [hk] at ho
      simp at ho
      rw [← ho] at hc
      simp [Obj.isCells] at hc
  refine ⟨⟨ov, us, (keep Bw hf ⟨_, _, _, h1⟩).trans h1, h2.same (fun k hk => ?_) (fun u hu k hk => ?_), h3, h4, h5⟩, (keep Bt hft ⟨_, _, _, ha⟩).trans ha, hf, hft, hb.grown hg hb.size (fun k e => Nat.le_trans hB (hr k e).1)⟩
  · obtain ⟨cur, hc⟩ := own_cells h2.row hk
    exact keep k (h4 k hk) ⟨cur, _, _, hc⟩
  · obtain ⟨xs, _, ho⟩ := h2.inner hu
    obtain ⟨cur, hc⟩ := own_cells ho hk
    exact keep k (h5 u hu k hk) ⟨cur, _, _, hc⟩

theorem wg_put (x : Value × List Int) (f : Nat → Prop) (W : World) (l : Nat) (o o' : Obj) (h : WG x f W) (hl : W.heap[l]? = some o) (ho : o.isCells = false) : WG x f (W.putObj l o') := by
  obtain ⟨⟨ao, cap, h1, h2⟩, h3, h4, h5⟩ := h
  refine ⟨⟨ao, cap, h1, fun j y hy => ?_⟩, h3, h4, h5⟩
  obtain ⟨g, off, e, hc⟩ := h2 j y hy
  refine ⟨g, off, e, ?_⟩
  have hne : g ≠ l := by
    rintro rfl
    simp only [World.cell?, hl] at hc
    cases o <;> simp [Obj.isCells] at ho hc
  rw [World.cell?_of_block (World.putObj_heap_other hne)]
  exact hc

end Go.Proofs.Ytciccbbgamklbaa
