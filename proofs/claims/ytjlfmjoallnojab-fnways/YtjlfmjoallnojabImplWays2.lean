/-
  impl.Ways.
-/
import Derived.Test.YtjlfmjoallnojabImplWays1
import Derived.Test.YtjlfmjoallnojabRegionInvIn
import Derived.Test.YtjlfmjoallnojabSpecWays
import Derived.Test.YtjlfmjoallnojabMarkSS
namespace Go.Proofs.Ytjlfmjoallnojab
open Go.RowKit Go.Shelf
set_option linter.unusedVariables false
set_option linter.unusedSimpArgs false
set_option maxHeartbeats 4000000
set_option maxRecDepth 20000
attribute [local go_sem] Oper.semAt_some

theorem waysUpTo (v : Value) (M : Int) (w : World) :
    Calls Try.prog 20 #[.agg #[v], .int .i64 M] w fun e w' => e = .returned (.func (.func 38) #[] #[.pointer (some ⟨w.heap.size + 1, 0, none⟩), .pointer (some ⟨w.heap.size, 0, none⟩)]) ∧ w' = (w.alloc (.cells #[v] 26)).alloc (.cells #[.int .i64 M] 2) := by
  go_enter Try.func20, Try.ntmps20
  go_wp2
  go_ret
  exact ⟨rfl, rfl⟩

theorem ways_foot (n Bn Bm M : Nat) (ss : List Stm) (v : Value) (w W0 : World) (hp : procOk ss = true) (hM : M ≤ 9) (hv : Reads3 w v ss) (hw : Below w.heap.size w W0) (hBn : W0.heap[Bn]? = some (.cells #[v] 26 (0, 0))) (hBn' : w.heap.size ≤ Bn) (hBm : W0.heap[Bm]? = some (.cells #[.int .i64 M] 2 (0, 0))) :
    SeqFootG (α := Value × List Int) Fence.wide n Try.prog 38 #[.pointer (some ⟨Bm, 0, none⟩), .pointer (some ⟨Bn, 0, none⟩)] (fun x => #[x.1]) WG (fun f => ∀ r, f r → w.heap.size ≤ r ∧ r ≠ Bn)
      (fun xs => xs.map (·.2) = allTo ss M) (fun _ => True) 5000 W0 := by
  intro l J Jx W f hb hJ hJx hPf hflt hY h0
  have hlt := (Array.getElem?_eq_some_iff.1 hBn).1
  have hltm := (Array.getElem?_eq_some_iff.1 hBm).1
  exact ways1 n l Bn Bm M ss v w W hp hM hv (hw.trans (hb.mono hw.size)) ((hb.block Bn hlt).trans hBn) hBn' ((hb.block Bm hltm).trans hBm) J Jx hJ f hPf hflt hY h0

theorem allTo_filter (ss : List Stm) (i : Int) : ∀ M, (allTo ss M).filter (fun way => decide (lastI way = i)) = waysTo ss i M
  | 0 => rfl
  | k + 1 => by rw [allTo, waysTo, List.filter_append, allTo_filter ss i k]

/-- The ways so far that come to i. -/
def wfl (i : Int) (pre : List (Value × List Int)) : List (List Int) := (pre.map (·.2)).filter (fun way => decide (lastI way = i))

theorem wfl_snoc (i : Int) (pre : List (Value × List Int)) (x : Value × List Int) : wfl i (pre ++ [x]) = wfl i pre ++ (if lastI x.2 = i then [x.2] else []) := by
  unfold wfl
  rw [List.map_append, List.filter_append]
  congr 1
  by_cases h : lastI x.2 = i <;> simp [h]

/-- What has come so far is laid down. -/
structure VSt (i : Int) (w : World) (Bw Bt : Nat) (pre : List (Value × List Int)) (f : Nat → Prop) (W : World) : Prop where
  st : ∃ ov us, W.heap[Bw]? = some (.cells #[ov] 29 (0, 0)) ∧ OwnSS W w.heap.size ov us (wfl i pre) ∧ ApartSS us ∧ (∀ k, ov.ownBlock = some k → f k) ∧ (∀ u ∈ us, ∀ k, u.ownBlock = some k → f k)
  at' : W.heap[Bt]? = some (.cells #[.int .i64 i] 2 (0, 0))
  foot : f Bw
  footT : f Bt
  below : Below w.heap.size w W

theorem own_cells {w : World} {base : Nat} {e : TypeId} {s : Nat} {v : Value} {n : Nat} {xs : List Value} (h : w.ownsRow base e s v n xs) {k : Nat} (hk : v.ownBlock = some k) : ∃ cur, w.heap[k]? = some (.cells cur e (0, 0)) := by
  rcases h.2 with ⟨rfl, _⟩ | ⟨g, cap, cur, rfl, _, hg, _⟩
  · simp [Value.ownBlock] at hk
  · simp [Value.ownBlock] at hk
    subst hk
    exact ⟨cur, hg⟩

theorem vst_own (i : Int) (w : World) (Bw Bt B : Nat) (hBw : Bw < B) (hBt : Bt < B) (hB : w.heap.size ≤ B) : FootOwn B (VSt i w Bw Bt) := by
  rintro s f A A' row ⟨⟨ov, us, h1, h2, h3, h4, h5⟩, ha, hf, hft, hb⟩ hg hr
  have keep : ∀ k, f k → (∃ cur t fz, A.heap[k]? = some (.cells cur t fz)) → A'.heap[k]? = A.heap[k]? := by
    rintro k hfk ⟨cur, t, fz, hk⟩
    refine hg.block k (Array.getElem?_eq_some_iff.1 hk).1 (fun e => ?_)
    rcases (hr k e.symm).2 with h | ⟨o, ho, hc⟩
    · exact h hfk
    · rw [hk] at ho
      simp at ho
      rw [← ho] at hc
      simp [Obj.isCells] at hc
  refine ⟨⟨ov, us, (keep Bw hf ⟨_, _, _, h1⟩).trans h1, h2.same (fun k hk => ?_) (fun u hu k hk => ?_), h3, h4, h5⟩, (keep Bt hft ⟨_, _, _, ha⟩).trans ha, hf, hft, hb.grown hg hb.size (fun k e => Nat.le_trans hB (hr k e).1)⟩
  · obtain ⟨cur, hc⟩ := own_cells h2.row hk
    exact keep k (h4 k hk) ⟨cur, _, _, hc⟩
  · obtain ⟨xs, _, ho⟩ := h2.inner hu
    obtain ⟨cur, hc⟩ := own_cells ho hk
    exact keep k (h5 u hu k hk) ⟨cur, _, _, hc⟩

theorem wg_put (x : Value × List Int) (f : Nat → Prop) (W : World) (l : Nat) (o o' : Obj) (h : WG x f W) (hl : W.heap[l]? = some o) (ho : o.isCells = false) : WG x f (W.putObj l o') := by
  obtain ⟨⟨ao, cap, h1, h2⟩, h3, h4, h5⟩ := h
  refine ⟨⟨ao, cap, h1, fun j y hy => ?_⟩, h3, h4, h5⟩
  obtain ⟨g, off, e, hc⟩ := h2 j y hy
  refine ⟨g, off, e, ?_⟩
  have hne : g ≠ l := by
    rintro rfl
    simp only [World.cell?, hl] at hc
    cases o <;> simp [Obj.isCells] at ho hc
  rw [World.cell?_of_block (World.putObj_heap_other hne)]
  exact hc

end Go.Proofs.Ytjlfmjoallnojab
