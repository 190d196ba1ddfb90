/-
  impl.Short.
-/
import Derived.Test.YtjlfmjoallnojabImplReached
namespace Go.Proofs.Ytjlfmjoallnojab
open Go.RowKit Go.Shelf
set_option linter.unusedVariables false
set_option maxHeartbeats 2000000
attribute [local go_sem] Oper.semAt_some

/-- How many statements a shortest way has. -/
def ShortAns (ss : List Stm) (i r : Int) : Prop :=
  (hasS ss i = false → r = 0) ∧ (hasS ss i = true → ∀ j : Nat, i = (j : Int) → (¬ Rch ss (-1) j → r = 0) ∧ ∀ k : Nat, rk ss (-1) k j → (∀ k', k' < k → ¬ rk ss (-1) k' j) → r = (k : Int) + 1)

theorem least_rk {ss : List Stm} {j : Nat} (h : Rch ss (-1) j) : ∃ k, rk ss (-1) k j ∧ ∀ k', k' < k → ¬ rk ss (-1) k' j := by
  classical
  obtain ⟨k, hk⟩ := h
  induction k using Nat.strongRecOn with
  | ind k ih =>
    by_cases h : ∃ k', k' < k ∧ rk ss (-1) k' j
    · obtain ⟨k', hlt, hk'⟩ := h
      exact ih k' hlt hk'
    · exact ⟨k, hk, fun k' hlt hk' => h ⟨k', hlt, hk'⟩⟩

theorem short_some (ss : List Stm) (i : Int) : ∃ A : Int, ShortAns ss i A := by
  classical
  cases h : hasS ss i
  · exact ⟨0, by simp, by simp [h]⟩
  · obtain ⟨_, j, rfl, _⟩ := hasS_true h
    by_cases hr : Rch ss (-1) j
    · obtain ⟨k, hk, hm⟩ := least_rk hr
      refine ⟨(k : Int) + 1, by simp [h], fun _ j' e => ?_⟩
      obtain rfl : j = j' := by omega
      refine ⟨fun hn => absurd hr hn, fun k2 hk2 hm2 => ?_⟩
      have : k = k2 := by
        rcases Nat.lt_trichotomy k k2 with h1 | h1 | h1
        · exact absurd hk (hm2 k h1)
        · exact h1
        · exact absurd hk2 (hm k2 h1)
      omega
    · refine ⟨0, by simp, fun _ j' e => ?_⟩
      obtain rfl : j = j' := by omega
      exact ⟨fun _ => rfl, fun k hk _ => absurd ⟨k, hk⟩ hr⟩

/-- Between two rounds: it has not come yet. -/
structure SSt (ss : List Stm) (w : World) (i : Int) (A0 R : Nat) (pre : List (DPs ss)) (f : Nat → Prop) (W : World) : Prop where
  none : ∀ p ∈ pre, p.1.1 ≠ i
  box : W.heap[A0]? = some (.cells #[.int .i64 i] 2 (0, 0))
  res : W.heap[R]? = some (.cells #[.int .i64 0] 2 (0, 0))
  foot : f R
  below : Below w.heap.size w W

/-- It has come. -/
structure SIx (ss : List Stm) (w : World) (i : Int) (R : Nat) (c : Code) (pre : List (DPs ss)) (f : Nat → Prop) (W : World) : Prop where
  ret : c = .ret
  res : ∃ p ∈ pre, p.1.1 = i ∧ W.heap[R]? = some (.cells #[.int .i64 p.1.2] 2 (0, 0))
  below : Below w.heap.size w W

theorem sst_own (ss : List Stm) (w : World) (i : Int) (A0 R B : Nat) (hA : A0 < B) (hR : R < B) (hB : w.heap.size ≤ B) : FootOwn B (SSt ss w i A0 R) := by
  rintro s f A A' row ⟨h1, h2, h3, h4, h5⟩ hg hr
  refine ⟨h1, ?_, ?_, h4, h5.grown hg h5.size (fun k e => Nat.le_trans hB (hr k e).1)⟩
  · exact (hg.block A0 (Array.getElem?_eq_some_iff.1 h2).1 (fun e => by have := (hr A0 e.symm).1; omega)).trans h2
  · exact (hg.block R (Array.getElem?_eq_some_iff.1 h3).1 (fun e => by have := (hr R e.symm).1; omega)).trans h3

theorem six_own (ss : List Stm) (w : World) (i : Int) (R B : Nat) (hR : R < B) (hB : w.heap.size ≤ B) (c : Code) : FootOwn B (SIx ss w i R c) := by
  rintro s f A A' row ⟨h1, ⟨p, hp, hi, h3⟩, h5⟩ hg hr
  exact ⟨h1, ⟨p, hp, hi, (hg.block R (Array.getElem?_eq_some_iff.1 h3).1 (fun e => by have := (hr R e.symm).1; omega)).trans h3⟩, h5.grown hg h5.size (fun k e => Nat.le_trans hB (hr k e).1)⟩

theorem implShort (ss : List Stm) (i : Int) (A : Int) (hA : ShortAns ss i A) (v : Value) (w : World) (hl : ss.length ≤ maxLen) (hv : Reads3 w v ss) :
    Calls Try.prog 15 #[.agg #[v], .int .i64 i] w fun e w' => e = .returned (.int .i64 A) ∧ Below w.heap.size w w' := by
  obtain ⟨W0, hW0⟩ : ∃ W0, ((w.alloc (.cells #[v] 26)).alloc (.cells #[.int .i64 i] 2)).alloc (.cells #[.int .i64 0] 2) = W0 := ⟨_, rfl⟩
  have l3 := laid3 (w := w) (a := .cells #[v] 26) (b := .cells #[.int .i64 i] 2) (c := .cells #[.int .i64 0] 2) (Below.refl _ _)
  rw [hW0] at l3
  obtain ⟨H0, H1, H2, hs0, hb0⟩ := l3
  have he := hasStmt ss i v W0 hl (reads3_below hv hb0)
  have HW : Hid (((w.alloc (.cells #[v] 26)).alloc (.cells #[.int .i64 i] 2)).alloc (.cells #[.int .i64 0] 2) = W0) := hW0
  clear hW0
  have hz0 : W0.heap.size = w.heap.size + 3 := by rw [← HW.out]; simp
  cases hok : hasS ss i
  · rw [hok] at he
    obtain rfl := hA.1 hok
    go_enter Try.func15, Try.ntmps15
    go_wp2_with fail
    go_at_call 19
    rw [HW.out]
    refine he.mono ?_
    rintro e w2 ⟨rfl, b2⟩
    have R2 := (b2.block (w.heap.size + 1 + 1) (by omega)).trans H2
    obtain ⟨c2, f2⟩ := one_cell R2
    have G2 := one_set R2 (.int .i64 0)
    obtain ⟨d2, _⟩ := one_cell G2
    have L2 := hb0.trans (b2.mono hb0.size)
    go_wp2
    refine bodyPost_ret (v := .int .i64 0) (by simp [results, Try.results15, go_sem, d2]) rfl ?_
    exact ⟨rfl, L2.setCell (by simp; omega) _⟩
  · rw [hok] at he
    obtain ⟨hp, j, rfl, hjl⟩ := hasS_true hok
    obtain ⟨hA1, hA2⟩ := hA.2 hok j rfl
    refine (callsIn_wide (n := 5)).1 ?_
    refine callsIn_of_wp_marks Try.func15 rfl trivial ?_ rfl
    simp only [Try.ntmps15, List.size_toArray, List.length_cons, List.length_nil, Nat.reduceAdd, Nat.reduceSub, Array.replicate_succ, Array.replicate_zero, List.push_toArray, List.append_toArray, List.nil_append, List.cons_append]
    gi_wp2
    refine ⟨trivial, ?_⟩
    rw [HW.out]
    refine (callsIn_wide.2 he).mono ?_
    rintro e w2 ⟨rfl, b2⟩
    have s2 := b2.size
    have B2 := (b2.block w.heap.size (by omega)).trans H0
    have I2 := (b2.block (w.heap.size + 1) (by omega)).trans H1
    have R2 := (b2.block (w.heap.size + 1 + 1) (by omega)).trans H2
    obtain ⟨c2, f2⟩ := one_cell B2
    have L2 := hb0.trans (b2.mono hb0.size)
    gi_wp2
    refine ⟨trivial, ?_⟩
    refine (callsIn_wide.2 (nearestFirst v _)).mono ?_
    rintro e w3 ⟨rfl, hw3⟩
    have hz3 : w3.heap.size = w2.heap.size + 1 := by rw [hw3]; simp
    have N3 : w3.heap[w2.heap.size]? = some (.cells #[v] 26 (0, 0)) := by rw [hw3]; exact heap_alloc_new w2 _
    have I3 : w3.heap[w.heap.size + 1]? = some (.cells #[.int .i64 j] 2 (0, 0)) := by rw [hw3, old_block (by omega)]; exact I2
    have R3 : w3.heap[w.heap.size + 1 + 1]? = some (.cells #[.int .i64 0] 2 (0, 0)) := by rw [hw3, old_block (by omega)]; exact R2
    have L3 : Below w.heap.size w w3 := by rw [hw3]; exact L2.alloc L2.size _
    clear hw3
    gi_wp2
    refine wpIn_rangeFunc_foot (α := DPs ss) rfl (by decide) (gf := 43) (lb := #[.pointer (some ⟨w2.heap.size, 0, none⟩)]) (by simp [go_sem]) trivial (enters_of Try.func43 (by kernel_rfl) rfl)
      (nearest_foot _ w2.heap.size ss v w w3 hp hv L3 N3 (by omega)) (Below.refl _ _) (fun _ => rfl)
      (fun r => r = w.heap.size + 1 + 1) (fun r hr => by omega) (fun r hr => by rcases hr with h | h | h <;> omega)
      (SSt ss w j (w.heap.size + 1) (w.heap.size + 1 + 1)) (SIx ss w j (w.heap.size + 1 + 1)) (sst_own ss w j _ _ w3.heap.size (by omega) (by omega) (by omega)) (fun c => six_own ss w j _ w3.heap.size (by omega) (by omega) c)
      ⟨by simp, I3, R3, .inl rfl, L3⟩ (fun x => { tmps := #[.agg #[v], .int .i64 j, .pointer (some ⟨w.heap.size, 0, none⟩), .pointer (some ⟨w.heap.size + 1, 0, none⟩), .pointer (some ⟨w.heap.size + 1 + 1, 0, none⟩), .int .i64 x.1.1, .int .i64 x.1.2, .agg #[v], .int .i64 j, .bool true, .bool false, .agg #[v], .func (.func 43) #[] #[.pointer (some ⟨w2.heap.size, 0, none⟩)], .int .i64 x.1.1, .int .i64 x.1.2, undef, undef, undef, undef], defers := [] }) ?assign ?body ?done ?stop
    case assign =>
      intro l x W K hK
      gi_wp2
      exact hK
    case body =>
      rintro l pre x f W ⟨h1, h2, h3, hf, hbl⟩ hflt hfD _
      obtain ⟨c1, z1⟩ := one_cell h2
      obtain ⟨c3, z3⟩ := one_cell h3
      have H2 : Hid (W.heap[w.heap.size + 1]? = some (.cells #[.int .i64 j] 2 (0, 0))) := h2
      have H3 : Hid (W.heap[w.heap.size + 1 + 1]? = some (.cells #[.int .i64 0] 2 (0, 0))) := h3
      clear h2 h3
      by_cases hx : x.1.1 = (j : Int)
      · have hx' : (x.1.1 == (j : Int)) = true := by simpa using hx
        have G3 : Hid ((W.setCell ⟨w.heap.size + 1 + 1, 0, none⟩ (.int .i64 x.1.2)).heap[w.heap.size + 1 + 1]? = some (.cells #[.int .i64 x.1.2] 2 (0, 0))) := one_set H3.out (.int .i64 x.1.2)
        gi_wp2
        exact ⟨KeepsOthers.setCell _ _ _, f, Outside.grown (grown_setCell1 W _ 0 (.int .i64 x.1.2)) hflt (fun r e => by cases e; exact hf), rfl, ⟨x, by simp, hx, G3.out⟩, hbl.setCell (by simp; omega) _⟩
      · have hx' : (x.1.1 == (j : Int)) = false := by simpa using hx
        gi_wp2
        refine ⟨KeepsOthers.refl _, f, Outside.refl hflt, fun p hp => ?_, H2.out, H3.out, hf, hbl⟩
        rcases List.mem_append.1 hp with hp | hp
        · exact h1 p hp
        · simp at hp; subst hp; exact hx
    case done =>
      rintro D xs f W hD hS ⟨h1, h2, h3, hf, hbl⟩ hK
      have hnR : ¬ Rch ss (-1) j := fun hr => by
        obtain ⟨p, hp, he⟩ := hS j hr
        exact h1 p hp he
      obtain rfl := hA1 hnR
      obtain ⟨c3, z3⟩ := one_cell h3
      have G3 := one_set h3 (.int .i64 0)
      clear h2 h3
      gi_wp2
      have hK' := (KeepsOthers.setCell W ⟨w.heap.size + 1 + 1, 0, none⟩ (.int .i64 0)).same D _ hK rfl
      refine ⟨by simp, .inl ⟨_, _, rfl, run_takeDeferred hK', ?_⟩⟩
      have hne : w.heap.size + 1 + 1 ≠ D := by omega
      have X5 : ((W.setCell ⟨w.heap.size + 1 + 1, 0, none⟩ (.int .i64 0)).putObj D (.deferred none)).heap[w.heap.size + 1 + 1]? = some (.cells #[.int .i64 0] 2 (0, 0)) := (World.putObj_heap_other (by omega)).trans G3
      obtain ⟨c5, _⟩ := one_cell X5
      refine ⟨.int .i64 0, ?_, rfl, (hbl.setCell (by simp; omega) _).trans (belowK_b (w := w) (Nat.le_refl _) _ D _ _ (by omega) hK' rfl rfl)⟩
      simp [results, Try.f15, go_sem, c5]
    case stop =>
      rintro D c pre f W hD _ ⟨rfl, ⟨p, hp1, hpj, h3⟩, hbl⟩ hK
      obtain ⟨i', k, e1, e2, _, _, hk, hmin⟩ := p.2
      rw [hpj] at e1
      obtain rfl : j = i' := by omega
      obtain rfl := hA2 k hk hmin
      rw [e2] at h3
      gi_wp2
      refine ⟨by simp, .inl ⟨_, _, rfl, run_takeDeferred hK, ?_⟩⟩
      have hne : w.heap.size + 1 + 1 ≠ D := by omega
      have X5 : (W.putObj D (.deferred none)).heap[w.heap.size + 1 + 1]? = some (.cells #[.int .i64 ((k : Int) + 1)] 2 (0, 0)) := (World.putObj_heap_other (by omega)).trans h3
      obtain ⟨c5, _⟩ := one_cell X5
      refine ⟨.int .i64 ((k : Int) + 1), ?_, rfl, hbl.trans (belowK_b (w := w) (Nat.le_refl _) _ D _ _ (by omega) hK rfl rfl)⟩
      simp [results, Try.f15, go_sem, c5]

end Go.Proofs.Ytjlfmjoallnojab
