/-
  impl.nearestFirst as a function, impl.Reached.
-/
import Derived.Test.YtjlfmjoallnojacNearest
import Derived.Test.YtjlfmjoallnojacNumbers
namespace Go.Proofs.Ytjlfmjoallnojac
open Go.RowKit Go.Shelf
set_option linter.unusedVariables false
set_option maxHeartbeats 2000000
attribute [local go_sem] Oper.semAt_some

theorem nearestFirst (v : Value) (w : World) :
    Calls Try.prog 24 #[.agg #[v]] w fun e w' => e = .returned (.func (.func 37) #[] #[.pointer (some ⟨w.heap.size, 0, none⟩)]) ∧ w' = w.alloc (.cells #[v] 26) := by
  go_enter Try.func24, Try.ntmps24
  go_wp2
  go_ret
  exact ⟨rfl, rfl⟩

/-- The iterator's contract. -/
theorem nearest_foot (n Bn : Nat) (ss : List Stm) (v : Value) (w W0 : World) (hp : procOk ss = true) (hv : Reads3 w v ss) (hw : Below w.heap.size w W0) (hBn : W0.heap[Bn]? = some (.cells #[v] 26 (0, 0))) (hBn' : w.heap.size ≤ Bn) :
    SeqFoot (α := DPs ss) Fence.wide n Try.prog 37 #[.pointer (some ⟨Bn, 0, none⟩)] (fun x => #[.int .i64 x.1.1, .int .i64 x.1.2]) (fun f => ∀ r, f r → w.heap.size ≤ r ∧ r ≠ Bn)
      (fun xs => ∀ j : Nat, Rch ss (-1) j → ∃ p ∈ xs, p.1.1 = (j : Int)) (fun _ => True) 12 W0 := by
  intro l J Jx W f hb hJ hJx hPf hflt hY h0
  have hlt := (Array.getElem?_eq_some_iff.1 hBn).1
  exact nearest1 n l Bn ss v w W hp hv (hw.trans (hb.mono hw.size)) ((hb.block Bn hlt).trans hBn) hBn' J Jx hJ f hPf hflt hY h0

theorem mem_nums : ∀ (bs : List Bool) (i : Int) (x : Int), x ∈ nums bs i ↔ ∃ j : Nat, x = i + j ∧ bs.getD j false = true
  | [], i, x => by simp [nums]
  | b :: bs, i, x => by
    have ih := mem_nums bs (i + 1) x
    have key : (∃ j : Nat, x = i + j ∧ (b :: bs).getD j false = true) ↔ (x = i ∧ b = true) ∨ ∃ j : Nat, x = i + 1 + j ∧ bs.getD j false = true := by
      constructor
      · rintro ⟨j, hj, hb⟩
        cases j with
        | zero => exact .inl ⟨by omega, by simpa using hb⟩
        | succ j => exact .inr ⟨j, by omega, by simpa using hb⟩
      · rintro (⟨h, hb⟩ | ⟨j, hj, hb⟩)
        · exact ⟨0, by omega, by simpa using hb⟩
        · exact ⟨j + 1, by omega, by simpa using hb⟩
    rw [key, ← ih]
    cases b <;> simp [nums]

theorem nums_sorted : ∀ (bs : List Bool) (i : Int), (nums bs i).Pairwise (· < ·)
  | [], i => by simp [nums]
  | b :: bs, i => by
    have ih := nums_sorted bs (i + 1)
    cases b
    · simpa [nums] using ih
    · simp only [nums, if_true, List.pairwise_cons]
      refine ⟨fun y hy => ?_, ih⟩
      obtain ⟨j, rfl, _⟩ := (mem_nums bs (i + 1) y).1 hy
      omega

def bools (bs : List Bool) : List Value := bs.map .bool

theorem bools_set {w : World} {B : Nat} {t : TypeId} {bs : List Bool} (h : w.heap[B]? = some (.cells (bools bs).toArray t (0, 0))) (j : Nat) (x : Bool) : (w.setCell ⟨B, j, none⟩ (.bool x)).heap[B]? = some (.cells (bools (bs.set j x)).toArray t (0, 0)) := by
  have := heap_setCell_same w B j _ t (.bool x) h
  rw [this]
  simp [bools, List.map_set]

theorem bools_cell {w : World} {B : Nat} {t : TypeId} {bs : List Bool} (h : w.heap[B]? = some (.cells (bools bs).toArray t (0, 0))) (j : Nat) (hj : j < bs.length) : w.cell? ⟨B, j, none⟩ = some (.bool (bs.getD j false)) ∧ w.frozen? ⟨B, j, none⟩ = false := by
  refine ⟨?_, frozen_of_row w B j _ t h⟩
  rw [cell_of_row w B j _ t (0, 0) h]
  simp [bools, hj, List.getD]

theorem getDB_set (bs : List Bool) (j i : Nat) (x : Bool) (hj : j < bs.length) : (bs.set j x).getD i false = if i = j then x else bs.getD i false := by
  simp only [List.getD, List.getElem?_set]
  by_cases h : j = i
  · subst h; simp [hj]
  · rw [if_neg h, if_neg (fun e => h e.symm)]

/-- What has come so far is laid down. -/
structure RSt (ss : List Stm) (w : World) (R : Nat) (pre : List (DPs ss)) (f : Nat → Prop) (W : World) : Prop where
  bs : ∃ bs : List Bool, bs.length = 12 ∧ W.heap[R]? = some (.cells (bools bs).toArray 39 (0, 0)) ∧ ∀ i : Nat, bs.getD i false = true ↔ ∃ p ∈ pre, p.1.1 = (i : Int)
  foot : f R
  below : Below w.heap.size w W

theorem rst_own (ss : List Stm) (w : World) (R B : Nat) (hR : R < B) (hB : w.heap.size ≤ B) : FootOwn B (RSt ss w R) := by
  rintro s f A A' row ⟨⟨bs, h1, h2, h3⟩, h4, h5⟩ hg hr
  refine ⟨⟨bs, h1, ?_, h3⟩, h4, h5.grown hg h5.size (fun k e => Nat.le_trans hB (hr k e).1)⟩
  exact (hg.block R (Array.getElem?_eq_some_iff.1 h2).1 (fun e => by have := (hr R e.symm).1; omega)).trans h2

theorem implReached (ss : List Stm) (A : List Int) (h1 : procOk ss = true → IsReached ss (-1) A) (h0 : procOk ss = false → A = []) (v : Value) (w : World) (hl : ss.length ≤ maxLen) (hv : Reads3 w v ss) :
    Calls Try.prog 13 #[.agg #[v]] w fun e w' => ∃ u, e = .returned u ∧ w'.ownsRow w.heap.size 2 1 u A.length (ints A) ∧ Below w.heap.size w w' := by
  have hb0 : Below w.heap.size w (w.alloc (.cells #[v] 26)) := by go_grown
  have he := implProcOk ss v _ hl (reads3_below hv hb0)
  have H0 := heap_alloc_new w (.cells #[v] 26)
  have s0 : (w.alloc (.cells #[v] 26)).heap.size = w.heap.size + 1 := by simp
  cases hok : procOk ss
  · rw [hok] at he
    obtain rfl := h0 hok
    go_enter Try.func13, Try.ntmps13
    go_wp2_with (go_at_call 23; refine he.mono ?_; rintro e w2 ⟨rfl, b2⟩)
    go_ret
    exact ⟨_, rfl, nil_own _ _, hb0.trans (b2.mono hb0.size)⟩
  · rw [hok] at he
    have hA := h1 hok
    refine (callsIn_wide (n := 5)).1 ?_
    refine callsIn_of_wp_marks Try.func13 rfl trivial ?_ rfl
    simp only [Try.ntmps13, List.size_toArray, List.length_cons, List.length_nil, Nat.reduceAdd, Nat.reduceSub, Array.replicate_succ, Array.replicate_zero, List.push_toArray, List.append_toArray, List.nil_append, List.cons_append]
    gi_wp2
    refine ⟨trivial, ?_⟩
    refine (callsIn_wide.2 he).mono ?_
    rintro e w2 ⟨rfl, b2⟩
    have s2 := b2.size
    have B2 := (b2.block w.heap.size (by omega)).trans H0
    obtain ⟨c2, f2⟩ := one_cell B2
    have L2 := hb0.trans (b2.mono hb0.size)
    have hlt2 : w.heap.size < w2.heap.size := by omega
    gi_wp2
    refine ⟨trivial, ?_⟩
    refine (callsIn_wide.2 (nearestFirst v _)).mono ?_
    rintro e w3 ⟨rfl, hw3⟩
    have hs3 : (w2.alloc (.cells (bools [false, false, false, false, false, false, false, false, false, false, false, false]).toArray 39)).heap.size = w2.heap.size + 1 := by simp
    have hz3 : w3.heap.size = w2.heap.size + 1 + 1 := by rw [hw3]; simp
    have R3 : w3.heap[w2.heap.size]? = some (.cells (bools [false, false, false, false, false, false, false, false, false, false, false, false]).toArray 39 (0, 0)) := by
      rw [hw3, old_block (by simp)]; exact heap_alloc_new w2 _
    have N3 : w3.heap[w2.heap.size + 1]? = some (.cells #[v] 26 (0, 0)) := by
      have := heap_alloc_new (w2.alloc (.cells (bools [false, false, false, false, false, false, false, false, false, false, false, false]).toArray 39)) (.cells #[v] 26)
      rw [hs3] at this
      rw [hw3]; exact this
    have L3 : Below w.heap.size w w3 := by rw [hw3]; exact (L2.alloc L2.size _).alloc (by simp; omega) _
    clear hw3 hs3
    have hst : ∀ f : Nat → Prop, f w2.heap.size → RSt ss w w2.heap.size [] f w3 := fun f hf => ⟨⟨_, rfl, R3, fun i => by
      have : ([false, false, false, false, false, false, false, false, false, false, false, false] : List Bool).getD i false = false := by
        rcases Nat.lt_or_ge i 12 with h | h
        · have : i = 0 ∨ i = 1 ∨ i = 2 ∨ i = 3 ∨ i = 4 ∨ i = 5 ∨ i = 6 ∨ i = 7 ∨ i = 8 ∨ i = 9 ∨ i = 10 ∨ i = 11 := by omega
          rcases this with rfl | rfl | rfl | rfl | rfl | rfl | rfl | rfl | rfl | rfl | rfl | rfl <;> rfl
        · rw [List.getD, List.getElem?_eq_none (by simpa using h)]; rfl
      rw [this]; simp⟩, hf, L3⟩
    gi_wp2
    refine wpIn_rangeFunc_foot (α := DPs ss) rfl (by decide) (gf := 37) (lb := #[.pointer (some ⟨w2.heap.size + 1, 0, none⟩)]) (by simp [go_sem]) trivial (enters_of Try.func37 (by kernel_rfl) rfl)
      (nearest_foot _ (w2.heap.size + 1) ss v w w3 hok hv L3 N3 (by omega)) (Below.refl _ _) (fun _ => rfl)
      (fun r => r = w2.heap.size) (fun r hr => by omega) (fun r hr => by rcases hr with h | h | h <;> omega)
      (RSt ss w w2.heap.size) (fun _ _ _ _ => False) (rst_own ss w w2.heap.size w3.heap.size (by omega) (by omega)) (fun _ _ _ _ _ _ hs _ _ => hs)
      (hst _ (.inl rfl)) (fun x => { tmps := #[.agg #[v], .pointer (some ⟨w.heap.size, 0, none⟩), .slice none 0 0, .pointer (some ⟨w2.heap.size, 0, none⟩), .int .i64 x.1.1, .agg #[v], .bool true, .bool false, .agg #[v], .func (.func 37) #[] #[.pointer (some ⟨w2.heap.size + 1, 0, none⟩)], .int .i64 x.1.1, .int .i64 x.1.2, undef, undef, undef, undef], defers := [] }) ?assign ?body ?done ?stop
    case assign =>
      intro l x W K hK
      gi_wp2
      exact hK
    case body =>
      rintro l pre x f W ⟨⟨bs, hb1, hb2, hb3⟩, hf, hbl⟩ hflt hfD _
      obtain ⟨i, k, e1, e2, hil, _⟩ := x.2
      have h12 := (procOk_parts hok).2.1
      obtain ⟨hc, hz⟩ := bools_cell hb2 i (by omega)
      have hi12 : (i : Int) < 12 := by omega
      have hi0 : (0 : Int) ≤ (i : Int) := by omega
      have HB2 : Hid (W.heap[w2.heap.size]? = some (.cells (bools bs).toArray 39 (0, 0))) := hb2
      clear hb2
      rw [e1]
      gi_wp2
      refine ⟨KeepsOthers.setCell _ _ _, f, Outside.grown (grown_setCell1 W w2.heap.size i (.bool true)) hflt (fun r e => by cases e; exact hf), ⟨bs.set i true, by simp [hb1], bools_set HB2.out i true, fun j => ?_⟩, hf, hbl.setCell (by simp; omega) _⟩
      rw [getDB_set bs i j true (by omega)]
      by_cases hji : j = i
      · subst hji
        simp only [if_true, true_iff]
        exact ⟨x, by simp, e1⟩
      · rw [if_neg hji, hb3 j]
        constructor
        · rintro ⟨p, hp, he⟩; exact ⟨p, by simp [hp], he⟩
        · rintro ⟨p, hp, he⟩
          rcases List.mem_append.1 hp with hp | hp
          · exact ⟨p, hp, he⟩
          · simp at hp; subst hp; rw [e1] at he; omega
    case done =>
      rintro D xs f W hD hS ⟨⟨bs, hb1, hb2, hb3⟩, hf, hbl⟩ hK
      have hAns : nums bs 0 = A := by
        refine sorted_ext _ _ (nums_sorted bs 0) hA.1 (fun x => ?_)
        rw [mem_nums, hA.2]
        constructor
        · rintro ⟨j, e, hj⟩
          obtain ⟨p, hp, he⟩ := (hb3 j).1 hj
          obtain ⟨i, k, e1, e2, _, _, hk, _⟩ := p.2
          rw [he] at e1
          obtain rfl : j = i := by omega
          exact ⟨j, by omega, k, hk⟩
        · rintro ⟨i, e, hi⟩
          exact ⟨i, by omega, (hb3 i).2 (hS i hi)⟩
      have hrd : Reads W (.slice (some ⟨w2.heap.size, 0, none⟩) 12 12) (bs.map .bool) := by
        refine ⟨some ⟨w2.heap.size, 0, none⟩, 12, by rw [List.length_map, hb1], fun j x hx => ⟨w2.heap.size, 0, rfl, ?_⟩⟩
        have hj : j < bs.length := by have := (List.getElem?_eq_some_iff.1 hx).1; simpa using this
        rw [Nat.zero_add, (bools_cell hb2 j hj).1, ← hx]
        simp [List.getD, hj]
      have hni := numbersIn bs _ W (by omega) hrd
      rw [hAns] at hni
      clear hb2 hrd
      gi_wp2
      refine ⟨trivial, ?_⟩
      refine (callsIn_wide.2 hni).mono ?_
      rintro e W5 ⟨u, rfl, own5, b5⟩
      have hDlt := (Array.getElem?_eq_some_iff.1 hK).1
      have hK5 := (b5.block D hDlt).trans hK
      have hbl5 := hbl.trans (b5.mono hbl.size)
      gi_wp2
      refine ⟨by simp, .inl ⟨_, _, rfl, run_takeDeferred hK5, ?_⟩⟩
      exact ⟨_, results_tmp rfl _ _ _, _, rfl, ownsRow_putObj (own_mono own5 hbl.size) _ hK5 rfl, hbl5.trans (belowK_b (w := w) (Nat.le_refl _) W5 D _ _ (by omega) hK5 rfl rfl)⟩
    case stop =>
      rintro D c pre f W _ _ h _
      exact h.elim

end Go.Proofs.Ytjlfmjoallnojac
