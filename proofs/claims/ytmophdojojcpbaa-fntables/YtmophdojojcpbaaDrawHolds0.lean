/-
  spec.DrawHolds, ahead of its walk: tables of which only the kind is known.
-/
import Derived.Test.YtmophdojojcpbaaG30DrawProgs
import Derived.Test.YtmophdojojcpbaaDrawRel
import Derived.Test.YtmophdojojcpbaaG39FnKit
namespace Go.Proofs.Ytmophdojojcpbaa
open Go.RowKit
set_option linter.unusedVariables false

theorem tabA_len7 {ps : List (List Stm)} {c : Int} {T : List (List Int)} (h : TabA ps c T) : T.length ≤ 1000 ∧ ∀ xs ∈ T, xs.length ≤ 7 := by
  cases hb : okB ps c with
  | false => rw [h.2 hb]; simp
  | true =>
    obtain ⟨hl, ht⟩ := h.1 hb
    obtain ⟨_, _, _, h4⟩ := okB_parts hb
    refine ⟨by omega, fun xs hx => ?_⟩
    obtain ⟨j, hj, rfl⟩ := List.getElem_of_mem hx
    have := (ht.good j (by omega)).1
    have e : T.getD j [] = T[j] := by simp [List.getD, hj]
    rw [e] at this
    omega

/-- Block b holds numbers, the first m cells at least. -/
def IB (w : World) (b m : Nat) : Prop := ∃ C, w.heap[b]? = some (.cells C 2 (0, 0)) ∧ ∀ i, i < m → ∃ z : Int, C[i]? = some (.int .i64 z)
/-- A row of at most seven numbers. -/
def RwOk (w : World) (base : Nat) (x : Value) : Prop := ∃ a m c, x = .slice a m c ∧ m ≤ 7 ∧ (m = 0 ∨ ∃ b, a = some ⟨b, 0, none⟩ ∧ base ≤ b ∧ IB w b m)
/-- n such rows, in the block gt. -/
structure TbOk (w : World) (base gt n : Nat) : Prop where
  low : base ≤ gt
  blk : ∃ C, w.heap[gt]? = some (.cells C 36 (0, 0)) ∧ ∀ i, i < n → ∃ x, C[i]? = some x ∧ RwOk w base x

theorem blkH_ne {w : World} {a b : Nat} {c1 c2 : Array Value} {t1 t2 : TypeId} {z1 z2 : Nat × Nat} (h1 : w.heap[a]? = some (.cells c1 t1 z1)) (h2 : w.heap[b]? = some (.cells c2 t2 z2)) (ht : t1 ≠ t2) : a ≠ b := by
  rintro rfl
  rw [h1] at h2
  injection h2 with h2
  injection h2 with _ h3 _
  exact ht h3

theorem IB.same {w w' : World} {b m : Nat} (h : IB w b m) (he : w'.heap[b]? = w.heap[b]?) : IB w' b m := by
  obtain ⟨C, h1, h2⟩ := h
  exact ⟨C, he.trans h1, h2⟩
theorem IB.lt {w : World} {b m : Nat} (h : IB w b m) : b < w.heap.size := by
  obtain ⟨C, h1, _⟩ := h
  exact (Array.getElem?_eq_some_iff.1 h1).1
theorem IB.cell {w : World} {b m : Nat} (h : IB w b m) {i : Nat} (hi : i < m) : ∃ z : Int, w.cell? ⟨b, i, none⟩ = some (.int .i64 z) ∧ w.frozen? ⟨b, i, none⟩ = false := by
  obtain ⟨C, h1, h3⟩ := h
  obtain ⟨z, hz⟩ := h3 i hi
  exact ⟨z, by rw [cell_of_row w b i C _ (0, 0) h1]; exact hz, frozen_of_row w b i C _ h1⟩
theorem IB.put {w : World} {b m : Nat} (h : IB w b m) (i : Nat) (z : Int) : IB (w.setCell ⟨b, i, none⟩ (.int .i64 z)) b m := by
  obtain ⟨C, h1, h3⟩ := h
  refine ⟨C.setIfInBounds i (.int .i64 z), heap_setCell_same w b i C _ _ h1, fun k hk => ?_⟩
  obtain ⟨y, hy⟩ := h3 k hk
  by_cases e : i = k
  · subst e
    have : i < C.size := (Array.getElem?_eq_some_iff.1 hy).1
    exact ⟨z, by simp [this]⟩
  · exact ⟨y, by rw [Array.getElem?_setIfInBounds_ne e]; exact hy⟩
theorem IB.store {w : World} {b m b' m' : Nat} (h : IB w b m) (h' : IB w b' m') (i : Nat) (z : Int) : IB (w.setCell ⟨b', i, none⟩ (.int .i64 z)) b m := by
  by_cases e : b = b'
  · subst e; exact h.put i z
  · exact h.same (Below.heap_setCell _ _ _ _ e)

theorem RwOk.same {w w' : World} {base : Nat} {x : Value} (h : RwOk w base x) (hi : ∀ b m, base ≤ b → IB w b m → IB w' b m) : RwOk w' base x := by
  obtain ⟨a, m, c, e, h7, h8⟩ := h
  refine ⟨a, m, c, e, h7, ?_⟩
  rcases h8 with h8 | ⟨b, e2, hb, hI⟩
  · exact .inl h8
  · exact .inr ⟨b, e2, hb, hi b m hb hI⟩
theorem RwOk.reads {w : World} {base : Nat} {x : Value} (h : RwOk w base x) : ∃ xs : List Int, Reads w x (ints xs) ∧ xs.length ≤ 7 := by
  obtain ⟨a, m, c, rfl, h7, h8⟩ := h
  rcases h8 with rfl | ⟨b, rfl, hb, hI⟩
  · exact ⟨[], ⟨a, c, rfl, fun j x hx => by simp [ints] at hx⟩, by simp⟩
  · have each : ∀ i, i < m → ∃ z : Int, w.cell? ⟨b, i, none⟩ = some (.int .i64 z) := fun i hi => by
      obtain ⟨z, hz, _⟩ := hI.cell hi
      exact ⟨z, hz⟩
    refine ⟨(List.range m).map (fun i => if h : i < m then Classical.choose (each i h) else 0), ⟨some ⟨b, 0, none⟩, c, by simp [ints], fun j x hx => ⟨b, 0, rfl, ?_⟩⟩, by simpa using h7⟩
    have hj : j < m := by
      have := (List.getElem?_eq_some_iff.1 hx).1
      simpa [ints] using this
    have e : x = .int .i64 (Classical.choose (each j hj)) := by
      simp [ints, hj] at hx
      exact hx.symm
    rw [e, Nat.zero_add]
    exact Classical.choose_spec (each j hj)

theorem TbOk.cellT {w : World} {base gt n : Nat} (h : TbOk w base gt n) {i : Nat} (hi : i < n) : ∃ x, w.cell? ⟨gt, i, none⟩ = some x ∧ w.frozen? ⟨gt, i, none⟩ = false ∧ RwOk w base x := by
  obtain ⟨C, h1, h2⟩ := h.blk
  obtain ⟨x, hx, hr⟩ := h2 i hi
  exact ⟨x, by rw [cell_of_row w gt i C _ (0, 0) h1]; exact hx, frozen_of_row w gt i C _ h1, hr⟩
theorem TbOk.grown {w w' : World} {base gt n g : Nat} (h : TbOk w base gt n) (hg : w.grownBy w' (some g)) (hlt : g < base) : TbOk w' base gt n := by
  obtain ⟨C, h1, h2⟩ := h.blk
  have hl := h.low
  refine ⟨hl, C, (hg.block gt (Array.getElem?_eq_some_iff.1 h1).1 (by simp; omega)).trans h1, fun i hi => ?_⟩
  obtain ⟨x, hx, hr⟩ := h2 i hi
  exact ⟨x, hx, hr.same (fun b m hb hI => hI.same (hg.block b hI.lt (by simp; omega)))⟩
theorem TbOk.put {w : World} {base gt n b m : Nat} (h : TbOk w base gt n) (hI : IB w b m) (k : Nat) (z : Int) : TbOk (w.setCell ⟨b, k, none⟩ (.int .i64 z)) base gt n := by
  obtain ⟨C, h1, h2⟩ := h.blk
  obtain ⟨C', h1', _⟩ := id hI
  have hne : gt ≠ b := blkH_ne h1 h1' (by decide)
  refine ⟨h.low, C, (Below.heap_setCell _ _ _ _ hne).trans h1, fun i hi => ?_⟩
  obtain ⟨x, hx, hr⟩ := h2 i hi
  exact ⟨x, hx, hr.same (fun b' m' _ hI' => hI'.store hI k z)⟩

/-- What is drawn last: one row more, whatever it is. -/
theorem TbOk.tables {w : World} {base gt n c : Nat} (h : TbOk w base gt n) : ∃ X : List (List Int), ReadsSS w (.slice (some ⟨gt, 0, none⟩) n c) X ∧ X.length = n ∧ ∀ x ∈ X, x.length ≤ 7 := by
  have each : ∀ i, i < n → ∃ p : List Int, ∃ u, w.cell? ⟨gt, i, none⟩ = some u ∧ Reads w u (ints p) ∧ p.length ≤ 7 := fun i hi => by
    obtain ⟨x, h1, _, h3⟩ := h.cellT hi
    obtain ⟨p, h4, h5⟩ := h3.reads
    exact ⟨p, x, h1, h4, h5⟩
  refine ⟨(List.range n).map (fun i => if h : i < n then Classical.choose (each i h) else []), ⟨some ⟨gt, 0, none⟩, c, by simp, fun j xs hx => ?_⟩, by simp, fun x hx => ?_⟩
  · have hj : j < n := by
      have := (List.getElem?_eq_some_iff.1 hx).1
      simpa using this
    simp [hj] at hx
    obtain ⟨u, h1, h2, _⟩ := Classical.choose_spec (each j hj)
    exact ⟨gt, 0, u, rfl, by rw [Nat.zero_add]; exact h1, by rw [← hx]; exact h2⟩
  · simp at hx
    obtain ⟨i, hi, rfl⟩ := hx
    rw [dif_pos hi]
    obtain ⟨u, _, _, h3⟩ := Classical.choose_spec (each i hi)
    exact h3

theorem rwOk_own {w : World} {base : Nat} {u : Value} {xs : List Int} (h : w.ownsRow base 2 1 u xs.length (ints xs)) (h7 : xs.length ≤ 7) : RwOk w base u := by
  have h' := h
  rcases h.2 with ⟨rfl, h0⟩ | ⟨g, cap, cur, rfl, hbg, hg, _⟩
  · exact ⟨none, 0, 0, rfl, by omega, .inl rfl⟩
  · refine ⟨some ⟨g, 0, none⟩, xs.length, cap, rfl, h7, .inr ⟨g, rfl, hbg, cur, hg, fun i hi => ?_⟩⟩
    have e := h'.cellAt i (by omega)
    rw [cell_of_row w g i cur _ (0, 0) hg] at e
    exact ⟨xs[i], by rw [e]; simp [ints, hi]⟩

theorem tbOk_own {w : World} {base gt c : Nat} {us : List Value} {A : List (List Int)} (h : OwnSS w base (.slice (some ⟨gt, 0, none⟩) A.length c) us A) (h7 : ∀ x ∈ A, x.length ≤ 7) : TbOk w base gt A.length := by
  have hat := fun j hj => h.at (j := j) hj
  rcases h.row.2 with ⟨e, h0⟩ | ⟨g, cap, cur, e, hbg, hg, _⟩
  · cases e
  · injection e with e1 e2 e3
    injection e1 with e1
    injection e1 with e1
    subst e1
    refine ⟨hbg, cur, hg, fun i hi => ?_⟩
    obtain ⟨u, _, h1, h2⟩ := hat i hi
    rw [cell_of_row w gt i cur _ (0, 0) hg] at h1
    exact ⟨u, h1, rwOk_own h2 (h7 _ (List.getElem_mem hi))⟩

/-- Tables that are only read from here on. -/
structure TvOk (w : World) (base gt n : Nat) : Prop where
  low : base ≤ gt
  each : ∀ i, i < n → ∃ (x : Value) (xs : List Int), w.cell? ⟨gt, i, none⟩ = some x ∧ ReadsFrom w base x (ints xs) ∧ xs.length ≤ 7
theorem RwOk.from {w : World} {base : Nat} {x : Value} (h : RwOk w base x) : ∃ xs : List Int, ReadsFrom w base x (ints xs) ∧ xs.length ≤ 7 := by
  obtain ⟨xs, hr, h7⟩ := h.reads
  obtain ⟨a, m, c, rfl, _, h8⟩ := h
  refine ⟨xs, ?_, h7⟩
  obtain ⟨ao, cap, e, hc⟩ := hr
  refine ⟨ao, cap, e, fun j y hy => ?_⟩
  obtain ⟨g, off, h1, h2⟩ := hc j y hy
  rcases h8 with h8 | ⟨b, hb1, hb2, _⟩
  · have hj := (List.getElem?_eq_some_iff.1 hy).1
    injection e with _ e2 _
    rw [← e2] at hj
    omega
  · injection e with e1 _ _
    rw [← e1, hb1] at h1
    injection h1 with h1
    injection h1 with h1 h3 h4
    subst h1
    subst h3
    exact ⟨b, 0, by rw [← e1, hb1], hb2, h2⟩
theorem TbOk.tv {w : World} {base gt n : Nat} (h : TbOk w base gt n) : TvOk w base gt n := ⟨h.low, fun i hi => by
  obtain ⟨x, h1, _, h3⟩ := h.cellT hi
  obtain ⟨xs, h4, h5⟩ := h3.from
  exact ⟨x, xs, h1, h4, h5⟩⟩
theorem TvOk.grown {w w' : World} {base gt n g : Nat} (h : TvOk w base gt n) (hg : w.grownBy w' (some g)) (hlt : g < base) : TvOk w' base gt n := ⟨h.low, fun i hi => by
  obtain ⟨x, xs, h1, h2, h3⟩ := h.each i hi
  have := h.low
  exact ⟨x, xs, hg.cell h1 (by simp; omega), h2.grown hg hlt, h3⟩⟩
theorem TvOk.tables {w : World} {base gt n c : Nat} (h : TvOk w base gt n) : ∃ X : List (List Int), ReadsSS w (.slice (some ⟨gt, 0, none⟩) n c) X ∧ X.length = n ∧ ∀ x ∈ X, x.length ≤ 7 := by
  have each : ∀ i, i < n → ∃ p : List Int, ∃ u, w.cell? ⟨gt, i, none⟩ = some u ∧ Reads w u (ints p) ∧ p.length ≤ 7 := fun i hi => by
    obtain ⟨x, xs, h1, h2, h3⟩ := h.each i hi
    exact ⟨xs, x, h1, h2.reads, h3⟩
  refine ⟨(List.range n).map (fun i => if h : i < n then Classical.choose (each i h) else []), ⟨some ⟨gt, 0, none⟩, c, by simp, fun j xs hx => ?_⟩, by simp, fun x hx => ?_⟩
  · have hj : j < n := by
      have := (List.getElem?_eq_some_iff.1 hx).1
      simpa using this
    simp [hj] at hx
    obtain ⟨u, h1, h2, _⟩ := Classical.choose_spec (each j hj)
    exact ⟨gt, 0, u, rfl, by rw [Nat.zero_add]; exact h1, by rw [← hx]; exact h2⟩
  · simp at hx
    obtain ⟨i, hi, rfl⟩ := hx
    rw [dif_pos hi]
    obtain ⟨u, _, _, h3⟩ := Classical.choose_spec (each i hi)
    exact h3
/-- One row is laid anew. -/
theorem TbOk.putRow {w : World} {base base' gt n k : Nat} {v : Value} {xs : List Int} (h : TbOk w base gt n) (hk : k < n) (hv : ReadsFrom w base' v (ints xs)) (h7 : xs.length ≤ 7) (hb : gt < base') (hb' : base ≤ base') : TvOk (w.setCell ⟨gt, k, none⟩ v) base gt n := by
  obtain ⟨C, h1, h2⟩ := h.blk
  have gs := grown_setCell7 w gt k v
  refine ⟨h.low, fun i hi => ?_⟩
  by_cases e : i = k
  · subst e
    obtain ⟨x, hx, _⟩ := h2 i hi
    have hlt : i < C.size := (Array.getElem?_eq_some_iff.1 hx).1
    refine ⟨v, xs, ?_, (hv.grown gs hb).mono hb', h7⟩
    rw [cell_of_row _ gt i _ _ (0, 0) (heap_setCell_same w gt i C _ v h1)]
    simp [hlt]
  · obtain ⟨x, hx, hr⟩ := h2 i hi
    have hr' : RwOk (w.setCell ⟨gt, k, none⟩ v) base x := hr.same (fun b m _ hI => by
      obtain ⟨C', hc', _⟩ := id hI
      exact hI.same (Below.heap_setCell _ _ _ _ (fun e => blkH_ne h1 hc' (by decide) e.symm)))
    obtain ⟨ys, h4, h5⟩ := hr'.from
    refine ⟨x, ys, ?_, h4, h5⟩
    rw [cell_of_row _ gt i _ _ (0, 0) (heap_setCell_same w gt k C _ v h1), Array.getElem?_setIfInBounds_ne (fun e' => e e'.symm)]
    exact hx

/-- What DrawHolds holds between its steps: all but the cursor is as it was when the tables were asked for, and the tables. -/
structure HB (w3 : World) (g : Nat) (bs : List Int) (ta : Option Addr) (n : Nat) (W : World) : Prop where
  cur : Cur W g bs
  gr : w3.grownBy W (some g)
  tb : n = 0 ∨ ∃ gt, ta = some ⟨gt, 0, none⟩ ∧ TbOk W w3.heap.size gt n
theorem HB.step {w3 : World} {g : Nat} {bs : List Int} {ta : Option Addr} {n : Nat} {W W' : World} (h : HB w3 g bs ta n W) (hlt : g < w3.heap.size) (hg : W.grownBy W' (some g)) (hc : Cur W' g bs) : HB w3 g bs ta n W' :=
  ⟨hc, grown_trans h.gr hg, h.tb.imp id (fun ⟨gt, e, ht⟩ => ⟨gt, e, ht.grown hg hlt⟩)⟩
theorem HB.below {w3 : World} {g : Nat} {bs : List Int} {ta : Option Addr} {n : Nat} {W W' : World} (h : HB w3 g bs ta n W) (hlt : g < w3.heap.size) (hb : Below W.heap.size W W') : HB w3 g bs ta n W' :=
  h.step hlt (grown_of_below hb (some g)) (cur_below h.cur hb)
theorem HB.put {w3 : World} {g gt b m : Nat} {bs : List Int} {n : Nat} {W : World} (h : HB w3 g bs (some ⟨gt, 0, none⟩) n W) (hlt : g < w3.heap.size) (hI : IB W b m) (hb : w3.heap.size ≤ b) (k : Nat) (z : Int) : HB w3 g bs (some ⟨gt, 0, none⟩) n (W.setCell ⟨b, k, none⟩ (.int .i64 z)) := by
  have gs := grown_setCell7 W b k (.int .i64 z)
  refine ⟨cur_grown h.cur gs (fun k e => by simp at e; omega), grownRow h.gr gs (fun k e => by simp at e; omega), ?_⟩
  rcases h.tb with h0 | ⟨gt', e, ht⟩
  · exact .inl h0
  · exact .inr ⟨gt', e, ht.put hI k z⟩
/-- What is answered. -/
theorem hold_ends {w w3 W : World} {g P base1 : Nat} {u : Value} {L : List Nat} (lt1 : w.heap.size < g) (hgb : g < base1) (pr3 : PrOk w3 base1 u L) (P3 : w3.heap[P]? = some (.cells #[u] 26 (0, 0))) (hP : g < P)
    (R3 : w3.heap[w.heap.size]? = some (.cells #[.slice none 0 0] 26 (0, 0))) (L3 : Below w.heap.size w w3) (gr : w3.grownBy W (some g)) :
    (W.cell? ⟨P, 0, none⟩ = some u ∧ W.cell? ⟨w.heap.size, 0, none⟩ = some (.slice none 0 0) ∧ W.frozen? ⟨w.heap.size, 0, none⟩ = false) ∧ PrOk (W.setCell ⟨w.heap.size, 0, none⟩ u) w.heap.size u L ∧ Below w.heap.size w (W.setCell ⟨w.heap.size, 0, none⟩ u) ∧ (W.setCell ⟨w.heap.size, 0, none⟩ u).cell? ⟨w.heap.size, 0, none⟩ = some u := by
  have PW := blockGrown P3 gr hP
  have RW := (gr.block w.heap.size (Array.getElem?_eq_some_iff.1 R3).1 (by simp; omega)).trans R3
  have LW : Below w.heap.size w W := L3.grown gr L3.size (fun k e => by simp at e; omega)
  have prW := pr3.grown gr (fun k e => by cases e; omega)
  obtain ⟨c1, f1⟩ := oneCell RW
  exact ⟨⟨(oneCell PW).1, c1, f1⟩, prW.answered (by omega), LW.setCell (by simp) _, (oneCell (one_set' RW u)).1⟩

end Go.Proofs.Ytmophdojojcpbaa
