/-
  The state of impl.groupsOf in memory.
-/
import Derived.Test.YtmloeldgeegddaaSortF
import Derived.Test.YtmloeldgeegddaaImplReach9
namespace Go.Proofs.Ytmloeldgeegddaa
open Go.RowKit
set_option linter.unusedVariables false
set_option maxHeartbeats 1000000
set_option maxRecDepth 20000

/-- The lists that are told so far, from block B on. -/
structure GR (W : World) (B : Nat) (gv : Value) (L : List LV) : Prop where
  row : W.ownsRow B 30 1 gv L.length (L.map Prod.fst)
  each : ∀ x ∈ L, x.2 ≠ [] ∧ W.ownsRow B 2 1 x.1 x.2.length (nats x.2)
  ap : ApartSS (L.map Prod.fst)

theorem GR.same {W W' : World} {B : Nat} {gv : Value} {L : List LV} (h : GR W B gv L) (h1 : ∀ k, gv.ownBlock = some k → W'.heap[k]? = W.heap[k]?) (h2 : ∀ x ∈ L, ∀ k, x.1.ownBlock = some k → W'.heap[k]? = W.heap[k]?) : GR W' B gv L :=
  ⟨own_same h.row h1, fun x hx => ⟨(h.each x hx).1, own_same (h.each x hx).2 (h2 x hx)⟩, h.ap⟩

theorem GR.nil (W : World) (B : Nat) : GR W B (.slice none 0 0) [] := ⟨⟨by simp, .inl ⟨rfl, rfl⟩⟩, by simp, fun i j a b k _ h => by simp at h⟩

/-- The cells of the search; b: where they begin. -/
structure TSt (ps : List (List Stm)) (v : Value) (w : World) (b : Nat) (st : TS) (uv gv : Value) (L : List LV) (W : World) : Prop where
  cp : W.heap[b]? = some (.cells #[v] 26 (0, 0))
  cg : W.heap[b + 1]? = some (.cells #[gv] 52 (0, 0))
  cu : W.heap[b + 2]? = some (.cells #[uv] 30 (0, 0))
  ct : W.heap[b + 3]? = some (.cells #[.int .i64 (st.turns.getD 0 0 : Nat), .int .i64 (st.turns.getD 1 0 : Nat), .int .i64 (st.turns.getD 2 0 : Nat), .int .i64 (st.turns.getD 3 0 : Nat)] 124 (0, 0))
  cx : W.heap[b + 4]? = some (.cells #[.int .i64 (st.came : Int)] 3 (0, 0))
  ck : W.heap[b + 5]? = some (.cells #[.func (.func 108) #[] #[.pointer (some ⟨b + 4, 0, none⟩), .pointer (some ⟨b + 2, 0, none⟩), .pointer (some ⟨b + 3, 0, none⟩), .pointer (some ⟨b, 0, none⟩), .pointer (some ⟨b + 5, 0, none⟩), .pointer (some ⟨b + 1, 0, none⟩)]] 125 (0, 0))
  un : W.ownsRow (b + 6) 2 1 uv st.un.length (nats st.un)
  gr : GR W (b + 6) gv L
  ap : ∀ x ∈ L, ∀ k, x.1.ownBlock = some k → uv.ownBlock ≠ some k
  gs : L.map Prod.snd = st.groups
  below : Below w.heap.size w W
  hb : w.heap.size ≤ b

section
variable {ps : List (List Stm)} {v : Value} {w : World} {b : Nat} {st : TS} {uv gv : Value} {L : List LV} {W W' : World}

theorem TSt.size (h : TSt ps v w b st uv gv L W) : b + 6 ≤ W.heap.size := (Array.getElem?_eq_some_iff.1 h.ck).1

theorem TSt.kept (h : TSt ps v w b st uv gv L W) (hb : Below W.heap.size W W') : TSt ps v w b st uv gv L W' := by
  have hs := h.size
  exact ⟨(hb.block _ (by omega)).trans h.cp, (hb.block _ (by omega)).trans h.cg, (hb.block _ (by omega)).trans h.cu, (hb.block _ (by omega)).trans h.ct, (hb.block _ (by omega)).trans h.cx, (hb.block _ (by omega)).trans h.ck,
    own_kept h.un hb, h.gr.same (fun k hk => hb.block k (h.gr.row.lt k hk).2) (fun x hx k hk => hb.block k ((h.gr.each x hx).2.lt k hk).2), h.ap, h.gs, h.below.trans (hb.mono h.below.size), h.hb⟩

/-- A box is set. -/
theorem TSt.box (h : TSt ps v w b st uv gv L W) {q : Nat} (hq : q < b + 6) (hg : W.grownBy W' (some q)) : (∀ i, i < b + 6 → i ≠ q → W'.heap[i]? = W.heap[i]?) ∧ W'.ownsRow (b + 6) 2 1 uv st.un.length (nats st.un) ∧ GR W' (b + 6) gv L := by
  have hs := h.size
  refine ⟨fun i hi hne => hg.block i (by omega) (fun e => hne (by simpa using e)), own_same h.un (fun k hk => ?_), h.gr.same (fun k hk => ?_) (fun x hx k hk => ?_)⟩
  · have := h.un.lt k hk
    exact hg.block k this.2 (fun e => by simp at e; omega)
  · have := h.gr.row.lt k hk
    exact hg.block k this.2 (fun e => by simp at e; omega)
  · have := (h.gr.each x hx).2.lt k hk
    exact hg.block k this.2 (fun e => by simp at e; omega)

theorem TSt.belowG (h : TSt ps v w b st uv gv L W) {q : Nat} (hq : b ≤ q) (hg : W.grownBy W' (some q)) : Below w.heap.size w W' :=
  h.below.grown hg h.below.size (fun k e => by cases e; have := h.hb; omega)

theorem TSt.setX (h : TSt ps v w b st uv gv L W) (c : Nat) : TSt ps v w b { st with came := c } uv gv L (W.setCell ⟨b + 4, 0, none⟩ (.int .i64 (c : Int))) := by
  have hg := grown_setCell1 W (b + 4) 0 (.int .i64 (c : Int))
  obtain ⟨k, u, g⟩ := h.box (by omega) hg
  exact ⟨(k b (by omega) (by omega)).trans h.cp, (k _ (by omega) (by omega)).trans h.cg, (k _ (by omega) (by omega)).trans h.cu, (k _ (by omega) (by omega)).trans h.ct, one_set h.cx _, (k _ (by omega) (by omega)).trans h.ck, u, g, h.ap, h.gs, h.belowG (by omega) hg, h.hb⟩

theorem TSt.setT (h : TSt ps v w b st uv gv L W) {p : Nat} (hp : p < 4) (hl : st.turns.length = 4) (c : Nat) : TSt ps v w b { st with turns := st.turns.set p c } uv gv L (W.setCell ⟨b + 3, p, none⟩ (.int .i64 (c : Int))) := by
  have hg := grown_setCell1 W (b + 3) p (.int .i64 (c : Int))
  obtain ⟨k, u, g⟩ := h.box (by omega) hg
  refine ⟨(k b (by omega) (by omega)).trans h.cp, (k _ (by omega) (by omega)).trans h.cg, (k _ (by omega) (by omega)).trans h.cu, ?_, (k _ (by omega) (by omega)).trans h.cx, (k _ (by omega) (by omega)).trans h.ck, u, g, h.ap, h.gs, h.belowG (by omega) hg, h.hb⟩
  have := heap_setCell_same W (b + 3) p _ 124 (.int .i64 (c : Int)) h.ct
  simp only [set_getD (by rw [hl]; exact hp : p < st.turns.length)]
  have hc : p = 0 ∨ p = 1 ∨ p = 2 ∨ p = 3 := by omega
  rcases hc with rfl | rfl | rfl | rfl <;> simpa using this

/-- The list of those without a group is another one. -/
theorem TSt.setU (h : TSt ps v w b st uv gv L W) (hg : W.grownBy W' uv.ownBlock) {uv' : Value} {xs : List Nat} (hu : W'.ownsRow (b + 6) 2 1 uv' xs.length (nats xs)) (hn : ∀ k, uv'.ownBlock = some k → uv.ownBlock = some k ∨ W.heap.size ≤ k) : TSt ps v w b { st with un := xs } uv' gv L (W'.setCell ⟨b + 2, 0, none⟩ uv') := by
  have hs := h.size
  have hs' := hg.size
  have hlow : ∀ i, i < b + 6 → W'.heap[i]? = W.heap[i]? := fun i hi => hg.block i (by omega) (fun e => by have := (h.un.lt i e.symm).1; omega)
  have hg2 := grown_setCell1 W' (b + 2) 0 uv'
  have k2 : ∀ i, i < b + 6 → i ≠ b + 2 → (W'.setCell ⟨b + 2, 0, none⟩ uv').heap[i]? = W.heap[i]? := fun i hi hne => (hg2.block i (by omega) (fun e => hne (by simpa using e))).trans (hlow i hi)
  have hrow : ∀ k, gv.ownBlock = some k → (W'.setCell ⟨b + 2, 0, none⟩ uv').heap[k]? = W.heap[k]? := fun k hk => by
    have := h.gr.row.lt k hk
    exact (hg2.block k (by omega) (fun e => by simp at e; omega)).trans (hg.block k this.2 (fun e => row_kind h.gr.row h.un (by decide) hk e.symm))
  have hin : ∀ x ∈ L, ∀ k, x.1.ownBlock = some k → (W'.setCell ⟨b + 2, 0, none⟩ uv').heap[k]? = W.heap[k]? := fun x hx k hk => by
    have := (h.gr.each x hx).2.lt k hk
    exact (hg2.block k (by omega) (fun e => by simp at e; omega)).trans (hg.block k this.2 (fun e => h.ap x hx k hk e.symm))
  have hb' : Below w.heap.size w W' := h.below.grown hg h.below.size (fun k e => by have := (h.un.lt k e).1; have := h.hb; omega)
  refine ⟨(k2 b (by omega) (by omega)).trans h.cp, (k2 _ (by omega) (by omega)).trans h.cg, one_set ((hlow _ (by omega)).trans h.cu) _, (k2 _ (by omega) (by omega)).trans h.ct, (k2 _ (by omega) (by omega)).trans h.cx, (k2 _ (by omega) (by omega)).trans h.ck,
    ?_, h.gr.same hrow hin, fun x hx k hk e => ?_, h.gs, hb'.grown hg2 hb'.size (fun k e => by cases e; have := h.hb; omega), h.hb⟩
  · exact own_same hu (fun k hk => hg2.block k (hu.lt k hk).2 (fun e => by have := (hu.lt k hk).1; simp at e; omega))
  · rcases hn k e with h1 | h1
    · exact h.ap x hx k hk h1
    · have := ((h.gr.each x hx).2.lt k hk).2; omega

/-- One list more is told. -/
theorem TSt.setG (h : TSt ps v w b st uv gv L W) {x : LV} (hx0 : x.2 ≠ []) (hx : W.ownsRow (b + 6) 2 1 x.1 x.2.length (nats x.2)) (hxu : ∀ k, x.1.ownBlock = some k → uv.ownBlock ≠ some k) (hxl : ∀ y ∈ L, ∀ k, y.1.ownBlock = some k → x.1.ownBlock ≠ some k)
    (hg : W.grownBy W' gv.ownBlock) {gv' : Value} (hr : W'.ownsRow (b + 6) 30 1 gv' (L.length + 1) (L.map Prod.fst ++ [x.1])) (hn : ∀ k, gv'.ownBlock = some k → gv.ownBlock = some k ∨ W.heap.size ≤ k) :
    TSt ps v w b { st with groups := st.groups ++ [x.2] } uv gv' (L ++ [x]) (W'.setCell ⟨b + 1, 0, none⟩ gv') := by
  have hs := h.size
  have hs' := hg.size
  have hlow : ∀ i, i < b + 6 → W'.heap[i]? = W.heap[i]? := fun i hi => hg.block i (by omega) (fun e => by have := (h.gr.row.lt i e.symm).1; omega)
  have hg2 := grown_setCell1 W' (b + 1) 0 gv'
  have k2 : ∀ i, i < b + 6 → i ≠ b + 1 → (W'.setCell ⟨b + 1, 0, none⟩ gv').heap[i]? = W.heap[i]? := fun i hi hne => (hg2.block i (by omega) (fun e => hne (by simpa using e))).trans (hlow i hi)
  have keep : ∀ (u : Value) (xs : List Nat), W.ownsRow (b + 6) 2 1 u xs.length (nats xs) → (W'.setCell ⟨b + 1, 0, none⟩ gv').ownsRow (b + 6) 2 1 u xs.length (nats xs) := fun u xs ho => own_same ho (fun k hk => by
    have := ho.lt k hk
    exact (hg2.block k (by omega) (fun e => by simp at e; omega)).trans (hg.block k this.2 (fun e => row_kind ho h.gr.row (by decide) hk e.symm)))
  have hb' : Below w.heap.size w W' := h.below.grown hg h.below.size (fun k e => by have := (h.gr.row.lt k e).1; have := h.hb; omega)
  refine ⟨(k2 b (by omega) (by omega)).trans h.cp, one_set ((hlow _ (by omega)).trans h.cg) _, (k2 _ (by omega) (by omega)).trans h.cu, (k2 _ (by omega) (by omega)).trans h.ct, (k2 _ (by omega) (by omega)).trans h.cx, (k2 _ (by omega) (by omega)).trans h.ck,
    keep _ _ h.un, ⟨?_, fun y hy => ?_, ?_⟩, fun y hy k hk => ?_, by rw [List.map_append, h.gs]; rfl, hb'.grown hg2 hb'.size (fun k e => by cases e; have := h.hb; omega), h.hb⟩
  · rw [List.length_append, List.map_append]
    exact own_same hr (fun k hk => hg2.block k (hr.lt k hk).2 (fun e => by have := (hr.lt k hk).1; simp at e; omega))
  · rcases List.mem_append.1 hy with hy | hy
    · exact ⟨(h.gr.each y hy).1, keep _ _ (h.gr.each y hy).2⟩
    · obtain rfl : y = x := by simpa using hy
      exact ⟨hx0, keep _ _ hx⟩
  · intro i j a c k hne ha hc hk
    have get : ∀ (i : Nat) (a : Value), ((L ++ [x]).map Prod.fst)[i]? = some a → (i < L.length ∧ (L.map Prod.fst)[i]? = some a ∧ ∃ y ∈ L, y.1 = a) ∨ (i = L.length ∧ a = x.1) := fun i a hi => by
      rw [List.map_append] at hi
      rcases Nat.lt_or_ge i L.length with hl | hl
      · rw [List.getElem?_append_left (by simpa using hl)] at hi
        have hi' := hi
        rw [List.getElem?_map] at hi'
        obtain ⟨y, hy, e⟩ := Option.map_eq_some_iff.1 hi'
        exact .inl ⟨hl, hi, y, List.mem_of_getElem? hy, e⟩
      · rw [List.getElem?_append_right (by simpa using hl)] at hi
        have hlt := (List.getElem?_eq_some_iff.1 hi).1
        simp at hlt
        have e0 : i - (L.map Prod.fst).length = 0 := by simp; omega
        rw [e0] at hi
        simp at hi
        exact .inr ⟨by omega, hi.symm⟩
    rcases get i a ha with ⟨_, ga, y, hy, ey⟩ | ⟨ei, ea⟩ <;> rcases get j c hc with ⟨_, gc, z, hz, ez⟩ | ⟨ej, ec⟩
    · exact h.gr.ap i j a c k hne ga gc hk
    · rw [ec]; exact hxl y hy k (by rw [ey]; exact hk)
    · intro hk'
      rw [ea] at hk
      exact hxl z hz k (by rw [ez]; exact hk') hk
    · omega
  · rcases List.mem_append.1 hy with hy | hy
    · exact h.ap y hy k hk
    · obtain rfl : y = x := by simpa using hy
      exact hxu k hk

/-- What a piece of the search leaves alone. -/
structure Frm (b : Nat) (W : World) (uv gv : Value) (W' : World) (uv' gv' : Value) : Prop where
  size : W.heap.size ≤ W'.heap.size
  blk : ∀ k, k < W.heap.size → b + 6 ≤ k → uv.ownBlock ≠ some k → gv.ownBlock ≠ some k → W'.heap[k]? = W.heap[k]?
  ub : ∀ k, uv'.ownBlock = some k → uv.ownBlock = some k ∨ W.heap.size ≤ k
  gb : ∀ k, gv'.ownBlock = some k → gv.ownBlock = some k ∨ W.heap.size ≤ k

theorem Frm.refl (b : Nat) (W : World) (uv gv : Value) : Frm b W uv gv W uv gv := ⟨Nat.le_refl _, fun _ _ _ _ _ => rfl, fun _ h => .inl h, fun _ h => .inl h⟩

theorem Frm.trans {W'' : World} {uv' gv' uv'' gv'' : Value} (h : Frm b W uv gv W' uv' gv') (h' : Frm b W' uv' gv' W'' uv'' gv'') : Frm b W uv gv W'' uv'' gv'' := by
  refine ⟨Nat.le_trans h.size h'.size, fun k hk hb h1 h2 => ?_, fun k hk => ?_, fun k hk => ?_⟩
  · refine (h'.blk k (Nat.lt_of_lt_of_le hk h.size) hb (fun e => ?_) (fun e => ?_)).trans (h.blk k hk hb h1 h2)
    · rcases h.ub k e with e | e
      · exact h1 e
      · omega
    · rcases h.gb k e with e | e
      · exact h2 e
      · omega
  · rcases h'.ub k hk with e | e
    · exact h.ub k e
    · exact .inr (Nat.le_trans h.size e)
  · rcases h'.gb k hk with e | e
    · exact h.gb k e
    · exact .inr (Nat.le_trans h.size e)

theorem Frm.of_below (hb : Below W.heap.size W W') (b : Nat) (uv gv : Value) : Frm b W uv gv W' uv gv := ⟨hb.size, fun k hk _ _ _ => hb.block k hk, fun _ h => .inl h, fun _ h => .inl h⟩

theorem Frm.of_box {q : Nat} (hq : q < b + 6) (hg : W.grownBy W' (some q)) (uv gv : Value) : Frm b W uv gv W' uv gv := ⟨hg.size, fun k hk hb _ _ => hg.block k hk (fun e => by simp at e; omega), fun _ h => .inl h, fun _ h => .inl h⟩

/-- A row of numbers that nobody else has. -/
theorem Frm.row {uv' gv' : Value} (h : Frm b W uv gv W' uv' gv') (hG : W.ownsRow (b + 6) 30 1 gv L.length (L.map Prod.fst)) {B n : Nat} {u : Value} {xs : List Value} (ho : W.ownsRow B 2 1 u n xs) (hB : b + 6 ≤ B) (hne : ∀ k, u.ownBlock = some k → uv.ownBlock ≠ some k) :
    W'.ownsRow B 2 1 u n xs ∧ ∀ k, u.ownBlock = some k → uv'.ownBlock ≠ some k := by
  refine ⟨own_same ho (fun k hk => h.blk k (ho.lt k hk).2 (by have := (ho.lt k hk).1; omega) (hne k hk) (fun e => row_kind ho hG (by decide) hk e)), fun k hk e => ?_⟩
  rcases h.ub k e with e | e
  · exact hne k hk e
  · have := (ho.lt k hk).2; omega
end

end Go.Proofs.Ytmloeldgeegddaa
