/-
  Put together out of: DrawFlow, DrawProc4.
-/
import Derived.Test.YtgandekciocalaaDrawStm
import Derived.Test.YtgandekciocalaaG08RelM
import Derived.Test.YtgandekciocalaaSpecFlow
import Derived.Test.YtgandekciocalaaDrawProc
import Derived.Deep.RegionHeld3
import Derived.Deep.DrawnRows
/-
  spec.l7DrawClient, DrawFlow, DrawEnter: clients and statements that are drawn.
-/
namespace Go.Proofs.Ytgandekciocalaa
open Go.RowKit
set_option linter.unusedVariables false
set_option maxHeartbeats 2000000

theorem belowSet {base : Nat} {w0 w : World} (h : Below base w0 w) (b o : Nat) (v : Value) (hb : base ≤ b) : Below base w0 (w.setCell ⟨b, o, none⟩ v) := h.setCell hb v

theorem l7DrawClient (g : Nat) (bs : List Int) (w : World) (hl : bs.length ≤ 1048576) (hc : Cur w g bs) :
    Calls Try.prog 29 #[.pointer (some ⟨g, 0, none⟩)] w fun e w' => ∃ x : Int, e = .returned (.int .i64 x) ∧ Cur w' g bs ∧ w.grownBy w' (some g) := by
  go_enter Try.func29, Try.ntmps29
  go_wp2_with fail
  go_at_call 33
  refine (l1Once g bs 14 (by omega) w hl hc).mono ?_
  rintro e w1 ⟨b, rfl, hc1, g1⟩
  cases b
  · go_wp2_with fail
    go_at_call 34
    refine (l1Below g bs 2 (by omega) w1 hl hc1).mono ?_
    rintro e w2 ⟨x, rfl, hx0, hx1, _, hc2, g2⟩
    have hx2 : x < 2 := hx1 (by omega)
    go_wp2
    go_ret
    exact ⟨_, rfl, hc2, grown_trans g1 g2⟩
  · have hcA := curAlloc hc1 (.cells #[.int .i64 0, .int .i64 3, .int .i64 (-1)] 2)
    have HA := heap_alloc_new w1 (.cells #[.int .i64 0, .int .i64 3, .int .i64 (-1)] 2)
    have gA := World.grownBy_alloc w1 (.cells #[.int .i64 0, .int .i64 3, .int .i64 (-1)] 2) (some g)
    have hgl := curLt hc1
    go_wp2_with fail
    go_at_call 34
    refine (l1Below g bs 3 (by omega) _ hl hcA).mono ?_
    rintro e w2 ⟨x, rfl, hx0, hx1, _, hc2, g2⟩
    have hx2 : x < 3 := hx1 (by omega)
    have H2 := blockGrown HA g2 hgl
    obtain ⟨c0, c1, c2⟩ := stmt_cells H2
    have hcs : x = 0 ∨ x = 1 ∨ x = 2 := by omega
    clear HA hcA
    rcases hcs with rfl | rfl | rfl
    all_goals
      go_wp2
      go_ret
      exact ⟨_, rfl, hc2, grown_trans g1 (grown_trans gA g2)⟩

end Go.Proofs.Ytgandekciocalaa

/-
  spec.l4DrawProc: some Proc in rows of its own.
-/
namespace Go.Proofs.Ytgandekciocalaa
open Go.RowKit
set_option linter.unusedVariables false
set_option maxHeartbeats 2000000
attribute [local go_sem ↓] Go.wp_at_zero Go.wp_at_succ

theorem cells3_set : ∀ (ss : List Stm) (k : Nat) (s : Stm), k < ss.length → (((cells3 ss).set (k * 3) (.int .i64 s.k)).set (k * 3 + 1) (.int .i64 s.x)).set (k * 3 + 2) (.int .i64 s.y) = cells3 (ss.set k s)
  | [], k, s, h => by simp at h
  | t :: ss, 0, s, _ => by simp [cells3]
  | t :: ss, k + 1, s, h => by
    have ih := cells3_set ss k s (by simpa using h)
    have e : (k + 1) * 3 = k * 3 + 1 + 1 + 1 := by omega
    simp only [e, cells3, List.set_cons_succ]
    rw [← ih]

theorem cells3_setK (t : Stm) (ss : List Stm) (q : Int) : (cells3 (t :: ss)).set 0 (.int .i64 q) = cells3 (⟨q, t.x, t.y⟩ :: ss) := by simp [cells3]

theorem one_set' {w : World} {b : Nat} {x : Value} {T : TypeId} (h : w.heap[b]? = some (.cells #[x] T (0, 0))) (y : Value) : (w.setCell ⟨b, 0, none⟩ y).heap[b]? = some (.cells #[y] T (0, 0)) := by
  have h1 := heap_setCell_same w b 0 _ T y h
  simpa using h1

/-- What l4DrawProc has between its steps. -/
structure DSt (g R S : Nat) (bs : List Int) (u : Value) (w : World) (ss : List Stm) (wr : World) : Prop where
  n1 : 1 ≤ ss.length
  n7 : ss.length ≤ 7
  own : wr.ownsRow (R + 1) 43 3 u ss.length (cells3 ss)
  cur : Cur wr g bs
  grown : w.grownBy wr (some g)
  res : wr.heap[R]? = some (.cells #[.slice none 0 0] 49 (0, 0))
  box : wr.heap[S]? = some (.cells #[u] 49 (0, 0))
  ne : ∀ k, u.ownBlock = some k → k ≠ S

theorem DSt.cells {g R S : Nat} {bs : List Int} {u : Value} {w : World} {ss : List Stm} {wr : World} (h : DSt g R S bs u w ss wr) : ∃ gu cap, u = .slice (some ⟨gu, 0, none⟩) ss.length cap ∧ R < gu ∧ gu ≠ S ∧ gu < wr.heap.size ∧ ∀ j, j < ss.length * 3 → (∃ x, wr.cell? ⟨gu, j, none⟩ = some x) ∧ wr.frozen? ⟨gu, j, none⟩ = false := by
  rcases h.own.2 with ⟨_, h0⟩ | ⟨gu, cap, cur, rfl, hb, hg, _⟩
  · have := h.n1; omega
  · exact ⟨gu, cap, rfl, by omega, h.ne gu rfl, (h.own.lt gu rfl).2, fun j hj => ⟨own_cell h.own j hj, h.own.frozenAt j⟩⟩

theorem DSt.cellAt {g R S : Nat} {bs : List Int} {gu cap n : Nat} {w : World} {ss : List Stm} {wr : World} (h : DSt g R S bs (.slice (some ⟨gu, 0, none⟩) n cap) w ss wr) (hn : ss.length = n) (j : Nat) (hj : j < n * 3) : (∃ x, wr.cell? ⟨gu, j, none⟩ = some x) ∧ wr.frozen? ⟨gu, j, none⟩ = false := by
  subst hn
  exact ⟨own_cell h.own j hj, h.own.frozenAt j⟩

/-- A statement is laid into the row. -/
theorem DSt.put {g R S : Nat} {bs : List Int} {gu cap : Nat} {w : World} {ss : List Stm} {wr : World} (h : DSt g R S bs (.slice (some ⟨gu, 0, none⟩) ss.length cap) w ss wr) (hgR : g < R) (hR : R = w.heap.size) (k : Nat) (hk : k < ss.length) (s : Stm) :
    DSt g R S bs (.slice (some ⟨gu, 0, none⟩) ss.length cap) w (ss.set k s) (((wr.setCell ⟨gu, k * 3, none⟩ (.int .i64 s.k)).setCell ⟨gu, k * 3 + 1, none⟩ (.int .i64 s.x)).setCell ⟨gu, k * 3 + 2, none⟩ (.int .i64 s.y)) := by
  have hgu := (h.own.lt gu rfl).1
  have hne := h.ne gu rfl
  have o3 := (((h.own.stored (k * 3) (.int .i64 s.k)).1.stored (k * 3 + 1) (.int .i64 s.x)).1.stored (k * 3 + 2) (.int .i64 s.y)).1
  rw [cells3_set ss k s hk] at o3
  refine ⟨by simpa using h.n1, by simpa using h.n7, by simpa using o3, curSet (curSet (curSet h.cur (by omega) _) (by omega) _) (by omega) _, grownSet (grownSet (grownSet h.grown (by omega) _) (by omega) _) (by omega) _, ?_, ?_, fun k' hk' => h.ne k' hk'⟩
  · rw [Below.heap_setCell _ _ _ _ (by simp; omega), Below.heap_setCell _ _ _ _ (by simp; omega), Below.heap_setCell _ _ _ _ (by simp; omega)]; exact h.res
  · rw [Below.heap_setCell _ _ _ _ (by simp; omega), Below.heap_setCell _ _ _ _ (by simp; omega), Below.heap_setCell _ _ _ _ (by simp; omega)]; exact h.box

theorem DSt.putK {g R S : Nat} {bs : List Int} {gu cap : Nat} {w : World} {ss : List Stm} {wr : World} (h : DSt g R S bs (.slice (some ⟨gu, 0, none⟩) ss.length cap) w ss wr) (hgR : g < R) (hR : R = w.heap.size) (q : Int) :
    ∃ ss' : List Stm, ss'.length = ss.length ∧ DSt g R S bs (.slice (some ⟨gu, 0, none⟩) ss.length cap) w ss' (wr.setCell ⟨gu, 0, none⟩ (.int .i64 q)) := by
  have hgu := (h.own.lt gu rfl).1
  have hne := h.ne gu rfl
  have hn1 := h.n1
  have hn7 := h.n7
  cases ss with
  | nil => simp at hn1
  | cons t ss =>
    have o3 := (h.own.stored 0 (.int .i64 q)).1
    rw [cells3_setK] at o3
    refine ⟨⟨q, t.x, t.y⟩ :: ss, by simp, by simp, by simpa using hn7, by simpa using o3, curSet h.cur (by omega) _, grownSet h.grown (by omega) _, ?_, ?_, fun k' hk' => h.ne k' hk'⟩
    · rw [Below.heap_setCell _ _ _ _ (by simp; omega)]; exact h.res
    · rw [Below.heap_setCell _ _ _ _ (by simp; omega)]; exact h.box

theorem DSt.putN {g R S : Nat} {bs : List Int} {gu cap n : Nat} {w : World} {ss : List Stm} {wr : World} (h : DSt g R S bs (.slice (some ⟨gu, 0, none⟩) n cap) w ss wr) (hn : ss.length = n) (hgR : g < R) (hR : R = w.heap.size) (k : Nat) (hk : k < n) (s : Stm) :
    ∃ ss' : List Stm, ss'.length = n ∧ DSt g R S bs (.slice (some ⟨gu, 0, none⟩) n cap) w ss' (((wr.setCell ⟨gu, k * 3, none⟩ (.int .i64 s.k)).setCell ⟨gu, k * 3 + 1, none⟩ (.int .i64 s.x)).setCell ⟨gu, k * 3 + 2, none⟩ (.int .i64 s.y)) := by
  subst hn
  exact ⟨ss.set k s, by simp, h.put hgR hR k hk s⟩

theorem DSt.putKN {g R S : Nat} {bs : List Int} {gu cap n : Nat} {w : World} {ss : List Stm} {wr : World} (h : DSt g R S bs (.slice (some ⟨gu, 0, none⟩) n cap) w ss wr) (hn : ss.length = n) (hgR : g < R) (hR : R = w.heap.size) (q : Int) :
    ∃ ss' : List Stm, ss'.length = n ∧ DSt g R S bs (.slice (some ⟨gu, 0, none⟩) n cap) w ss' (wr.setCell ⟨gu, 0, none⟩ (.int .i64 q)) := by
  subst hn
  exact h.putK hgR hR q

/-- The cursor's block alone has turned. -/
theorem DSt.step {g R S : Nat} {bs : List Int} {u : Value} {w : World} {ss : List Stm} {wr wr' : World} (h : DSt g R S bs u w ss wr) (hgR : g < R) (hgS : g < S) (hg : wr.grownBy wr' (some g)) (hc : Cur wr' g bs) : DSt g R S bs u w ss wr' where
  n1 := h.n1
  n7 := h.n7
  own := own_grown h.own hg (fun k hk e => by have := (h.own.lt k hk).1; simp at e; omega)
  cur := hc
  grown := grown_trans h.grown hg
  res := blockGrown h.res hg hgR
  box := blockGrown h.box hg hgS
  ne := h.ne

end Go.Proofs.Ytgandekciocalaa
