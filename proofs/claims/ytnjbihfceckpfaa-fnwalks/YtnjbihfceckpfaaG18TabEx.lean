/-
 Put together out of: DrawFlow, DrawProc4, DrawProgs, TabEx.
-/
import Derived.Test.YtnjbihfceckpfaaDrawStm
import Derived.Test.YtnjbihfceckpfaaG05RelM
import Derived.Test.YtnjbihfceckpfaaG10SpecFlow
import Derived.Test.YtnjbihfceckpfaaG03DrawProc
import Derived.Deep.RegionHeld3
import Derived.Deep.DrawnRows
import Derived.Test.YtnjbihfceckpfaaDrawAny
import Derived.Test.YtnjbihfceckpfaaTabM
/-
 spec.l7DrawClient, DrawFlow, DrawEnter: clients and statements that are drawn.
-/
namespace Go.Proofs.Ytnjbihfceckpfaa
open Go.RowKit
set_option linter.unusedVariables false
set_option maxHeartbeats 2000000

theorem l7DrawClient (g : Nat) (bs : List Int) (w : World) (hl : bs.length ≤ 1048576) (hc : Cur w g bs) :
 Calls Try.prog 62 #[.pointer (some ⟨g, 0, none⟩)] w fun e w' => ∃ x : Int, e = .returned (.int .i64 x) ∧ Cur w' g bs ∧ w.grownBy w' (some g) := by
 go_enter Try.func62, Try.ntmps62
 go_wp2_with fail
 go_at_call 85
 refine (l1Once g bs 14 (by omega) w hl hc).mono ?_
 rintro e w1 ⟨b, rfl, hc1, g1⟩
 cases b
 · go_wp2_with fail
   go_at_call 86
   refine (l1Below g bs 2 (by omega) w1 hl hc1).mono ?_
   rintro e w2 ⟨x, rfl, hx0, hx1, _, hc2, g2⟩
   have hx2 : x < 2 := hx1 (by omega)
   go_wp2
   go_ret
   exact ⟨_, rfl, hc2, grown_trans g1 g2⟩
 · have hcA := curAlloc hc1 (.cells #[.int .i64 0, .int .i64 3, .int .i64 (-1)] 2)
   have HA := heap_alloc_new w1 (.cells #[.int .i64 0, .int .i64 3, .int .i64 (-1)] 2)
   have gA := World.grownBy_alloc w1 (.cells #[.int .i64 0, .int .i64 3, .int .i64 (-1)] 2) (some g)
   have hgl := curLt hc1
   go_wp2_with fail
   go_at_call 86
   refine (l1Below g bs 3 (by omega) _ hl hcA).mono ?_
   rintro e w2 ⟨x, rfl, hx0, hx1, _, hc2, g2⟩
   have hx2 : x < 3 := hx1 (by omega)
   have H2 := blockGrown HA g2 hgl
   obtain ⟨c0, c1, c2⟩ := stmt_cells H2
   have hcs : x = 0 ∨ x = 1 ∨ x = 2 := by omega
   clear HA hcA
   rcases hcs with rfl | rfl | rfl
   all_goals
    go_wp2
    go_ret
    exact ⟨_, rfl, hc2, grown_trans g1 (grown_trans gA g2)⟩

end Go.Proofs.Ytnjbihfceckpfaa

/-
 spec.l4DrawProc: some Proc in rows of its own.
-/
namespace Go.Proofs.Ytnjbihfceckpfaa
open Go.RowKit
set_option linter.unusedVariables false
set_option maxHeartbeats 2000000
attribute [local go_sem ↓] Go.wp_at_zero Go.wp_at_succ

theorem cells3_set : ∀ (ss : List Stm) (k : Nat) (s : Stm), k < ss.length → (((cells3 ss).set (k * 3) (.int .i64 s.k)).set (k * 3 + 1) (.int .i64 s.x)).set (k * 3 + 2) (.int .i64 s.y) = cells3 (ss.set k s)
 | [], k, s, h => by simp at h
 | t :: ss, 0, s, _ => by simp [cells3]
 | t :: ss, k + 1, s, h => by
  have ih := cells3_set ss k s (by simpa using h)
  have e : (k + 1) * 3 = k * 3 + 1 + 1 + 1 := by omega
  simp only [e, cells3, List.set_cons_succ]
  rw [← ih]

theorem one_set' {w : World} {b : Nat} {x : Value} {T : TypeId} (h : w.heap[b]? = some (.cells #[x] T (0, 0))) (y : Value) : (w.setCell ⟨b, 0, none⟩ y).heap[b]? = some (.cells #[y] T (0, 0)) := by
 have h1 := heap_setCell_same w b 0 _ T y h
 simpa using h1

/-- What l4DrawProc has between its steps. -/
structure DSt (g R S : Nat) (bs : List Int) (u : Value) (w : World) (ss : List Stm) (wr : World) : Prop where
 n1 : 1 ≤ ss.length
 n7 : ss.length ≤ 7
 own : wr.ownsRow (R + 1) 92 3 u ss.length (cells3 ss)
 cur : Cur wr g bs
 grown : w.grownBy wr (some g)
 res : wr.heap[R]? = some (.cells #[.slice none 0 0] 81 (0, 0))
 box : wr.heap[S]? = some (.cells #[u] 81 (0, 0))
 ne : ∀ k, u.ownBlock = some k → k ≠ S

theorem DSt.cells {g R S : Nat} {bs : List Int} {u : Value} {w : World} {ss : List Stm} {wr : World} (h : DSt g R S bs u w ss wr) : ∃ gu cap, u = .slice (some ⟨gu, 0, none⟩) ss.length cap ∧ R < gu ∧ gu ≠ S ∧ gu < wr.heap.size ∧ ∀ j, j < ss.length * 3 → (∃ x, wr.cell? ⟨gu, j, none⟩ = some x) ∧ wr.frozen? ⟨gu, j, none⟩ = false := by
 rcases h.own.2 with ⟨_, h0⟩ | ⟨gu, cap, cur, rfl, hb, hg, _⟩
 · have := h.n1; omega
 · exact ⟨gu, cap, rfl, by omega, h.ne gu rfl, (h.own.lt gu rfl).2, fun j hj => ⟨own_cell h.own j hj, h.own.frozenAt j⟩⟩

theorem DSt.cellAt {g R S : Nat} {bs : List Int} {gu cap n : Nat} {w : World} {ss : List Stm} {wr : World} (h : DSt g R S bs (.slice (some ⟨gu, 0, none⟩) n cap) w ss wr) (hn : ss.length = n) (j : Nat) (hj : j < n * 3) : (∃ x, wr.cell? ⟨gu, j, none⟩ = some x) ∧ wr.frozen? ⟨gu, j, none⟩ = false := by
 subst hn
 exact ⟨own_cell h.own j hj, h.own.frozenAt j⟩

/-- A statement is laid into the row. -/
theorem DSt.put {g R S : Nat} {bs : List Int} {gu cap : Nat} {w : World} {ss : List Stm} {wr : World} (h : DSt g R S bs (.slice (some ⟨gu, 0, none⟩) ss.length cap) w ss wr) (hgR : g < R) (hR : R = w.heap.size) (k : Nat) (hk : k < ss.length) (s : Stm) :
 DSt g R S bs (.slice (some ⟨gu, 0, none⟩) ss.length cap) w (ss.set k s) (((wr.setCell ⟨gu, k * 3, none⟩ (.int .i64 s.k)).setCell ⟨gu, k * 3 + 1, none⟩ (.int .i64 s.x)).setCell ⟨gu, k * 3 + 2, none⟩ (.int .i64 s.y)) := by
 have hgu := (h.own.lt gu rfl).1
 have hne := h.ne gu rfl
 have o3 := (((h.own.stored (k * 3) (.int .i64 s.k)).1.stored (k * 3 + 1) (.int .i64 s.x)).1.stored (k * 3 + 2) (.int .i64 s.y)).1
 rw [cells3_set ss k s hk] at o3
 refine ⟨by simpa using h.n1, by simpa using h.n7, by simpa using o3, curSet (curSet (curSet h.cur (by omega) _) (by omega) _) (by omega) _, grownSet (grownSet (grownSet h.grown (by omega) _) (by omega) _) (by omega) _, ?_, ?_, fun k' hk' => h.ne k' hk'⟩
 · rw [Below.heap_setCell _ _ _ _ (by simp; omega), Below.heap_setCell _ _ _ _ (by simp; omega), Below.heap_setCell _ _ _ _ (by simp; omega)]; exact h.res
 · rw [Below.heap_setCell _ _ _ _ (by simp; omega), Below.heap_setCell _ _ _ _ (by simp; omega), Below.heap_setCell _ _ _ _ (by simp; omega)]; exact h.box

/-- The cursor's block alone has turned. -/
theorem DSt.step {g R S : Nat} {bs : List Int} {u : Value} {w : World} {ss : List Stm} {wr wr' : World} (h : DSt g R S bs u w ss wr) (hgR : g < R) (hgS : g < S) (hg : wr.grownBy wr' (some g)) (hc : Cur wr' g bs) : DSt g R S bs u w ss wr' where
 n1 := h.n1
 n7 := h.n7
 own := own_grown h.own hg (fun k hk e => by have := (h.own.lt k hk).1; simp at e; omega)
 cur := hc
 grown := grown_trans h.grown hg
 res := blockGrown h.res hg hgR
 box := blockGrown h.box hg hgS
 ne := h.ne

end Go.Proofs.Ytnjbihfceckpfaa

/-
 What the laws draw of programs: spec.DrawProgramOk, DrawCalls, DrawCircles, DrawReach, DrawTables, DrawInner.
-/
namespace Go.Proofs.Ytnjbihfceckpfaa
open Go.RowKit
set_option linter.unusedVariables false
set_option linter.unusedSimpArgs false
set_option maxHeartbeats 1000000
attribute [local go_sem ↓] Go.wp_at_zero Go.wp_at_succ

theorem PrOk.slice {w : World} {base : Nat} {u : Value} {L : List Nat} (h : PrOk w base u L) : ∃ a n c, u = .slice a n c := by
 obtain ⟨ao, cap, e, _⟩ := h
 exact ⟨_, _, _, e⟩

theorem PrOk.mono {w : World} {base base' : Nat} {u : Value} {L : List Nat} (h : PrOk w base u L) (hb : base' ≤ base) : PrOk w base' u L := by
 obtain ⟨ao, cap, e, hcc⟩ := h
 refine ⟨ao, cap, e, fun j n hj => ?_⟩
 obtain ⟨q, off, x, e1, hb1, cx, hs⟩ := hcc j n hj
 refine ⟨q, off, x, e1, by omega, cx, ?_⟩
 rcases hs with hs | ⟨g', o, c', m, e', hb', hsb, hle⟩
 · exact .inl hs
 · exact .inr ⟨g', o, c', m, e', by omega, hsb, hle⟩

/-- The answer is laid into its box. -/
theorem PrOk.answered {w' : World} {base b : Nat} {u x : Value} {L : List Nat} (h : PrOk w' base u L) (hb : b < base) : PrOk (w'.setCell ⟨b, 0, none⟩ x) b u L :=
 (h.grown (grown_setCell7 w' b 0 x) (fun k hk => by cases hk; omega)).mono (Nat.le_of_lt hb)

/-- What a draw has in hand behind l3DrawAny: the Program in its box (P), the box of what is answered, the cursor. -/
structure PB (w : World) (g : Nat) (bs : List Int) (P base : Nat) (u : Value) (L : List Nat) (W : World) : Prop where
 pr : PrOk W base u L
 box : W.heap[P]? = some (.cells #[u] 30 (0, 0))
 res : W.heap[w.heap.size]? = some (.cells #[.slice none 0 0] 30 (0, 0))
 cur : Cur W g bs
 bel : Below w.heap.size w W

theorem PB.begin {w w1 w2 : World} {g : Nat} {bs : List Int} {u : Value} {L : List Nat} (lt1 : w.heap.size < g) (g1 : g < w1.heap.size) (R1 : w1.heap[w.heap.size]? = some (.cells #[.slice none 0 0] 30 (0, 0))) (L1 : Below w.heap.size w w1)
 (pr2 : PrOk w2 w1.heap.size u L) (hc2 : Cur w2 g bs) (hg2 : w1.grownBy w2 (some g)) : PB w g bs w2.heap.size w1.heap.size u L (w2.alloc (.cells #[u] 30)) := by
 have s2 := hg2.size
 have R2 := (hg2.block w.heap.size (by omega) (by simp; omega)).trans R1
 have L2 : Below w.heap.size w w2 := L1.grown hg2 L1.size (fun k e => by simp at e; omega)
 exact ⟨pr2.grown (World.grownBy_alloc w2 _ (some g)) (fun k hk => by cases hk; omega), heap_alloc_new w2 _, (old_block (by omega)).trans R2, curAlloc hc2 _, L2.alloc L2.size _⟩

theorem PB.draw {w : World} {g : Nat} {bs : List Int} {P base : Nat} {u : Value} {L : List Nat} {W W' : World} (h : PB w g bs P base u L W) (lt1 : w.heap.size < g) (g1 : g < base) (hP : g < P) (hc : Cur W' g bs) (hg : W.grownBy W' (some g)) : PB w g bs P base u L W' :=
 ⟨h.pr.grown hg (fun k hk => by cases hk; omega), blockGrown h.box hg (by omega), (hg.block w.heap.size (Array.getElem?_eq_some_iff.1 h.res).1 (by simp; omega)).trans h.res, hc, h.bel.grown hg h.bel.size (fun k e => by simp at e; omega)⟩

theorem PB.ends {w : World} {g : Nat} {bs : List Int} {P base : Nat} {u : Value} {L : List Nat} {W : World} (h : PB w g bs P base u L W) (hb : w.heap.size < base) :
 PrOk (W.setCell ⟨w.heap.size, 0, none⟩ u) w.heap.size u L ∧ Below w.heap.size w (W.setCell ⟨w.heap.size, 0, none⟩ u) ∧ (W.setCell ⟨w.heap.size, 0, none⟩ u).cell? ⟨w.heap.size, 0, none⟩ = some u :=
 ⟨h.pr.answered hb, h.bel.setCell (by simp) _, (oneCell (one_set' h.res u)).1⟩

end Go.Proofs.Ytnjbihfceckpfaa

/-
 Chapter 10, mathematics: the least relations and tables are there; what the functions of the chapter answer.
-/
namespace Go.Proofs.Ytnjbihfceckpfaa
open Go.RowKit
set_option linter.unusedVariables false
set_option maxHeartbeats 1000000

theorem inner_some {E : Nat → List Int} {ss : List Stm} (hp : procOk ss = true) (hE : ∀ i, i < ss.length → Smalls (E i)) : ∃ R, R.length = ss.length ∧ IsInner E ss R := by
 obtain ⟨hpos, _, _⟩ := procOk_parts hp
 have main : ∀ n R, InnS E ss R → roomT R = n → ∃ R, R.length = ss.length ∧ IsInner E ss R := by
  intro n
  induction n using Nat.strongRecOn with
  | ind n ih =>
   intro R h hn
   by_cases hc : Clo E ss R
   · exact ⟨R, h.len, h.good, hc, h.und⟩
   · have : ∃ (i : Nat) (hi : i < ss.length) (x : Int), x ∈ nextsS ss[i] i ∧ ¬ SubR (comp (R.getD i []) (E i)) (R.getD x.toNat []) := by
      refine Classical.byContradiction fun hno => hc ⟨h.unit, fun i hi x hx => Classical.byContradiction fun hs => hno ⟨i, hi, x, hx, hs⟩⟩
     obtain ⟨i, hi, x, hx, hs⟩ := this
     have hxl := next_lt hp hi hx
     have hr := comp_smalls (h.good i hi) (hE i hi)
     have P := (Pss.begin h).put hxl hr (fun C hC hc => h.goes hi (hE i hi) x hx C hC hc) (fun e => hs (sub_of_joi (h.good _ hxl) hr e))
     rcases P.st with ⟨e, _⟩ | ⟨_, e⟩
     · cases e
     · exact ih _ (by omega) _ P.inn rfl
 exact main _ _ (InnS.begin hpos) rfl

theorem getD_map_range (n : Nat) (f : Nat → List Int) {i : Nat} (hi : i < n) : ((List.range n).map f).getD i [] = f i := by
 simp [List.getD, hi]

theorem round_some {c : Int} (hc : c = 1 ∨ c = 2) {ps : List (List Stm)} (hp : CanP ps) {T : List (List Int)} (hT : GoodN ps.length T) : ∃ T', T'.length = ps.length ∧ IsRound c ps T T' := by
 have h : ∀ i (hi : i < ps.length), ∃ R, IsInner (effN c T ps[i]) ps[i] R := fun i hi => by
  obtain ⟨R, _, h⟩ := inner_some (hp i hi).1 (fun j hj => effN_smalls hc hp hT hi hj)
  exact ⟨R, h⟩
 refine ⟨(List.range ps.length).map (fun i => if hi : i < ps.length then backs ps[i] (Classical.choose (h i hi)) else []), by simp, fun i hi => ?_⟩
 refine ⟨Classical.choose (h i hi), Classical.choose_spec (h i hi), ?_⟩
 rw [getD_map_range _ _ hi, dif_pos hi]

theorem tables_some {c : Int} (hc : c = 1 ∨ c = 2) {ps : List (List Stm)} (hp : CanP ps) : ∃ T, T.length = ps.length ∧ IsTables c ps T := by
 have main : ∀ n T, T.length = ps.length → Ris c ps T → roomT T = n → ∃ T, T.length = ps.length ∧ IsTables c ps T := by
  intro n
  induction n using Nat.strongRecOn with
  | ind n ih =>
   intro T hl h hn
   obtain ⟨T', hl', hr⟩ := round_some hc hp h.good
   by_cases e : T' = T
   · subst e; exact ⟨T', hl, h.last hr⟩
   · have := roomT_ne (T := T) (U := T') (by omega) (by rw [hl]; exact h.good) (by rw [hl]; exact hr.good) (by rw [hl]; exact h.up T' hr) (fun e' => e e'.symm)
     exact ih _ (by omega) T' hl' (h.next hc hp hr) rfl
 exact main _ (List.replicate ps.length zero7) (by simp) (Ris.zero (fun i hi => by simp [List.getD, hi])) rfl

/-- Are program and client right? -/
def okB (ps : List (List Stm)) (c : Int) : Bool := programOk ps && decide (c = 1 ∨ c = 2)

theorem okB_parts {ps : List (List Stm)} {c : Int} (h : okB ps c = true) : programOk ps = true ∧ (c = 1 ∨ c = 2) ∧ CanP ps ∧ ps.length ≤ 4 := by
 unfold okB at h
 simp only [Bool.and_eq_true, decide_eq_true_eq] at h
 have h1 := h.1
 unfold programOk at h1
 simp only [Bool.and_eq_true, decide_eq_true_eq] at h1
 exact ⟨h.1, h.2, canP_of h.1, by omega⟩

end Go.Proofs.Ytnjbihfceckpfaa
