/-
  Put together out of: WalksN, ListsLaw, SpecEff, TabSt.
-/
import Derived.Test.YtfonabkhpjcbmaaWalksM
import Derived.Test.YtfonabkhpjcbmaaG23Lists
import Derived.Deep.RegionHeld3
import Derived.Deep.DrawnRows
import Derived.Test.YtfonabkhpjcbmaaTabM
/-
  Chapter 12, mathematics: where a walk goes hangs on no client; each beginning of a walk is a walk.
-/
namespace Go.Proofs.Ytfonabkhpjcbmaa
open Go.RowKit
set_option linter.unusedVariables false
set_option maxHeartbeats 1000000

/-- The same but for what holds. -/
def SameW (s s' : WS) : Prop := s.p = s'.p ∧ s.i = s'.i ∧ s.op.map (fun t => (t.1, t.2.1)) = s'.op.map (fun t => (t.1, t.2.1))

theorem lastPl_map (op : List (Nat × Nat × Int)) : lastPl op = (match (op.map (fun t => (t.1, t.2.1))).getLast? with | none => [] | some t => [(t.1 : Int), (t.2 : Int) + 1]) := by
  unfold lastPl
  rw [List.getLast?_map]
  cases op.getLast? <;> rfl

theorem SameW.nx {ps : List (List Stm)} {s s' : WS} (h : SameW s s') : nxW ps s = nxW ps s' := by
  obtain ⟨h1, h2, h3⟩ := h
  unfold nxW nxS
  rw [h1, h2, lastPl_map s.op, lastPl_map s'.op, h3]

theorem SameW.go {c c' : Int} {ps : List (List Stm)} {s s' : WS} (h : SameW s s') (p i : Nat) : SameW (doW c ps s p i) (doW c' ps s' p i) := by
  obtain ⟨h1, h2, h3⟩ := h
  refine ⟨rfl, rfl, ?_⟩
  unfold doW opS
  rw [h1, h2]
  split
  · simp [h3]
  split
  · rw [List.map_dropLast, List.map_dropLast, h3]
  · exact h3

theorem wk_same (c c' : Int) (ps : List (List Stm)) (xs : List Int) : ∀ k, (wk c ps xs k = none ∧ wk c' ps xs k = none) ∨ ∃ s s', wk c ps xs k = some s ∧ wk c' ps xs k = some s' ∧ SameW s s'
  | 0 => .inr ⟨_, _, rfl, rfl, rfl, rfl, rfl⟩
  | k + 1 => by
    rcases wk_same c c' ps xs k with ⟨h1, h2⟩ | ⟨s, s', h1, h2, h3⟩
    · exact .inl ⟨wk_none h1 (k + 1) (by omega), wk_none h2 (k + 1) (by omega)⟩
    · cases hh : hasPl (nxW ps s) (xs.getD ((k + 1) * 2) 0) (xs.getD ((k + 1) * 2 + 1) 0) with
      | false => exact .inl ⟨wk_no h1 hh, wk_no h2 (by rw [← h3.nx]; exact hh)⟩
      | true =>
        refine .inr ⟨_, _, ?_, ?_, h3.go (c := c) (c' := c') (ps := ps) (xs.getD ((k + 1) * 2) 0).toNat (xs.getD ((k + 1) * 2 + 1) 0).toNat⟩
        · unfold wk
          rw [h1, Option.bind_some, if_pos hh]
        · unfold wk
          rw [h2, Option.bind_some, if_pos (by rw [← h3.nx]; exact hh)]

theorem walkA_isSome (c c' : Int) (ps : List (List Stm)) (xs : List Int) (n : Nat) : (walkA c ps xs n).isSome = (walkA c' ps xs n).isSome := by
  unfold walkA
  split
  · rcases wk_same c c' ps xs (n - 1) with ⟨h1, h2⟩ | ⟨s, s', h1, h2, _⟩
    · rw [h1, h2]
    · rw [h1, h2]; rfl
  · rfl

theorem getD_take {xs : List Int} {m k : Nat} (h : k < m) : (xs.take m).getD k 0 = xs.getD k 0 := by
  simp [List.getD, h]

theorem wk_take (c : Int) (ps : List (List Stm)) (xs : List Int) (m : Nat) : ∀ k, k * 2 + 1 < m → wk c ps (xs.take m) k = wk c ps xs k
  | 0, _ => rfl
  | k + 1, h => by
    unfold wk
    rw [wk_take c ps xs m k (by omega), getD_take (by omega), getD_take (by omega)]

theorem wk_some_le {c : Int} {ps : List (List Stm)} {xs : List Int} {k : Nat} {s : WS} (h : wk c ps xs k = some s) {j : Nat} (hj : j ≤ k) : ∃ s', wk c ps xs j = some s' := by
  cases hh : wk c ps xs j with
  | some s' => exact ⟨s', rfl⟩
  | none => rw [wk_none hh k hj] at h; cases h

/-- Each beginning of a walk is a walk. -/
theorem walkA_take {c : Int} {ps : List (List Stm)} {xs : List Int} {n : Nat} {s : WS} (h : walkA c ps xs n = some s) {i : Nat} (h1 : 1 ≤ i) (hi : i ≤ n) : ∃ s', walkA c ps (xs.take (2 * i)) i = some s' ∧ wk c ps xs (i - 1) = some s' := by
  unfold walkA at h
  split at h
  · rename_i hh
    obtain ⟨s', hs'⟩ := wk_some_le h (j := i - 1) (by omega)
    refine ⟨s', ?_, hs'⟩
    unfold walkA
    rw [if_pos ⟨hh.1, h1, by omega, by rw [getD_take (by omega)]; exact hh.2.2.2.1, by rw [getD_take (by omega)]; exact hh.2.2.2.2⟩, wk_take c ps xs (2 * i) (i - 1) (by omega), hs']
  · cases h

theorem lor_of_sub {x y : Int} (hx : Small x) (hy : Small y) (h : Sub x y) : lor x y = y :=
  bit_ext (lor_small hx hy) hy (fun t _ => by
    rw [bit_lor hx hy]
    cases hb : bit x t with
    | false => rfl
    | true => rw [h t hb]; rfl)

theorem odd_of_bit {x : Int} (hx : Small x) (h : bit x 0 = true) : x % 2 = 1 := by
  obtain ⟨n, rfl, hn⟩ := small_nat hx
  unfold bit at h
  simp only [Int.toNat_natCast] at h
  rw [Nat.testBit_zero] at h
  have : n % 2 = 1 := by simpa using h
  omega

end Go.Proofs.Ytfonabkhpjcbmaa

/-
  laws.eqInt64SS: two lists of lists that are alike.
-/
namespace Go.Proofs.Ytfonabkhpjcbmaa
open Go.RowKit
set_option linter.unusedVariables false
set_option maxHeartbeats 1000000
attribute [local go_sem ↓] Go.wp_at_zero Go.wp_at_succ

/-- The slice v holds slices that hold the lists xss. -/
def ReadsSS (w : World) (v : Value) (xss : List (List Int)) : Prop :=
  ∃ ao cap, v = .slice ao xss.length cap ∧ ∀ j xs, xss[j]? = some xs → ∃ g off u, ao = some ⟨g, off, none⟩ ∧ w.cell? ⟨g, off + j, none⟩ = some u ∧ Reads w u (ints xs)

theorem readsSS_below {w w' : World} {v : Value} {xss : List (List Int)} (h : ReadsSS w v xss) (hb : Below w.heap.size w w') : ReadsSS w' v xss := by
  obtain ⟨ao, cap, rfl, hc⟩ := h
  refine ⟨ao, cap, rfl, fun j xs hx => ?_⟩
  obtain ⟨g, off, u, hg, hcell, hr⟩ := hc j xs hx
  exact ⟨g, off, u, hg, (hb.cell (World.block_lt_of_cell? w _ hcell)).trans hcell, reads_below hr hb⟩

theorem OwnSS.reads {w : World} {base : Nat} {v : Value} {us : List Value} {xss : List (List Int)} (h : OwnSS w base v us xss) : ReadsSS w v xss := by
  have hl := h.len
  rcases h.row.2 with ⟨rfl, hn⟩ | ⟨g, cap, cur, rfl, _⟩
  · exact ⟨none, 0, by rw [hn], fun j xs hx => by rw [List.eq_nil_of_length_eq_zero hn] at hx; simp at hx⟩
  · refine ⟨some ⟨g, 0, none⟩, cap, rfl, fun j xs hx => ?_⟩
    have hj : j < xss.length := (List.getElem?_eq_some_iff.1 hx).1
    obtain ⟨u, hu, hc, ho⟩ := h.at hj
    have e : xss[j] = xs := (List.getElem?_eq_some_iff.1 hx).2
    exact ⟨g, 0, u, rfl, by rw [Nat.zero_add]; exact hc, by rw [← e]; exact reads_own ho⟩


end Go.Proofs.Ytfonabkhpjcbmaa

/-
  Chapter 10, the specification's side: l10Effect.
-/
namespace Go.Proofs.Ytfonabkhpjcbmaa
open Go.RowKit
set_option linter.unusedVariables false
set_option linter.unusedSimpArgs false
set_option maxHeartbeats 4000000
set_option maxRecDepth 20000

theorem readsSS_at {w : World} {ao : Option Addr} {n cap : Nat} {T : List (List Int)} (h : ReadsSS w (.slice ao n cap) T) {y : Nat} (hy : y < T.length) : ∃ g off u, ao = some ⟨g, off, none⟩ ∧ w.cell? ⟨g, off + y, none⟩ = some u ∧ Reads w u (ints (T.getD y [])) := by
  obtain ⟨ao', cap', e, hc⟩ := h
  obtain ⟨rfl, -, -⟩ : ao = ao' ∧ n = T.length ∧ cap = cap' := by simpa using e
  obtain ⟨g, off, u, h1, h2, h3⟩ := hc y (T.getD y []) (by simp [List.getD, hy])
  exact ⟨g, off, u, h1, h2, h3⟩

end Go.Proofs.Ytfonabkhpjcbmaa

/-
  Chapter 10: lists of relations in memory: one is put in another's place; how much room is left in them.
-/
namespace Go.Proofs.Ytfonabkhpjcbmaa
open Go.RowKit
set_option linter.unusedVariables false
set_option maxHeartbeats 1000000

/-- What l10Inner has in hand. -/
structure LS (v : Value) (w : World) (ov : Value) (us : List Value) (xss : List (List Int)) (wr : World) : Prop where
  o : OwnSS wr (w.heap.size + 1) ov us xss
  bl : Below w.heap.size w wr
  p : wr.heap[w.heap.size]? = some (.cells #[v] 72 (0, 0))

theorem LS.below {v : Value} {w : World} {ov : Value} {us : List Value} {xss : List (List Int)} {wr wr' : World} (h : LS v w ov us xss wr) (hb : Below wr.heap.size wr wr') : LS v w ov us xss wr' where
  o := h.o.below hb
  bl := h.bl.trans (hb.mono h.bl.size)
  p := (hb.block _ (Array.getElem?_eq_some_iff.1 h.p).1).trans h.p

theorem LS.app {v : Value} {w : World} {ov v' u : Value} {us : List Value} {xss : List (List Int)} {xs : List Int} {W w' : World} (h : LS v w ov us xss W) (hu : W.ownsRow (w.heap.size + 1) 2 1 u xs.length (ints xs))
    (hr : w'.ownsRow (w.heap.size + 1) 36 1 v' (xss.length + 1) (us ++ [u])) (hg : W.grownBy w' ov.ownBlock) : LS v w v' (us ++ [u]) (xss ++ [xs]) w' where
  o := h.o.appended hu hr hg
  bl := h.bl.grown hg h.bl.size (fun k e => by have := (h.o.row.lt k e).1; omega)
  p := (hg.block _ (Array.getElem?_eq_some_iff.1 h.p).1 (fun e => by have := (h.o.row.lt _ e.symm).1; omega)).trans h.p

theorem own_put {base base' g n cap : Nat} {lv : Value} {us : List Value} {m : Nat} {W : World} {xs : List Value} (hl : W.ownsRow base' 2 1 lv m xs) (ho : W.ownsRow base 36 1 (.slice (some ⟨g, 0, none⟩) n cap) n us) (j : Nat) (u : Value) : (W.setCell ⟨g, j, none⟩ u).ownsRow base' 2 1 lv m xs :=
  own_same hl (fun k hk => (ho.stored j u).2.block k (hl.lt k hk).2 (fun e => row_kind hl ho (by decide) hk e.symm))

/-- Another list at place j. -/
theorem OwnSS.put {w : World} {base g cap : Nat} {u : Value} {us : List Value} {xss : List (List Int)} {xs : List Int} (h : OwnSS w base (.slice (some ⟨g, 0, none⟩) xss.length cap) us xss) (hu : w.ownsRow base 2 1 u xs.length (ints xs)) (j : Nat) :
    OwnSS (w.setCell ⟨g, j, none⟩ u) base (.slice (some ⟨g, 0, none⟩) xss.length cap) (us.set j u) (xss.set j xs) := by
  refine ⟨by simpa using (h.row.stored j u).1, fun i x ys hi hx => ?_⟩
  have hl := h.len
  by_cases e : j = i
  · subst e
    have hj : j < us.length := by have := (List.getElem?_eq_some_iff.1 hi).1; simpa using this
    rw [List.getElem?_set_self hj] at hi
    rw [List.getElem?_set_self (by omega)] at hx
    simp at hi hx
    subst hi hx
    exact own_put hu h.row j _
  · rw [List.getElem?_set_ne e] at hi hx
    exact own_put (h.each i x ys hi hx) h.row j _

theorem LS.put {v : Value} {w : World} {g cap : Nat} {u : Value} {us : List Value} {xss : List (List Int)} {xs : List Int} {wr : World} (h : LS v w (.slice (some ⟨g, 0, none⟩) xss.length cap) us xss wr) (hu : wr.ownsRow (w.heap.size + 1) 2 1 u xs.length (ints xs)) (j : Nat) :
    LS v w (.slice (some ⟨g, 0, none⟩) xss.length cap) (us.set j u) (xss.set j xs) (wr.setCell ⟨g, j, none⟩ u) where
  o := h.o.put hu j
  bl := h.bl.setCell (by have := (h.o.row.lt g rfl).1; show w.heap.size ≤ g; omega) _
  p := by
    have hg : g ≠ w.heap.size := by have := (h.o.row.lt g rfl).1; omega
    rw [heap_setCell_other wr ⟨g, j, none⟩ _ u (fun e => hg e.symm)]
    exact h.p

theorem cell_oneV (w : World) (x : Value) (t : TypeId) : ∀ (j : Nat) (u : Value), [x][j]? = some u → (w.alloc (.cells #[x] t)).cell? ((⟨w.heap.size, 0, none⟩ : Addr).add j) = some u := by
  intro j u hu
  have hj : j = 0 := by
    have := (List.getElem?_eq_some_iff.1 hu).1
    simp at this; exact this
  subst hj
  simp at hu
  subst hu
  show (w.alloc (.cells #[x] t)).cell? ⟨w.heap.size, 0 + 0, none⟩ = _
  rw [cell_of_row _ _ _ _ t (0, 0) (heap_alloc_new w _)]
  rfl

theorem own_form {w : World} {base : Nat} {t : TypeId} {v : Value} {n : Nat} {xs : List Value} (h : w.ownsRow base t 1 v n xs) (hn : 0 < n) : ∃ g cap, v = .slice (some ⟨g, 0, none⟩) n cap := by
  rcases own_shape h with ⟨_, e, _⟩ | ⟨g, cp, e, _⟩
  · omega
  · exact ⟨g, cp, e⟩

theorem made7 : (madeCells (Value.int .i64 0).cells (7 * 1)).toList = ints zero7 := by
  have := toList_madeCells_one (.int .i64 0) 7
  exact this

theorem LS.grow {v : Value} {w : World} {ov : Value} {us : List Value} {xss : List (List Int)} {wr wr' : World} (h : LS v w ov us xss wr) (hg : wr.grownBy wr' none) : LS v w ov us xss wr' :=
  h.below ⟨hg.os, hg.tape, hg.output, hg.size, fun i hi => hg.block i hi (by simp)⟩

theorem LS.put' {v : Value} {w : World} {g cap n : Nat} {u : Value} {us : List Value} {xss : List (List Int)} {xs : List Int} {wr : World} (hn : xss.length = n) (h : LS v w (.slice (some ⟨g, 0, none⟩) n cap) us xss wr) (hu : wr.ownsRow (w.heap.size + 1) 2 1 u xs.length (ints xs)) (j : Nat) :
    LS v w (.slice (some ⟨g, 0, none⟩) n cap) (us.set j u) (xss.set j xs) (wr.setCell ⟨g, j, none⟩ u) := by
  subst hn
  exact h.put hu j

theorem LS.at {v : Value} {w : World} {g cap n : Nat} {us : List Value} {xss : List (List Int)} {wr : World} (hn : xss.length = n) (h : LS v w (.slice (some ⟨g, 0, none⟩) n cap) us xss wr) {j : Nat} (hj : j < n) : ∃ u, wr.cell? ⟨g, j, none⟩ = some u ∧ wr.frozen? ⟨g, j, none⟩ = false ∧ Reads wr u (ints (xss.getD j [])) := by
  subst hn
  obtain ⟨u, h1, h2, h3⟩ := h.o.at hj
  have e : xss.getD j [] = xss[j] := by simp [List.getD, hj]
  exact ⟨u, h2, h.o.row.frozenAt j, by rw [e]; exact reads_own h3⟩

/-- Room in a slice of sets, in a slice of such. -/
def cellRoom : Option Value → Nat
  | some (.int _ x) => (127 - x).toNat
  | _ => 0
def rowRoom (w : World) : Option Value → Nat
  | some (.slice (some a) n _) => ((List.range n).map (fun j => cellRoom (w.cell? ⟨a.block, a.off + j, none⟩))).sum
  | _ => 0
def roomV (w : World) : Value → Nat
  | .slice (some a) n _ => ((List.range n).map (fun j => rowRoom w (w.cell? ⟨a.block, a.off + j, none⟩))).sum
  | _ => 0

theorem range_sum {α : Type} (L : List α) (f : Nat → Nat) (g : α → Nat) (h : ∀ j (hj : j < L.length), f j = g L[j]) : ((List.range L.length).map f).sum = (L.map g).sum := by
  congr 1
  refine List.ext_getElem (by simp) (fun i h1 h2 => ?_)
  simp at h1
  simp [h i h1]

theorem rowRoom_eq {w : World} {v : Value} {xs : List Int} (h : Reads w v (ints xs)) : rowRoom w (some v) = room xs := by
  obtain ⟨ao, cap, rfl, hc⟩ := h
  rw [ints_length]
  cases xs with
  | nil => cases ao <;> simp [rowRoom, room]
  | cons x xs =>
    obtain ⟨g, off, rfl, -⟩ := hc 0 (.int .i64 x) (by simp [ints])
    simp only [rowRoom]
    refine range_sum (x :: xs) _ _ (fun j hj => ?_)
    obtain ⟨g', off', e, c⟩ := hc j (.int .i64 (x :: xs)[j]) (by simp only [ints, List.getElem?_map, List.getElem?_eq_getElem hj]; rfl)
    simp at e
    obtain ⟨rfl, rfl⟩ := e
    rw [c]
    rfl

theorem roomV_eq {w : World} {v : Value} {T : List (List Int)} (h : ReadsSS w v T) : roomV w v = roomT T := by
  obtain ⟨ao, cap, rfl, hc⟩ := h
  cases T with
  | nil => cases ao <;> simp [roomV, roomT]
  | cons x xs =>
    obtain ⟨g, off, u, rfl, -, -⟩ := hc 0 x (by simp)
    simp only [roomV]
    refine range_sum (x :: xs) _ _ (fun j hj => ?_)
    obtain ⟨g', off', u, e, c, hu⟩ := hc j (x :: xs)[j] (by rw [List.getElem?_eq_getElem hj])
    simp at e
    obtain ⟨rfl, rfl⟩ := e
    rw [c]
    exact rowRoom_eq hu

end Go.Proofs.Ytfonabkhpjcbmaa
