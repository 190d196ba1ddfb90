/-
  What is kept by whatever is made: one lemma a kind of fact; rows that are read, cell by cell.
-/
import Derived.Test.YtciccbbgamklbaaListsLaw
import Derived.Test.YtciccbbgamklbaaG13SpecProofT
import Derived.Test.YtciccbbgamklbaaG00RelA
namespace Go.Proofs.Ytciccbbgamklbaa
open Go.RowKit

theorem box_step {W W' : World} {b : Nat} {o : Obj} (h : W.heap[b]? = some o) (hb : Below W.heap.size W W') : W'.heap[b]? = some o :=
  (hb.block b (Array.getElem?_eq_some_iff.1 h).1).trans h
theorem low_step {w W W' : World} (h : Below w.heap.size w W) (hb : Below W.heap.size W W') : Below w.heap.size w W' := h.trans (hb.mono h.size)
theorem low_box {w W : World} (h : Below w.heap.size w W) (o : Obj) : Below w.heap.size w (W.alloc o) := h.alloc h.size o
theorem cell_ltK {W : World} {b o : Nat} {x : Value} (h : W.cell? ⟨b, o, none⟩ = some x) : b < W.heap.size := by
  unfold World.cell? at h
  cases e : W.heap[b]? with
  | none => simp [e] at h
  | some _ => exact (Array.getElem?_eq_some_iff.1 e).1
theorem cell_step {W W' : World} {b o : Nat} {x : Value} (h : W.cell? ⟨b, o, none⟩ = some x) (hb : Below W.heap.size W W') : W'.cell? ⟨b, o, none⟩ = some x := (hb.cell (cell_ltK h)).trans h
theorem drawn_lensK {ps : List (List Stm)} {L : List Nat} (h : ps.map List.length = L) (h5 : L.length ≤ 5) (h14 : ∀ n ∈ L, n ≤ 14) : ps.length ≤ maxLen ∧ ∀ p ∈ ps, p.length ≤ maxLen := by
  subst h
  refine ⟨by simp at h5; unfold maxLen; omega, fun p hp => ?_⟩
  have := h14 p.length (List.mem_map_of_mem hp)
  unfold maxLen
  omega
theorem three_inK {w : World} {b : Nat} {x0 x1 x2 : Value} {T : TypeId} (h : w.heap[b]? = some (.cells #[x0, x1, x2] T (0, 0))) :
    w.cell? ⟨b, 0, none⟩ = some x0 ∧ w.cell? ⟨b, 1, none⟩ = some x1 ∧ w.cell? ⟨b, 2, none⟩ = some x2 := by
  refine ⟨?_, ?_, ?_⟩ <;> simp [World.cell?, h]

theorem readsP_len {W : World} {a : Option Addr} {n c : Nat} {ps : List (List Stm)} (h : ReadsP W (.slice a n c) ps) : n = ps.length := by
  obtain ⟨_, _, e, _⟩ := h
  injection e
theorem readsP_some {W : World} {a : Option Addr} {n c : Nat} {ps : List (List Stm)} (h : ReadsP W (.slice a n c) ps) (h0 : 0 < ps.length) : ∃ g o, a = some ⟨g, o, none⟩ := by
  obtain ⟨_, _, e, hc⟩ := h
  injection e with e1 e2 e3
  subst e1
  obtain ⟨g, o, _, ha, _⟩ := hc 0 ps[0] (by simp [h0])
  exact ⟨g, o, ha⟩
theorem readsP_cell {W : World} {g o n c : Nat} {ps : List (List Stm)} (h : ReadsP W (.slice (some ⟨g, o, none⟩) n c) ps) {j : Nat} {p : List Stm} (hj : ps[j]? = some p) :
    ∃ x, W.cell? ⟨g, o + j, none⟩ = some x ∧ Reads3 W x p := by
  obtain ⟨_, _, e, hc⟩ := h
  injection e with e1 e2 e3
  subst e1
  obtain ⟨g', o', x, ha, h1, h2⟩ := hc j p hj
  injection ha with ha
  injection ha with a1 a2 a3
  subst a1
  subst a2
  exact ⟨x, h1, h2⟩
theorem reads3_form {W : World} {x : Value} {ss : List Stm} (h : Reads3 W x ss) : ∃ a c, x = .slice a ss.length c := by
  obtain ⟨a, c, e, _⟩ := h
  exact ⟨a, c, e⟩
theorem reads3_some {W : World} {a : Option Addr} {n c : Nat} {ss : List Stm} (h : Reads3 W (.slice a n c) ss) (h0 : 0 < ss.length) : ∃ g o, a = some ⟨g, o, none⟩ := by
  obtain ⟨_, _, e, hc⟩ := h
  injection e with e1 e2 e3
  subst e1
  obtain ⟨g, o, ha, _⟩ := hc 0 ss[0] (by simp [h0])
  exact ⟨g, o, ha⟩
theorem reads3_cell {W : World} {g o n c : Nat} {ss : List Stm} (h : Reads3 W (.slice (some ⟨g, o, none⟩) n c) ss) {j : Nat} {s : Stm} (hj : ss[j]? = some s) :
    W.cell? ⟨g, o + j * 3, none⟩ = some (.int .i64 s.k) ∧ W.cell? ⟨g, o + j * 3 + 1, none⟩ = some (.int .i64 s.x) ∧ W.cell? ⟨g, o + j * 3 + 2, none⟩ = some (.int .i64 s.y) := by
  obtain ⟨_, _, e, hc⟩ := h
  injection e with e1 e2 e3
  subst e1
  obtain ⟨g', o', ha, h1⟩ := hc j s hj
  injection ha with ha
  injection ha with a1 a2 a3
  subst a1
  subst a2
  exact h1
theorem reads_form {W : World} {x : Value} {xs : List Int} (h : Reads W x (ints xs)) : ∃ a c, x = .slice a xs.length c := by
  obtain ⟨a, c, e, _⟩ := h
  rw [ints_length] at e
  exact ⟨a, c, e⟩
theorem reads_some {W : World} {a : Option Addr} {n c : Nat} {xs : List Int} (h : Reads W (.slice a n c) (ints xs)) (h0 : 0 < xs.length) : ∃ g o, a = some ⟨g, o, none⟩ := by
  obtain ⟨_, _, e, hc⟩ := h
  injection e with e1 e2 e3
  subst e1
  obtain ⟨g, o, ha, _⟩ := hc 0 (.int .i64 xs[0]) (by simp [ints, h0])
  exact ⟨g, o, ha⟩
theorem reads_cell {W : World} {g o n c : Nat} {xs : List Int} (h : Reads W (.slice (some ⟨g, o, none⟩) n c) (ints xs)) {j : Nat} (hj : j < xs.length) :
    W.cell? ⟨g, o + j, none⟩ = some (.int .i64 xs[j]) := by
  obtain ⟨_, _, e, hc⟩ := h
  injection e with e1 e2 e3
  subst e1
  obtain ⟨g', o', ha, h1⟩ := hc j (.int .i64 xs[j]) (by simp [ints, hj])
  injection ha with ha
  injection ha with a1 a2 a3
  subst a1
  subst a2
  exact h1
theorem ownSS_len {W : World} {base : Nat} {a : Option Addr} {n c : Nat} {us : List Value} {xss : List (List Int)} (h : OwnSS W base (.slice a n c) us xss) : n = xss.length := by
  obtain ⟨_, _, e, _⟩ := h.reads
  injection e
theorem ownSS_some {W : World} {base : Nat} {a : Option Addr} {n c : Nat} {us : List Value} {xss : List (List Int)} (h : OwnSS W base (.slice a n c) us xss) (h0 : 0 < xss.length) : ∃ g, a = some ⟨g, 0, none⟩ := by
  rcases h.row.2 with ⟨e, h9⟩ | ⟨g, cap, cur, e, _⟩
  · have := h.len; omega
  · injection e with e1; exact ⟨g, e1⟩

end Go.Proofs.Ytciccbbgamklbaa
