/-
  Procs: toProc, szProc, eqProc, spec.ProcOk, impl.ProcOk.
-/
import Derived.Test.YtepahapocgmhiaaStmts
namespace Go.Proofs.Ytepahapocgmhiaa
open Go.RowKit
set_option linter.unusedVariables false
set_option maxHeartbeats 800000

theorem one_cell {w : World} {b : Nat} {x : Value} {T : TypeId} (h : w.heap[b]? = some (.cells #[x] T (0, 0))) : w.cell? ⟨b, 0, none⟩ = some x ∧ w.frozen? ⟨b, 0, none⟩ = false := by
  constructor <;> simp [World.cell?, World.frozen?, h]

theorem one_set {w : World} {b : Nat} {x : Value} {T : TypeId} (h : w.heap[b]? = some (.cells #[x] T (0, 0))) (y : Value) : (w.setCell ⟨b, 0, none⟩ y).heap[b]? = some (.cells #[y] T (0, 0)) := by
  have h1 := heap_setCell_same w b 0 _ T y h
  simpa using h1

theorem laid3 {w w1 : World} {a b c : Obj} (hb : Below (((w.alloc a).alloc b).alloc c).heap.size (((w.alloc a).alloc b).alloc c) w1) :
    w1.heap[w.heap.size]? = some a ∧ w1.heap[w.heap.size + 1]? = some b ∧ w1.heap[w.heap.size + 1 + 1]? = some c ∧ w.heap.size + 3 ≤ w1.heap.size ∧ Below w.heap.size w w1 := by
  have z1 : (w.alloc a).heap.size = w.heap.size + 1 := by simp
  have z2 : ((w.alloc a).alloc b).heap.size = w.heap.size + 1 + 1 := by simp
  have z3 : (((w.alloc a).alloc b).alloc c).heap.size = w.heap.size + 3 := by simp
  have h0 := heap_alloc_new w a
  have h1 := heap_alloc_new (w.alloc a) b
  have h2 := heap_alloc_new ((w.alloc a).alloc b) c
  rw [z1] at h1
  rw [z2] at h2
  have hs := hb.size
  refine ⟨?_, ?_, ?_, by omega, Below.trans (by go_grown) (hb.mono (by omega))⟩
  · rw [hb.block _ (by omega), old_block (by omega), old_block (by omega)]; exact h0
  · rw [hb.block _ (by omega), old_block (by omega)]; exact h1
  · rw [hb.block _ (by omega)]; exact h2

theorem own_slice {w : World} {base : Nat} {e : TypeId} {s n : Nat} {u : Value} {xs : List Value} (h : w.ownsRow base e s u n xs) : ∃ a m c, u = .slice a m c := by
  rcases h.2 with ⟨rfl, _⟩ | ⟨g, cap, cur, rfl, _⟩
  · exact ⟨_, _, _, rfl⟩
  · exact ⟨_, _, _, rfl⟩

theorem reads3_slice {w : World} {u : Value} {ss : List Stm} (h : Reads3 w u ss) : ∃ a m c, u = .slice a m c := by
  obtain ⟨a, c, rfl, _⟩ := h
  exact ⟨_, _, _, rfl⟩




theorem all_take_succ {α : Type} (p : α → Bool) (l : List α) (k : Nat) (h : k < l.length) : (l.take (k + 1)).all p = ((l.take k).all p && p l[k]) := by
  rw [List.take_succ_eq_append_getElem h, List.all_append]; simp

theorem all_false {α : Type} (p : α → Bool) (l : List α) (k : Nat) (h : k < l.length) (hp : p l[k] = false) : l.all p = false := by
  rw [List.all_eq_false]
  exact ⟨l[k], List.getElem_mem h, by simp [hp]⟩

theorem stmtOk_jump {x y : Int} (h : stmtOk 7 x y = true) : 0 ≤ y := by
  unfold stmtOk at h
  simp [inB] at h
  omega

theorem wi_ge {y : Int} {n : Nat} (h0 : 0 ≤ y) : wiB y n = !decide ((n : Int) ≤ y) := by
  unfold wiB
  by_cases h : y < n
  · simp [h0, h]
  · simp [h]; omega

end Go.Proofs.Ytepahapocgmhiaa
