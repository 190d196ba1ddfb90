/-
  visit.at, longer, visitsWithNews (not the iterator itself).
-/
import Derived.Test.YtcecfmdlefkjfaaVisitsM
import Derived.Test.YtcecfmdlefkjfaaHeapH
import Derived.ArgAppend
namespace Go.Proofs.Ytcecfmdlefkjfaa
open Go.RowKit
set_option linter.unusedVariables false
set_option maxHeartbeats 2000000
set_option maxRecDepth 20000

theorem own_form {w : World} {base : Nat} {e : TypeId} {v : Value} {ys : List Int} (h : w.ownsRow base e 1 v ys.length (ints ys)) (hn : 0 < ys.length) : ∃ g cap, v = .slice (some ⟨g, 0, none⟩) ys.length cap ∧ ys.length ≤ cap ∧ cap ≤ maxLen ∧ g < w.heap.size ∧ (∀ j, j < ys.length → w.cell? ⟨g, j, none⟩ = some (.int .i64 (ys.getD j 0))) := by
  rcases h.2 with ⟨_, h0⟩ | ⟨g, cap, cur, rfl, k1, k2, k3, k4, k5, k6⟩
  · omega
  · refine ⟨g, cap, rfl, k3, k4, (Array.getElem?_eq_some_iff.1 k2).1, fun j hj => ?_⟩
    rw [h.cellAt j (by omega)]
    simp [ints, List.getD, hj]

theorem visitAt (x : Vis) (base : Nat) (w : World) (hx : w.ownsRow base 2 1 x.u x.way.length (ints x.way)) (hn : 0 < x.way.length) (hs : x.way.length ≤ 100000) :
    Calls Try.prog 32 #[.agg #[x.u, .int .i64 x.set]] w fun e w' => e = .returned (.int .i64 (lastI x.way)) ∧ Below w.heap.size w w' := by
  obtain ⟨g, cap, hu, k1, k2, k3, k4⟩ := own_form hx hn
  rw [hu]
  obtain ⟨m, hm⟩ : ∃ m, x.way.length = m + 1 := ⟨x.way.length - 1, by omega⟩
  have c0 := k4 m (by omega)
  rw [← lastI_at hm] at c0
  rw [hm]
  generalize lastI x.way = y at *
  have hm' : m ≤ 100000 := by omega
  clear k4 hx hu
  go_enter Try.func32, Try.ntmps32
  go_wp2
  go_ret
  exact ⟨rfl, by go_grown⟩

theorem longer (way : List Int) (y : Int) (u : Value) (base : Nat) (w : World) (hx : w.ownsRow base 2 1 u way.length (ints way)) (hn : 0 < way.length) (hs : way.length ≤ 90000) :
    Calls Try.prog 60 #[u, .int .i64 y] w fun e w' => ∃ u', e = .returned u' ∧ w'.ownsRow w.heap.size 2 1 u' (way ++ [y]).length (ints (way ++ [y])) ∧ Below w.heap.size w w' := by
  obtain ⟨i0, hi, hz0, hz1, hz2⟩ := info_parts infoInt
  obtain ⟨g, cap, hu, k1, k2, k3, k4⟩ := own_form hx hn
  subst hu
  have HC : Hid (∀ b, (some ⟨g, 0, none⟩ : Option Addr) = some b → ∀ j v, (ints way)[j]? = some v → (w.alloc (.cells #[.int .i64 y] 2)).cell? (b.add j) = some v) := by
    intro b hb j v hv
    cases hb
    have hj : j < way.length := by have := (List.getElem?_eq_some_iff.1 hv).1; simpa [ints] using this
    rw [Addr.add_lit, Nat.zero_add]
    have bW : Below w.heap.size w (w.alloc (.cells #[.int .i64 y] 2)) := by go_grown
    rw [bW.cell (p := ⟨g, j, none⟩) k3, k4 j hj, ← hv]
    simp [ints, List.getD, hj]
  have hone : ∀ u ∈ [Value.int .i64 y], u.oneCell' = true := fun u hu => by simp at hu; subst hu; rfl
  have hmx : way.length + 1 ≤ maxLen := by unfold maxLen; omega
  have hby : (way.length + 1) * 8 ≤ 140737488355328 := by omega
  have e1 : (way ++ [y]).length = way.length + 1 := by simp
  have e2 : ints (way ++ [y]) = ints way ++ [.int .i64 y] := by simp [ints]
  rw [e1, e2]
  unfold maxLen at k2
  have hil : (ints way).length = way.length * 1 := by simp [ints]
  clear k4 hx e1 e2
  generalize hcs : ints way = cs at *
  generalize hnn : way.length = n at *
  clear hcs hnn
  go_enter Try.func60, Try.ntmps60
  go_wp2_with (at_builtin; refine wpList_append_grows _ rfl (.tmp 10) (.tmp 12) 29 rfl 2 i0 (.int .i64 0) 1 8 Try.underlying29 hi hz0 hz1 hz2 rfl (by decide) (some ⟨g, 0, none⟩) n n cs rfl (fun h => by cases h) hil HC.out ⟨w.heap.size, 0, none⟩ 1 1 [.int .i64 y] rfl rfl (cell_one w y) hone (by omega) hmx hby ?_; intro v7 w7 own7 grow7)
  go_ret
  have bW : Below w.heap.size w (w.alloc (.cells #[.int .i64 y] 2)) := by go_grown
  exact ⟨_, rfl, own_mono own7 bW.size, bW.grown grow7 bW.size (by simp)⟩

theorem visitsWithNews (v : Value) (a b c d : Value) (s : Int) (w : World) :
    Calls Try.prog 31 #[.agg #[v], .agg #[a, b, c, d], .int .i64 s] w fun e w' => e = .returned (.func (.func 57) #[] #[.pointer (some ⟨w.heap.size + 1 + 1, 0, none⟩), .pointer (some ⟨w.heap.size + 1, 0, none⟩), .pointer (some ⟨w.heap.size, 0, none⟩)]) ∧ w' = ((w.alloc (.cells #[v] 26)).alloc (.cells #[a, b, c, d] 55)).alloc (.cells #[.int .i64 s] 2) := by
  go_enter Try.func31, Try.ntmps31
  go_wp2
  go_ret
  exact ⟨rfl, rfl⟩

end Go.Proofs.Ytcecfmdlefkjfaa
