/-
  slices.Insert over statements: one ahead of another.
-/
import Derived.Test.YtbbcbfhijmhnkaaDoorRepl
import Derived.Lib.AppendZerosOnto
import Derived.Lib.Overlaps
namespace Go.Proofs.YtbbcbfhijmhnkaaDoor
open Go.RowKit
set_option linter.unusedVariables false
set_option linter.unusedSimpArgs false
set_option maxHeartbeats 4000000
set_option maxRecDepth 20000

/-- append(s, make(S, k)...) where there is no room. -/
theorem wpList_appZ {P : Program} {w : World} {ops : Array Oper} {rest : List Oper} {o : Oper} {a : Act} {Q : Exit → Act → World → Prop} (hgd : o.guard = none) (s x : Operand) (t tn : TypeId)
    (ho : o.op = .call { callee := .builtin .append, args := #[s, x], argTypes := #[t, tn] }) (e : TypeId) (i : TypeInfo) (z : Value) (size bytes : Nat) (ht : P.underlying t = some (.slice e)) (htn : P.underlying tn = some (.int .i64)) (hi : P.info? e = some i) (hz : i.zero = some z)
    (hsize : i.size = size) (hby : i.bytes = bytes) (hzs : z.cells.size = size) (hsz : 0 < size) (hb24 : bytes ≤ 100)
    (g n cap : Nat) (hs : a.eval s = .slice (some ⟨g, 0, none⟩) n cap) (olds : List Value) (hol : olds.length = n * size) (hold : ∀ j u, olds[j]? = some u → w.cell? ⟨g, j, none⟩ = some u)
    (k : Nat) (hx : a.eval x = .int .i64 (k : Int)) (hk : 0 < k) (hroom : cap < n + k) (hsm : n + k ≤ 1000)
    (h : ∀ cap' Z w', Hid (w'.heap[w.heap.size]? = some (.cells (olds ++ Z).toArray e (0, 0))) → Hid (Z.length = (cap' - n) * size ∧ n + k ≤ cap' ∧ cap' ≤ maxLen) → Below w.heap.size w w' → wpList P ops Q rest (a.put o.dst (.slice (some ⟨w.heap.size, 0, none⟩) (n + k) cap')) w') : wpList P ops Q (o :: rest) a w := by
  refine wpList_plain hgd fun _ hK => ?_
  subst hsize hby
  have hfc : (Builtin.firstCells i.size n (.slice (some ⟨g, 0, none⟩) n cap)).run P w.drew = .ok olds.toArray w.drew := run_firstCells_some (P := P) w.drew i.size n ⟨g, 0, none⟩ n cap olds hol (fun j u hj => by rw [Addr.add_lit, Nat.zero_add]; exact hold j u hj)
  have hr := Lib.run_append_grow_zeros (P := P) w t tn o.type e i z .i64 .i64 ht htn hi hz (some ⟨g, 0, none⟩) n cap olds hfc k hk hsz hroom (by omega) (by
      have : k * i.bytes ≤ 1000 * 100 := Nat.mul_le_mul (by omega) hb24
      omega) (growslice_fits hroom (by
      have : (n + k) * i.bytes ≤ 1000 * 100 := Nat.mul_le_mul hsm hb24
      omega))
  have hge := grownCap_ge w (n + k) cap e
  have hcm : grownCap w (n + k) cap e ≤ maxLen := grownCap_le_maxLen w (n + k) cap e (by unfold maxLen; omega)
  unfold Oper.wp
  simp only [execOp, ho, resolve, invoke, builtin, Sem.run_bind, Sem.run_pure, Result.andThen_ok, List.map_toArray, List.map_cons, List.map_nil, hs, hx, hr]
  refine hK _ _ (h _ (Builtin.zeroCells z.cells k ++ Builtin.zeroCells z.cells (grownCap w (n + k) cap e - (n + k))).toList _ ?_ ⟨?_, hge, hcm⟩ ?_)
  · show _ = _
    have h3 := heap_alloc_new w.drew (.cells (olds.toArray ++ Builtin.zeroCells z.cells k ++ Builtin.zeroCells z.cells (grownCap w (n + k) cap e - (n + k))) e)
    have h4 : w.drew.heap.size = w.heap.size := rfl
    rw [h4] at h3
    rw [h3]
    simp
  · rw [Array.length_toList, Array.size_append, size_zeroCells, size_zeroCells, hzs, ← Nat.add_mul]
    congr 1
    omega
  · exact ⟨rfl, rfl, rfl, by simp, fun q hq => old_block (w := w.drew) hq⟩

def Stop13 (p : Prop) : Prop := p
theorem stop13 {p : Prop} (h : Stop13 p) : p := h

end Go.Proofs.YtbbcbfhijmhnkaaDoor
