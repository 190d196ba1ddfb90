/-
  Put together out of: IntS, Put.
-/
import Derived.Test.YtjdmmpdcafbneaaDoorG01DrawKit
import Derived.Laws.AppendOwnNone
/-
  Slices of int64: eqInt64S, markInt64S, heldInt64S, l1Has, l1Put.
-/
namespace Go.Proofs.YtjdmmpdcafbneaaDoor
open Go.RowKit
set_option linter.unusedVariables false
set_option maxHeartbeats 1000000

def ints (xs : List Int) : List Value := xs.map (.int .i64)

theorem ints_length (xs : List Int) : (ints xs).length = xs.length := by simp [ints]


/-- The marks that markInt64S lays from k on. -/
def markI (k : Int) : Nat → List Value
  | 0 => []
  | n + 1 => .int .i64 k :: markI (k + 1) n

theorem markI_length : ∀ (n : Nat) (k : Int), (markI k n).length = n
  | 0, _ => rfl
  | n + 1, k => by simp [markI, markI_length n]

theorem markI_get : ∀ (n : Nat) (k : Int) (j : Nat), j < n → (markI k n)[j]? = some (.int .i64 (k + j))
  | 0, _, _, h => absurd h (by omega)
  | n + 1, k, 0, _ => by simp [markI]
  | n + 1, k, j + 1, h => by
    rw [markI, List.getElem?_cons_succ, markI_get n (k + 1) j (by omega)]
    congr 2
    push_cast
    omega



end Go.Proofs.YtjdmmpdcafbneaaDoor

/-
  spec.l1Has, spec.l1Put: a number into a list that rises, once.
-/
namespace Go.Proofs.YtjdmmpdcafbneaaDoor
open Go.RowKit
set_option linter.unusedVariables false
set_option maxHeartbeats 1000000


/-- n into the list that rises. -/
def ins (n : Int) : List Int → List Int
  | [] => [n]
  | x :: xs => if x < n then x :: ins n xs else if x = n then x :: xs else n :: x :: xs

theorem ins_there (n : Int) : ∀ (xs : List Int) (k : Nat), (∀ (j : Nat) (x : Int), j < k → xs[j]? = some x → x < n) → xs[k]? = some n → ins n xs = xs
  | [], k, _, h => by simp at h
  | x :: xs, 0, _, h => by simp at h; subst h; simp [ins]
  | x :: xs, k + 1, ha, h => by
    have h0 := ha 0 x (by omega) rfl
    rw [ins, if_pos h0, ins_there n xs k (fun j y hj hy => ha (j + 1) y (by omega) (by simpa using hy)) (by simpa using h)]

theorem ins_new (n : Int) : ∀ (xs : List Int) (k : Nat), k ≤ xs.length → (∀ (j : Nat) (x : Int), j < k → xs[j]? = some x → x < n) → (∀ x, xs[k]? = some x → n < x) → ins n xs = xs.take k ++ [n] ++ xs.drop k
  | [], 0, _, _, _ => by simp [ins]
  | [], k + 1, h, _, _ => by simp at h
  | x :: xs, 0, _, _, h => by
    have := h x rfl
    rw [ins, if_neg (by omega), if_neg (by omega)]
    simp
  | x :: xs, k + 1, hk, ha, h => by
    have h0 := ha 0 x (by omega) rfl
    rw [ins, if_pos h0, ins_new n xs k (by simpa using hk) (fun j y hj hy => ha (j + 1) y (by omega) (by simpa using hy)) (fun y hy => h y (by simpa using hy))]
    simp

theorem infoInt : (Tryd.prog.info? 2).map (fun i => (i.zero, i.size, i.bytes)) = some (some (.int .i64 0), 1, 8) := by kernel_rfl

theorem ints_oneCell (xs : List Int) : ∀ y ∈ ints xs, y.oneCell' = true := by
  intro y hy
  obtain ⟨t, _, rfl⟩ := List.mem_map.1 hy
  rfl

/-- The source of an append: nil, or a row. -/
theorem own_shape {w : World} {base : Nat} {e : TypeId} {v : Value} {n : Nat} {xs : List Value} (h : w.ownsRow base e 1 v n xs) :
    (v = .slice none 0 0 ∧ n = 0 ∧ xs = []) ∨ ∃ g cap, v = .slice (some ⟨g, 0, none⟩) n cap ∧ xs.length = n ∧ (∀ j u, xs[j]? = some u → w.cell? ((⟨g, 0, none⟩ : Addr).add j) = some u) := by
  have hl := h.1
  simp only [Nat.mul_one] at hl
  rcases h.2 with ⟨rfl, rfl⟩ | ⟨g, cap, cur, rfl, _⟩
  · exact .inl ⟨rfl, rfl, List.eq_nil_of_length_eq_zero hl⟩
  · exact .inr ⟨g, cap, rfl, hl, h.cells rfl⟩

/-- append(out, l...), out the call's own, l a row of the call's own or nil. -/
theorem wpList_append_rows {P : Program} (w : World) {ops : Array Oper} {rest : List Oper} {o : Oper} {a : Act} {Q : Exit → Act → World → Prop} (hgd : o.guard = none) (s x : Operand) (t : TypeId)
    (ho : o.op = .call { callee := .builtin .append, args := #[s, x], argTypes := #[t, t] })
    (base : Nat) (e : TypeId) (i : TypeInfo) (z : Value) (bytes : Nat) (ht : P.underlying t = some (.slice e)) (hi : P.info? e = some i) (hz : i.zero = some z)
    (hsize : i.size = 1) (hby : i.bytes = bytes) (hzs : z.cells.size = 1)
    (v : Value) (n : Nat) (xs : List Value) (hs : a.eval s = v) (hown : w.ownsRow base e 1 v n xs)
    (u : Value) (base' m : Nat) (ys : List Value) (hx : a.eval x = u) (hsrc : w.ownsRow base' e 1 u m ys) (h1 : ∀ y ∈ ys, y.oneCell' = true)
    (h63 : n + m ≤ maxLen) (hbytes : (n + m) * bytes ≤ 140737488355328) (hbase : base ≤ w.heap.size)
    (h : ∀ v' w', w'.ownsRow base e 1 v' (n + m) (xs ++ ys) → w.grownBy w' v.ownBlock → wpList P ops Q rest (a.put o.dst v') w') : wpList P ops Q (o :: rest) a w := by
  rcases own_shape hsrc with ⟨rfl, rfl, rfl⟩ | ⟨g, cap, rfl, hl, hc⟩
  · exact wpList_append_own_none hgd s x t ho base e i 1 ht hi v n xs hs hown hx (h v w (by simpa using hown) (World.grownBy.refl _ _))
  · exact wpList_append_own w hgd s x t ho base e i z 1 bytes ht hi hz hsize hby hzs (by decide) v n xs hs hown ⟨g, 0, none⟩ m cap ys hx (by simpa using hl) hc h1 h63 hbytes hbase (fun v' w' a1 a2 _ => h v' w' a1 a2)

theorem below_app {w W w1 : World} {row : Option Nat} (hW : Below w.heap.size w W) (hg : W.grownBy w1 row) (hrow : ∀ k, row = some k → w.heap.size ≤ k) : Below w.heap.size w w1 := hW.grown hg hW.size hrow

theorem cells_drop {w W : World} {g k : Nat} {xs : List Int} (hW : Below w.heap.size w W) (hc : ∀ (j : Nat) (x : Int), xs[j]? = some x → w.cell? ⟨g, j, none⟩ = some (.int .i64 x)) :
    ∀ j u, ((ints xs).drop k)[j]? = some u → W.cell? ((⟨g, k, none⟩ : Addr).add j) = some u := by
  intro j u h
  rw [List.getElem?_drop] at h
  simp only [ints, List.getElem?_map, Option.map_eq_some_iff] at h
  obtain ⟨x, hx, rfl⟩ := h
  have h1 := hc _ x hx
  have : (⟨g, k, none⟩ : Addr).add j = ⟨g, k + j, none⟩ := by unfold Addr.add; split <;> simp_all
  rw [this, hW.cell (World.block_lt_of_cell? w _ h1)]
  exact h1

theorem cells_take {w W : World} {g k : Nat} {xs : List Int} (hW : Below w.heap.size w W) (hc : ∀ (j : Nat) (x : Int), xs[j]? = some x → w.cell? ⟨g, j, none⟩ = some (.int .i64 x)) :
    ∀ j u, ((ints xs).take k)[j]? = some u → W.cell? ((⟨g, 0, none⟩ : Addr).add j) = some u := by
  intro j u h
  have hj : j < k := by
    rcases Nat.lt_or_ge j k with h' | h'
    · exact h'
    · rw [List.getElem?_take, if_neg (by omega)] at h; cases h
  rw [List.getElem?_take, if_pos hj] at h
  simp only [ints, List.getElem?_map, Option.map_eq_some_iff] at h
  obtain ⟨x, hx, rfl⟩ := h
  have h1 := hc _ x hx
  have : (⟨g, 0, none⟩ : Addr).add j = ⟨g, j, none⟩ := by unfold Addr.add; split <;> simp_all
  rw [this, hW.cell (World.block_lt_of_cell? w _ h1)]
  exact h1

theorem oneCell_take {xs : List Int} (k : Nat) : ∀ y ∈ (ints xs).take k, y.oneCell' = true := fun y hy => ints_oneCell xs y (List.mem_of_mem_take hy)
theorem oneCell_drop {xs : List Int} (k : Nat) : ∀ y ∈ (ints xs).drop k, y.oneCell' = true := fun y hy => ints_oneCell xs y (List.mem_of_mem_drop hy)

theorem made0 (w : World) : (w.alloc (.cells #[] 2)).ownsRow w.heap.size 2 1 (.slice (some ⟨w.heap.size, 0, none⟩) 0 0) 0 [] :=
  World.ownsRow_made w #[] 0 (Nat.le_refl _) (by decide) (by simp)

theorem cell_one (w : World) (n : Int) : ∀ (j : Nat) (u : Value), [Value.int .i64 n][j]? = some u → (w.alloc (.cells #[.int .i64 n] 2)).cell? ((⟨w.heap.size, 0, none⟩ : Addr).add j) = some u := by
  intro j u h
  cases j with
  | zero => simp at h; subst h; simp [Addr.add]
  | succ j => simp at h

theorem nil_cells {zs : List Value} (hz : zs = []) {W : World} (ad : Addr) : ∀ j u, zs[j]? = some u → W.cell? (ad.add j) = some u := by
  intro j u h
  rw [hz] at h
  simp at h

theorem le_alloc {w1 w2 : World} {o o' : Obj} (h : (w1.alloc o).heap.size ≤ w2.heap.size) : w1.heap.size ≤ (w2.alloc o').heap.size := by
  simp at h ⊢; omega

theorem le_alloc2 {w1 w2 w3 : World} {o o' : Obj} (h : (w1.alloc o).heap.size ≤ w2.heap.size) (k : (w2.alloc o').heap.size ≤ w3.heap.size) : w1.heap.size ≤ w3.heap.size := by
  simp at h k; omega

theorem oneCell_drop0 {xs : List Int} (k : Nat) : ∀ y ∈ [] ++ (ints xs).drop k, y.oneCell' = true := by
  rw [List.nil_append]
  exact oneCell_drop k

theorem put_end {w w4 : World} {base b1 k n4 : Nat} {n : Int} {xs R : List Int} {v4 : Value} {zs : List Value} (hz : zs = (ints xs).drop k) (hR : ins n xs = R) (hi : ins n xs = xs.take k ++ [n] ++ xs.drop k)
    (own4 : w4.ownsRow b1 2 1 v4 n4 (([] ++ (ints xs).take k) ++ [.int .i64 n] ++ ([] ++ zs))) (L4 : Below w.heap.size w w4) (hb : base ≤ b1) (hb1 : w.heap.size ≤ b1) (g : Nat) :
    ∃ g' cap', Ending.returned v4 = .returned (.slice (some ⟨g', 0, none⟩) R.length cap') ∧ w4.ownsRow base 2 1 (.slice (some ⟨g', 0, none⟩) R.length cap') R.length (ints R) ∧ Below w.heap.size w w4 ∧ (g' = g ∨ w.heap.size ≤ g') := by
  have e : ([] ++ (ints xs).take k) ++ [Value.int .i64 n] ++ ([] ++ zs) = ints R := by
    rw [hz, ← hR, hi]
    simp [ints, List.map_append, List.map_take, List.map_drop]
  rw [e] at own4
  have hl := own4.1
  rw [ints_length] at hl
  have hR1 : 1 ≤ R.length := by
    rw [← hR, hi]
    simp; omega
  obtain rfl : n4 = R.length := by omega
  rcases own4.2 with ⟨_, h0⟩ | ⟨g', cap', cur, rfl, _⟩
  · omega
  · exact ⟨g', cap', rfl, own_mono own4 hb, L4, .inr (Nat.le_trans hb1 (own4.lt g' rfl).1)⟩


end Go.Proofs.YtjdmmpdcafbneaaDoor
