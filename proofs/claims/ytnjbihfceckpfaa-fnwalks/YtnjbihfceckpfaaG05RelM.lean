/-
 Put together out of: Put, IntLaws, RelOk, RelM.
-/
import Derived.Test.YtnjbihfceckpfaaG04IntS
import Derived.Laws.AppendOwnNone
import Derived.Test.YtnjbihfceckpfaaG00Stmt
import Derived.Laws.BitsAllLaws
/-
 spec.l1Has, spec.l1Put: a number into a list that rises, once.
-/
namespace Go.Proofs.Ytnjbihfceckpfaa
open Go.RowKit
set_option linter.unusedVariables false
set_option maxHeartbeats 1000000

/-- n into the list that rises. -/
def ins (n : Int) : List Int → List Int
 | [] => [n]
 | x :: xs => if x < n then x :: ins n xs else if x = n then x :: xs else n :: x :: xs

theorem ins_there (n : Int) : ∀ (xs : List Int) (k : Nat), (∀ (j : Nat) (x : Int), j < k → xs[j]? = some x → x < n) → xs[k]? = some n → ins n xs = xs
 | [], k, _, h => by simp at h
 | x :: xs, 0, _, h => by simp at h; subst h; simp [ins]
 | x :: xs, k + 1, ha, h => by
  have h0 := ha 0 x (by omega) rfl
  rw [ins, if_pos h0, ins_there n xs k (fun j y hj hy => ha (j + 1) y (by omega) (by simpa using hy)) (by simpa using h)]

theorem ins_new (n : Int) : ∀ (xs : List Int) (k : Nat), k ≤ xs.length → (∀ (j : Nat) (x : Int), j < k → xs[j]? = some x → x < n) → (∀ x, xs[k]? = some x → n < x) → ins n xs = xs.take k ++ [n] ++ xs.drop k
 | [], 0, _, _, _ => by simp [ins]
 | [], k + 1, h, _, _ => by simp at h
 | x :: xs, 0, _, _, h => by
  have := h x rfl
  rw [ins, if_neg (by omega), if_neg (by omega)]
  simp
 | x :: xs, k + 1, hk, ha, h => by
  have h0 := ha 0 x (by omega) rfl
  rw [ins, if_pos h0, ins_new n xs k (by simpa using hk) (fun j y hj hy => ha (j + 1) y (by omega) (by simpa using hy)) (fun y hy => h y (by simpa using hy))]
  simp

theorem infoInt : (Try.prog.info? 2).map (fun i => (i.zero, i.size, i.bytes)) = some (some (.int .i64 0), 1, 8) := by kernel_rfl

theorem ints_oneCell (xs : List Int) : ∀ y ∈ ints xs, y.oneCell' = true := by
 intro y hy
 obtain ⟨t, _, rfl⟩ := List.mem_map.1 hy
 rfl

/-- The source of an append: nil, or a row. -/
theorem own_shape {w : World} {base : Nat} {e : TypeId} {v : Value} {n : Nat} {xs : List Value} (h : w.ownsRow base e 1 v n xs) :
 (v = .slice none 0 0 ∧ n = 0 ∧ xs = []) ∨ ∃ g cap, v = .slice (some ⟨g, 0, none⟩) n cap ∧ xs.length = n ∧ (∀ j u, xs[j]? = some u → w.cell? ((⟨g, 0, none⟩ : Addr).add j) = some u) := by
 have hl := h.1
 simp only [Nat.mul_one] at hl
 rcases h.2 with ⟨rfl, rfl⟩ | ⟨g, cap, cur, rfl, _⟩
 · exact .inl ⟨rfl, rfl, List.eq_nil_of_length_eq_zero hl⟩
 · exact .inr ⟨g, cap, rfl, hl, h.cells rfl⟩

/-- append(out, l...), out the call's own, l a row of the call's own or nil. -/
theorem wpList_append_rows {P : Program} (w : World) {ops : Array Oper} {rest : List Oper} {o : Oper} {a : Act} {Q : Exit → Act → World → Prop} (hgd : o.guard = none) (s x : Operand) (t : TypeId)
 (ho : o.op = .call { callee := .builtin .append, args := #[s, x], argTypes := #[t, t] })
 (base : Nat) (e : TypeId) (i : TypeInfo) (z : Value) (bytes : Nat) (ht : P.underlying t = some (.slice e)) (hi : P.info? e = some i) (hz : i.zero = some z)
 (hsize : i.size = 1) (hby : i.bytes = bytes) (hzs : z.cells.size = 1)
 (v : Value) (n : Nat) (xs : List Value) (hs : a.eval s = v) (hown : w.ownsRow base e 1 v n xs)
 (u : Value) (base' m : Nat) (ys : List Value) (hx : a.eval x = u) (hsrc : w.ownsRow base' e 1 u m ys) (h1 : ∀ y ∈ ys, y.oneCell' = true)
 (h63 : n + m ≤ maxLen) (hbytes : (n + m) * bytes ≤ 140737488355328) (hbase : base ≤ w.heap.size)
 (h : ∀ v' w', w'.ownsRow base e 1 v' (n + m) (xs ++ ys) → w.grownBy w' v.ownBlock → wpList P ops Q rest (a.put o.dst v') w') : wpList P ops Q (o :: rest) a w := by
 rcases own_shape hsrc with ⟨rfl, rfl, rfl⟩ | ⟨g, cap, rfl, hl, hc⟩
 · exact wpList_append_own_none hgd s x t ho base e i 1 ht hi v n xs hs hown hx (h v w (by simpa using hown) (World.grownBy.refl _ _))
 · exact wpList_append_own w hgd s x t ho base e i z 1 bytes ht hi hz hsize hby hzs (by decide) v n xs hs hown ⟨g, 0, none⟩ m cap ys hx (by simpa using hl) hc h1 h63 hbytes hbase (fun v' w' a1 a2 _ => h v' w' a1 a2)

theorem below_app {w W w1 : World} {row : Option Nat} (hW : Below w.heap.size w W) (hg : W.grownBy w1 row) (hrow : ∀ k, row = some k → w.heap.size ≤ k) : Below w.heap.size w w1 := hW.grown hg hW.size hrow

theorem cells_drop {w W : World} {g k : Nat} {xs : List Int} (hW : Below w.heap.size w W) (hc : ∀ (j : Nat) (x : Int), xs[j]? = some x → w.cell? ⟨g, j, none⟩ = some (.int .i64 x)) :
 ∀ j u, ((ints xs).drop k)[j]? = some u → W.cell? ((⟨g, k, none⟩ : Addr).add j) = some u := by
 intro j u h
 rw [List.getElem?_drop] at h
 simp only [ints, List.getElem?_map, Option.map_eq_some_iff] at h
 obtain ⟨x, hx, rfl⟩ := h
 have h1 := hc _ x hx
 have : (⟨g, k, none⟩ : Addr).add j = ⟨g, k + j, none⟩ := by unfold Addr.add; split <;> simp_all
 rw [this, hW.cell (World.block_lt_of_cell? w _ h1)]
 exact h1

theorem cells_take {w W : World} {g k : Nat} {xs : List Int} (hW : Below w.heap.size w W) (hc : ∀ (j : Nat) (x : Int), xs[j]? = some x → w.cell? ⟨g, j, none⟩ = some (.int .i64 x)) :
 ∀ j u, ((ints xs).take k)[j]? = some u → W.cell? ((⟨g, 0, none⟩ : Addr).add j) = some u := by
 intro j u h
 have hj : j < k := by
  rcases Nat.lt_or_ge j k with h' | h'
  · exact h'
  · rw [List.getElem?_take, if_neg (by omega)] at h; cases h
 rw [List.getElem?_take, if_pos hj] at h
 simp only [ints, List.getElem?_map, Option.map_eq_some_iff] at h
 obtain ⟨x, hx, rfl⟩ := h
 have h1 := hc _ x hx
 have : (⟨g, 0, none⟩ : Addr).add j = ⟨g, j, none⟩ := by unfold Addr.add; split <;> simp_all
 rw [this, hW.cell (World.block_lt_of_cell? w _ h1)]
 exact h1

theorem oneCell_take {xs : List Int} (k : Nat) : ∀ y ∈ (ints xs).take k, y.oneCell' = true := fun y hy => ints_oneCell xs y (List.mem_of_mem_take hy)
theorem oneCell_drop {xs : List Int} (k : Nat) : ∀ y ∈ (ints xs).drop k, y.oneCell' = true := fun y hy => ints_oneCell xs y (List.mem_of_mem_drop hy)

theorem made0 (w : World) : (w.alloc (.cells #[] 2)).ownsRow w.heap.size 2 1 (.slice (some ⟨w.heap.size, 0, none⟩) 0 0) 0 [] :=
 World.ownsRow_made w #[] 0 (Nat.le_refl _) (by decide) (by simp)

theorem cell_one (w : World) (n : Int) : ∀ (j : Nat) (u : Value), [Value.int .i64 n][j]? = some u → (w.alloc (.cells #[.int .i64 n] 2)).cell? ((⟨w.heap.size, 0, none⟩ : Addr).add j) = some u := by
 intro j u h
 cases j with
 | zero => simp at h; subst h; simp [Addr.add]
 | succ j => simp at h

theorem nil_cells {zs : List Value} (hz : zs = []) {W : World} (ad : Addr) : ∀ j u, zs[j]? = some u → W.cell? (ad.add j) = some u := by
 intro j u h
 rw [hz] at h
 simp at h

theorem le_alloc {w1 w2 : World} {o o' : Obj} (h : (w1.alloc o).heap.size ≤ w2.heap.size) : w1.heap.size ≤ (w2.alloc o').heap.size := by
 simp at h ⊢; omega

theorem le_alloc2 {w1 w2 w3 : World} {o o' : Obj} (h : (w1.alloc o).heap.size ≤ w2.heap.size) (k : (w2.alloc o').heap.size ≤ w3.heap.size) : w1.heap.size ≤ w3.heap.size := by
 simp at h k; omega

theorem oneCell_drop0 {xs : List Int} (k : Nat) : ∀ y ∈ [] ++ (ints xs).drop k, y.oneCell' = true := by
 rw [List.nil_append]
 exact oneCell_drop k

theorem put_end {w w4 : World} {base b1 k n4 : Nat} {n : Int} {xs R : List Int} {v4 : Value} {zs : List Value} (hz : zs = (ints xs).drop k) (hR : ins n xs = R) (hi : ins n xs = xs.take k ++ [n] ++ xs.drop k)
 (own4 : w4.ownsRow b1 2 1 v4 n4 (([] ++ (ints xs).take k) ++ [.int .i64 n] ++ ([] ++ zs))) (L4 : Below w.heap.size w w4) (hb : base ≤ b1) (hb1 : w.heap.size ≤ b1) (g : Nat) :
 ∃ g' cap', Ending.returned v4 = .returned (.slice (some ⟨g', 0, none⟩) R.length cap') ∧ w4.ownsRow base 2 1 (.slice (some ⟨g', 0, none⟩) R.length cap') R.length (ints R) ∧ Below w.heap.size w w4 ∧ (g' = g ∨ w.heap.size ≤ g') := by
 have e : ([] ++ (ints xs).take k) ++ [Value.int .i64 n] ++ ([] ++ zs) = ints R := by
  rw [hz, ← hR, hi]
  simp [ints, List.map_append, List.map_take, List.map_drop]
 rw [e] at own4
 have hl := own4.1
 rw [ints_length] at hl
 have hR1 : 1 ≤ R.length := by
  rw [← hR, hi]
  simp; omega
 obtain rfl : n4 = R.length := by omega
 rcases own4.2 with ⟨_, h0⟩ | ⟨g', cap', cur, rfl, _⟩
 · omega
 · exact ⟨g', cap', rfl, own_mono own4 hb, L4, .inr (Nat.le_trans hb1 (own4.lt g' rfl).1)⟩

theorem l1PutAt (xs : List Int) (n : Int) (g cap base : Nat) (w : World) (hl : xs.length ≤ 1000000) (hbase : base ≤ w.heap.size)
 (hv : w.ownsRow base 2 1 (.slice (some ⟨g, 0, none⟩) xs.length cap) xs.length (ints xs)) :
 Calls Try.prog 134 #[.slice (some ⟨g, 0, none⟩) xs.length cap, .int .i64 n] w fun e w' =>
  ∃ g' cap', e = .returned (.slice (some ⟨g', 0, none⟩) (ins n xs).length cap') ∧ w'.ownsRow base 2 1 (.slice (some ⟨g', 0, none⟩) (ins n xs).length cap') (ins n xs).length (ints (ins n xs)) ∧ Below w.heap.size w w' ∧ (g' = g ∨ w.heap.size ≤ g') := by
 obtain ⟨i0, hi, hz0, hz1, hz2⟩ := info_parts infoInt
 have hcell : ∀ (k : Nat) (x : Int), xs[k]? = some x → w.cell? ⟨g, k, none⟩ = some (.int .i64 x) := fun k x hx => by
  have hk : k < xs.length := (List.getElem?_eq_some_iff.1 hx).1
  rw [hv.cellAt k (by omega)]
  simp [ints, hx]
 have hcap : xs.length ≤ cap ∧ cap ≤ maxLen := by
  rcases hv.2 with ⟨h, _⟩ | ⟨g', cap', cur, h, _, _, h1, h2, _⟩
  · cases h
  · simp only [Value.slice.injEq] at h
    obtain ⟨_, _, rfl⟩ := h
    exact ⟨h1, h2⟩
 obtain ⟨hcap, hcap2⟩ := hcap
 unfold maxLen at hcap2
 obtain ⟨R, hR⟩ : ∃ R, ins n xs = R := ⟨_, rfl⟩
 rw [hR]
 have HR : Hid _ := hR
 clear hR
 go_enter Try.func134, Try.ntmps134
 go_wp2
 go_loopw [5] (fun i wr => ∃ k : Nat, k ≤ xs.length ∧ i = .int .i64 k ∧ w = wr ∧ ∀ (j : Nat) (x : Int), j < k → xs[j]? = some x → x < n) (fun i _ => xs.length - (intOf i).toNat)
 case atStart => exact ⟨0, Nat.zero_le _, rfl, rfl, fun j x h => by omega⟩
 case round =>
  obtain ⟨k, hk, rfl, rfl, hno⟩ := hrel
  have HNO : Hid _ := hno
  clear hno
  have HV : Hid (w.ownsRow base 2 1 (.slice (some ⟨g, 0, none⟩) xs.length cap) xs.length (ints xs)) := hv
  have HC : Hid _ := hcell
  by_cases hlt : k < xs.length
  · have hlt' : (k : Int) < (xs.length : Int) := by omega
    have hkx : xs[k]? = some xs[k] := by simp [hlt]
    have hc0 := hcell k xs[k] hkx
    have HX : Hid _ := hkx
    clear hkx hcell
    generalize xs[k] = x at *
    by_cases hx : x < n
    · clear hv
      go_wp2
      go_roundw
      case rel =>
       refine ⟨k + 1, by omega, by go_num, by trivial, fun j y hj hy => ?_⟩
       by_cases hjk : j < k
       · exact HNO.out j y hjk hy
       · obtain rfl : j = k := by omega
         rw [HX.out] at hy
         obtain rfl := Option.some.inj hy
         exact hx
      case measure => simp [intOf]; omega
    · by_cases hxn : x = n
      · subst hxn
        clear hv
        go_wp2
        go_ret
        have he := ins_there x xs k HNO.out HX.out
        rw [HR.out] at he
        subst he
        exact ⟨g, cap, rfl, HV.out, Below.refl _ _, .inl rfl⟩
      · have hx1 : decide (x < n) = false := by simpa using hx
        have hx2 : (x == n) = false := by simpa using hxn
        have NX : Hid (∀ x, xs[k]? = some x → n < x) := by
         intro y hy
         rw [HX.out] at hy
         obtain rfl := Option.some.inj hy
         omega
        have B0 : Hid (Below w.heap.size w (w.alloc (.cells #[] 2))) := by
         show Below w.heap.size w (w.alloc (.cells #[] 2))
         go_grown
        have D1 : Hid (((ints xs).drop k).length = (xs.length - k) * 1) := by
         show ((ints xs).drop k).length = (xs.length - k) * 1
         simp [ints_length]
        have D2 : Hid (((ints xs).take k).length = k * 1) := by
         show ((ints xs).take k).length = k * 1
         simp [ints_length]; omega
        have hck : ¬ cap = k := by omega
        clear hv
        go_wp2_with (first
         | (at_builtin; refine wpList_append_own _ rfl (.tmp 34) (.tmp 37) 26 rfl w.heap.size 2 i0 (.int .i64 0) 1 8 Try.underlying26 hi hz0 hz1 hz2 rfl (by decide) _ 0 [] rfl (made0 w) ⟨g, k, none⟩ (xs.length - k) _ ((ints xs).drop k) rfl D1.out (cells_drop B0.out HC.out) (oneCell_drop k) (by unfold maxLen; omega) (by omega) (by simp) ?_; intro v1 w1 own1 grow1 _; have L1 := below_app B0.out grow1 (fun q hq => Nat.le_of_eq (Option.some.inj (show some w.heap.size = some q from hq))); have sz1 := L1.size; have B1 : Below w.heap.size w (w1.alloc (.cells #[] 2)) := L1.alloc sz1 _)
         | (at_builtin; refine wpList_append_own _ rfl (.tmp 39) (.tmp 42) 26 rfl w1.heap.size 2 i0 (.int .i64 0) 1 8 Try.underlying26 hi hz0 hz1 hz2 rfl (by decide) _ 0 [] rfl (made0 w1) ⟨g, 0, none⟩ k _ ((ints xs).take k) rfl D2.out (cells_take B1 HC.out) (oneCell_take k) (by unfold maxLen; omega) (by omega) (by simp) ?_; intro v2 w2 own2 grow2 _; have t2 := own_grown (own1.alloc (.cells #[] 2)) grow2 (fun q hq e => Nat.ne_of_gt (own1.lt q hq).2 (Option.some.inj (show some w1.heap.size = some q from e))); have L2 := below_app B1 grow2 (fun q hq => Nat.le_trans sz1 (Nat.le_of_eq (Option.some.inj (show some w1.heap.size = some q from hq)))); have sz2 := L2.size; have B2 : Below w.heap.size w (w2.alloc (.cells #[.int .i64 n] 2)) := L2.alloc sz2 _; have g2s := grow2.size)
         | (at_builtin; refine wpList_append_own _ rfl (.tmp 43) (.tmp 45) 26 rfl w1.heap.size 2 i0 (.int .i64 0) 1 8 Try.underlying26 hi hz0 hz1 hz2 rfl (by decide) _ _ _ rfl (own2.alloc _) ⟨w2.heap.size, 0, none⟩ 1 _ [.int .i64 n] rfl rfl (cell_one w2 n) (ints_oneCell [n]) (by unfold maxLen; omega) (by omega) (le_alloc g2s) ?_; intro v3 w3 own3 grow3 _; have t3 := own_grown (t2.alloc (.cells #[.int .i64 n] 2)) grow3 (fun q hq e => by have h1 := (own1.lt q hq).2; have h2 := (own2.lt q e).1; omega); have L3 := below_app B2 grow3 (fun q hq => by have := (own2.lt q hq).1; omega); have sz3 := L3.size; have g3s := grow3.size)
         | (at_builtin; refine wpList_append_rows _ rfl (.tmp 46) (.tmp 47) 26 rfl w1.heap.size 2 i0 (.int .i64 0) 8 Try.underlying26 hi hz0 hz1 hz2 rfl _ _ _ rfl own3 _ w.heap.size _ _ rfl t3 (oneCell_drop0 k) (by unfold maxLen; omega) (by omega) (le_alloc2 g2s g3s) ?_; intro v4 w4 own4 grow4; have L4 := below_app L3 grow4 (fun q hq => by have := (own3.lt q hq).1; omega))
         | go_in)
        go_ret
        exact put_end rfl HR.out (ins_new n xs k hk HNO.out NX.out) own4 L4 (by omega) (by omega) g
  · obtain rfl : k = xs.length := by omega
    have NX : Hid (∀ x, xs[xs.length]? = some x → n < x) := by
     intro y hy
     rw [List.getElem?_eq_none (by omega)] at hy
     cases hy
    have B0 : Hid (Below w.heap.size w (w.alloc (.cells #[] 2))) := by
     show Below w.heap.size w (w.alloc (.cells #[] 2))
     go_grown
    have D2 : Hid (((ints xs).take xs.length).length = xs.length * 1) := by
     show ((ints xs).take xs.length).length = xs.length * 1
     simp [ints_length]
    have DN : Hid ((ints xs).drop xs.length = []) := by
     show (ints xs).drop xs.length = []
     rw [List.drop_of_length_le (by rw [ints_length]; omega)]
    clear hv
    by_cases hck : cap = xs.length
    · go_wp2_with (first
       | (at_builtin; refine wpList_append_own _ rfl (.tmp 34) (.tmp 37) 26 rfl w.heap.size 2 i0 (.int .i64 0) 1 8 Try.underlying26 hi hz0 hz1 hz2 rfl (by decide) _ 0 [] rfl (made0 w) _ 0 _ [] rfl rfl (nil_cells rfl _) (by simp) (by unfold maxLen; omega) (by omega) (by simp) ?_; intro v1 w1 own1 grow1 _; have L1 := below_app B0.out grow1 (fun q hq => Nat.le_of_eq (Option.some.inj (show some w.heap.size = some q from hq))); have sz1 := L1.size; have B1 : Below w.heap.size w (w1.alloc (.cells #[] 2)) := L1.alloc sz1 _)
       | (at_builtin; refine wpList_append_own _ rfl (.tmp 39) (.tmp 42) 26 rfl w1.heap.size 2 i0 (.int .i64 0) 1 8 Try.underlying26 hi hz0 hz1 hz2 rfl (by decide) _ 0 [] rfl (made0 w1) ⟨g, 0, none⟩ xs.length _ ((ints xs).take xs.length) rfl D2.out (cells_take B1 HC.out) (oneCell_take xs.length) (by unfold maxLen; omega) (by omega) (by simp) ?_; intro v2 w2 own2 grow2 _; have t2 := own_grown (own1.alloc (.cells #[] 2)) grow2 (fun q hq e => Nat.ne_of_gt (own1.lt q hq).2 (Option.some.inj (show some w1.heap.size = some q from e))); have L2 := below_app B1 grow2 (fun q hq => Nat.le_trans sz1 (Nat.le_of_eq (Option.some.inj (show some w1.heap.size = some q from hq)))); have sz2 := L2.size; have B2 : Below w.heap.size w (w2.alloc (.cells #[.int .i64 n] 2)) := L2.alloc sz2 _; have g2s := grow2.size)
       | (at_builtin; refine wpList_append_own _ rfl (.tmp 43) (.tmp 45) 26 rfl w1.heap.size 2 i0 (.int .i64 0) 1 8 Try.underlying26 hi hz0 hz1 hz2 rfl (by decide) _ _ _ rfl (own2.alloc _) ⟨w2.heap.size, 0, none⟩ 1 _ [.int .i64 n] rfl rfl (cell_one w2 n) (ints_oneCell [n]) (by unfold maxLen; omega) (by omega) (le_alloc g2s) ?_; intro v3 w3 own3 grow3 _; have t3 := own_grown (t2.alloc (.cells #[.int .i64 n] 2)) grow3 (fun q hq e => by have h1 := (own1.lt q hq).2; have h2 := (own2.lt q e).1; omega); have L3 := below_app B2 grow3 (fun q hq => by have := (own2.lt q hq).1; omega); have sz3 := L3.size; have g3s := grow3.size)
       | (at_builtin; refine wpList_append_rows _ rfl (.tmp 46) (.tmp 47) 26 rfl w1.heap.size 2 i0 (.int .i64 0) 8 Try.underlying26 hi hz0 hz1 hz2 rfl _ _ _ rfl own3 _ w.heap.size _ _ rfl t3 (by simp) (by unfold maxLen; omega) (by omega) (le_alloc2 g2s g3s) ?_; intro v4 w4 own4 grow4; have L4 := below_app L3 grow4 (fun q hq => by have := (own3.lt q hq).1; omega))
       | go_in)
      go_ret
      exact put_end DN.out.symm HR.out (ins_new n xs xs.length hk HNO.out NX.out) own4 L4 (by omega) (by omega) g
    · go_wp2_with (first
       | (at_builtin; refine wpList_append_own _ rfl (.tmp 34) (.tmp 37) 26 rfl w.heap.size 2 i0 (.int .i64 0) 1 8 Try.underlying26 hi hz0 hz1 hz2 rfl (by decide) _ 0 [] rfl (made0 w) _ 0 _ [] rfl rfl (nil_cells rfl _) (by simp) (by unfold maxLen; omega) (by omega) (by simp) ?_; intro v1 w1 own1 grow1 _; have L1 := below_app B0.out grow1 (fun q hq => Nat.le_of_eq (Option.some.inj (show some w.heap.size = some q from hq))); have sz1 := L1.size; have B1 : Below w.heap.size w (w1.alloc (.cells #[] 2)) := L1.alloc sz1 _)
       | (at_builtin; refine wpList_append_own _ rfl (.tmp 39) (.tmp 42) 26 rfl w1.heap.size 2 i0 (.int .i64 0) 1 8 Try.underlying26 hi hz0 hz1 hz2 rfl (by decide) _ 0 [] rfl (made0 w1) ⟨g, 0, none⟩ xs.length _ ((ints xs).take xs.length) rfl D2.out (cells_take B1 HC.out) (oneCell_take xs.length) (by unfold maxLen; omega) (by omega) (by simp) ?_; intro v2 w2 own2 grow2 _; have t2 := own_grown (own1.alloc (.cells #[] 2)) grow2 (fun q hq e => Nat.ne_of_gt (own1.lt q hq).2 (Option.some.inj (show some w1.heap.size = some q from e))); have L2 := below_app B1 grow2 (fun q hq => Nat.le_trans sz1 (Nat.le_of_eq (Option.some.inj (show some w1.heap.size = some q from hq)))); have sz2 := L2.size; have B2 : Below w.heap.size w (w2.alloc (.cells #[.int .i64 n] 2)) := L2.alloc sz2 _; have g2s := grow2.size)
       | (at_builtin; refine wpList_append_own _ rfl (.tmp 43) (.tmp 45) 26 rfl w1.heap.size 2 i0 (.int .i64 0) 1 8 Try.underlying26 hi hz0 hz1 hz2 rfl (by decide) _ _ _ rfl (own2.alloc _) ⟨w2.heap.size, 0, none⟩ 1 _ [.int .i64 n] rfl rfl (cell_one w2 n) (ints_oneCell [n]) (by unfold maxLen; omega) (by omega) (le_alloc g2s) ?_; intro v3 w3 own3 grow3 _; have t3 := own_grown (t2.alloc (.cells #[.int .i64 n] 2)) grow3 (fun q hq e => by have h1 := (own1.lt q hq).2; have h2 := (own2.lt q e).1; omega); have L3 := below_app B2 grow3 (fun q hq => by have := (own2.lt q hq).1; omega); have sz3 := L3.size; have g3s := grow3.size)
       | (at_builtin; refine wpList_append_rows _ rfl (.tmp 46) (.tmp 47) 26 rfl w1.heap.size 2 i0 (.int .i64 0) 8 Try.underlying26 hi hz0 hz1 hz2 rfl _ _ _ rfl own3 _ w.heap.size _ _ rfl t3 (by simp) (by unfold maxLen; omega) (by omega) (le_alloc2 g2s g3s) ?_; intro v4 w4 own4 grow4; have L4 := below_app L3 grow4 (fun q hq => by have := (own3.lt q hq).1; omega))
       | go_in)
      go_ret
      exact put_end DN.out.symm HR.out (ins_new n xs xs.length hk HNO.out NX.out) own4 L4 (by omega) (by omega) g

theorem l1Put (xs : List Int) (n : Int) (g cap base : Nat) (w : World) (hl : xs.length ≤ 1000000) (hbase : base ≤ w.heap.size)
 (hv : w.ownsRow base 2 1 (.slice (some ⟨g, 0, none⟩) xs.length cap) xs.length (ints xs)) :
 Calls Try.prog 134 #[.slice (some ⟨g, 0, none⟩) xs.length cap, .int .i64 n] w fun e w' =>
  ∃ g' cap', e = .returned (.slice (some ⟨g', 0, none⟩) (ins n xs).length cap') ∧ w'.ownsRow base 2 1 (.slice (some ⟨g', 0, none⟩) (ins n xs).length cap') (ins n xs).length (ints (ins n xs)) ∧ Below w.heap.size w w' :=
 (l1PutAt xs n g cap base w hl hbase hv).mono (fun _ _ ⟨g', cap', h1, h2, h3, _⟩ => ⟨g', cap', h1, h2, h3⟩)

end Go.Proofs.Ytnjbihfceckpfaa

/-
 The laws' helpers over lists of numbers: likeInts, has, rises; the draw l1From.
-/
namespace Go.Proofs.Ytnjbihfceckpfaa
open Go.RowKit
set_option linter.unusedVariables false
set_option maxHeartbeats 1000000

theorem l1From (g : Nat) (bs : List Int) (lo hi : Int) (h0 : -1000000 ≤ lo) (h1 : lo ≤ hi) (h2 : hi ≤ 1000000) (w : World) (hl : bs.length ≤ 1048576) (hc : Cur w g bs) :
 Calls Try.prog 87 #[.pointer (some ⟨g, 0, none⟩), .int .i64 lo, .int .i64 hi] w fun e w' => ∃ x : Int, e = .returned (.int .i64 x) ∧ lo ≤ x ∧ x ≤ hi ∧ Cur w' g bs ∧ w.grownBy w' (some g) := by
 have hbel := l1Below g bs (hi - lo + 1) (by omega) w hl hc
 go_enter Try.func87, Try.ntmps87
 go_wp2_with fail
 go_at_call 86
 refine hbel.mono ?_
 rintro e w1 ⟨x, rfl, hx0, hx1, _, hc1, hg1⟩
 have hx1 := hx1 (by omega)
 go_wp2
 go_ret
 exact ⟨lo + x, rfl, by omega, by omega, hc1, hg1⟩

end Go.Proofs.Ytnjbihfceckpfaa

/-
 Chapter 6: RelOk, both sides.
-/
namespace Go.Proofs.Ytnjbihfceckpfaa
open Go.RowKit
set_option linter.unusedVariables false
set_option maxHeartbeats 1000000

/-- Is it a relation: seven sets, each from 0 to 127? -/
def relOk (xs : List Int) : Bool := xs.all (fun x => inB x 0 127) && decide (xs.length = 7)

theorem wiB_inB (x : Int) : wiB x 128 = inB x 0 127 := by
 unfold wiB inB
 congr 1
 simp only [decide_eq_decide]
 omega

theorem take_all {xs : List Int} {k : Nat} (hk : k < xs.length) (h : (xs.take k).all (fun x => inB x 0 127) = true) (hx : inB xs[k] 0 127 = true) : (xs.take (k + 1)).all (fun x => inB x 0 127) = true := by
 rw [List.take_add_one, List.getElem?_eq_getElem hk]
 simp only [Option.toList_some, List.all_append, h, List.all_cons, hx, List.all_nil, Bool.and_self]

theorem all_not {xs : List Int} {k : Nat} (hk : k < xs.length) (hx : inB xs[k] 0 127 = false) : xs.all (fun x => inB x 0 127) = false := by
 rw [List.all_eq_false]
 exact ⟨xs[k], List.getElem_mem hk, by simp [hx]⟩

theorem implRelOk (xs : List Int) (v : Value) (w : World) (hl : xs.length ≤ maxLen) (hv : Reads w v (ints xs)) :
 Calls Try.prog 146 #[v] w fun e w' => e = .returned (.bool (relOk xs)) ∧ Below w.heap.size w w' := by
 unfold maxLen at hl
 obtain ⟨ao, cap, rfl, hc⟩ := hv
 simp only [ints_length]
 by_cases h7 : (xs.length : Int) = 7
 · have h7' : xs.length = 7 := by omega
   go_enter Try.func146, Try.ntmps146
   go_wp2
   go_loopw [10] (fun i wr => ∃ k : Nat, k ≤ xs.length ∧ i = .int .i64 k ∧ w = wr ∧ (xs.take k).all (fun x => inB x 0 127) = true) (fun i _ => xs.length - (intOf i).toNat)
   case atStart => exact ⟨0, Nat.zero_le _, rfl, rfl, by simp⟩
   case round =>
    obtain ⟨k, hk, rfl, rfl, hb⟩ := hrel
    by_cases hlt : k < xs.length
    · have hlt' : (k : Int) < 7 := by omega
      obtain ⟨g, off, rfl, hg⟩ := hc k (.int .i64 xs[k]) (by simp [ints, hlt])
      have ht := take_all hlt hb
      have hn := all_not hlt
      clear hc hb
      have HT : Hid _ := ht
      have HN : Hid _ := hn
      clear ht hn
      generalize xs[k] = x at *
      cases hx : inB x 0 127
      · go_wp2_with (go_at_call 137; refine (within _ _ _).mono ?_; rintro e w1 ⟨rfl, rfl⟩; simp only [wiB_inB, hx])
        go_ret
        exact ⟨by rw [relOk, HN.out hx, Bool.false_and]; rfl, Below.refl _ _⟩
      · go_wp2_with (go_at_call 137; refine (within _ _ _).mono ?_; rintro e w1 ⟨rfl, rfl⟩; simp only [wiB_inB, hx])
        go_roundw
        case rel => exact ⟨k + 1, by omega, by go_num, trivial, HT.out hx⟩
        case measure => simp [intOf]; omega
    · have hkk : k = xs.length := by omega
      rw [hkk, List.take_length] at hb
      have h8 : relOk xs = true := by rw [relOk, hb, Bool.true_and]; simp [h7']
      have H8 : Hid _ := h8
      have hlt' : ¬ (k : Int) < 7 := by omega
      clear hb h8
      go_wp2
      go_ret
      exact ⟨by rw [H8.out]; rfl, Below.refl _ _⟩
 · have h8 : relOk xs = false := by
    have : ¬ xs.length = 7 := by omega
    simp [relOk, this]
   rw [h8]
   go_enter Try.func146, Try.ntmps146
   go_wp2
   go_ret
   exact ⟨rfl, Below.refl _ _⟩

end Go.Proofs.Ytnjbihfceckpfaa

/-
 Chapter 6, mathematics: relations as lists of seven sets; what they make, composed and joined, bit by bit.
-/
namespace Go.Proofs.Ytnjbihfceckpfaa
open Go.RowKit
set_option linter.unusedVariables false

/-- Both sets together. -/
def lor (a b : Int) : Int := bits .or .i64 a b

/-- Is t in the set? -/
def bit (x : Int) (t : Nat) : Bool := x.toNat.testBit t

/-- What the facts below k of the set s make. -/
def imgK (rs : List Int) (s : Int) : Nat → Int
 | 0 => 0
 | k + 1 => if bit s k = true then lor (imgK rs s k) (rs.getD k 0) else imgK rs s k

def img (rs : List Int) (s : Int) : Int := imgK rs s 7

def comp (xs ys : List Int) : List Int := xs.map (img ys)

def joi (xs ys : List Int) : List Int := List.zipWith lor xs ys

def imageAns (rs : List Int) (s : Int) : Int := if relOk rs && inB s 0 127 then img rs s else -1
def unitL : List Int := [1, 2, 4, 8, 16, 32, 64]

theorem ofInt_i64 (a : Nat) (ha : a < 9223372036854775808) : (BitVec.ofInt 64 (a : Int)).toNat = a := by
 rw [BitVec.ofInt_natCast, BitVec.toNat_ofNat]; exact Nat.mod_eq_of_lt (by omega)

theorem wrap_nat (c : Nat) (h : c < 2 ^ 63) : IntKind.i64.wrap (c : Int) = c := by
 simp [IntKind.wrap, IntKind.bits, IntKind.signed]
 omega

theorem i64_or_nat (a b : Nat) (ha : a < 9223372036854775808) (hb : b < 9223372036854775808) : bits .or .i64 (a : Int) (b : Int) = ((a ||| b : Nat) : Int) := by
 have hx : a ||| b < 2 ^ 63 := Nat.or_lt_two_pow (by omega) (by omega)
 show IntKind.i64.wrap ((BitVec.ofInt 64 (a : Int) ||| BitVec.ofInt 64 (b : Int)).toNat : Int) = _
 rw [BitVec.toNat_or, ofInt_i64 a ha, ofInt_i64 b hb]
 generalize a ||| b = c at *
 exact wrap_nat c hx

theorem i64_and_nat (a b : Nat) (ha : a < 9223372036854775808) (hb : b < 9223372036854775808) : bits .and .i64 (a : Int) (b : Int) = ((a &&& b : Nat) : Int) := by
 have hx : a &&& b < 2 ^ 63 := Nat.and_lt_two_pow _ (by omega)
 show IntKind.i64.wrap ((BitVec.ofInt 64 (a : Int) &&& BitVec.ofInt 64 (b : Int)).toNat : Int) = _
 rw [BitVec.toNat_and, ofInt_i64 a ha, ofInt_i64 b hb]
 generalize a &&& b = c at *
 exact wrap_nat c hx

/-- The set is from 0 to 127. -/
def Small (x : Int) : Prop := 0 ≤ x ∧ x ≤ 127

theorem small_in {x : Int} : inB x 0 127 = true ↔ Small x := by simp [inB, Small]

theorem small_nat {x : Int} (h : Small x) : ∃ n : Nat, x = n ∧ n < 2 ^ 7 := by
 obtain ⟨h1, h2⟩ := h
 exact ⟨x.toNat, by omega, by omega⟩

theorem lor_nat (a b : Nat) (ha : a < 2 ^ 7) (hb : b < 2 ^ 7) : lor (a : Int) (b : Int) = ((a ||| b : Nat) : Int) := i64_or_nat a b (by omega) (by omega)

theorem lor_small {a b : Int} (ha : Small a) (hb : Small b) : Small (lor a b) := by
 obtain ⟨m, rfl, hm⟩ := small_nat ha
 obtain ⟨n, rfl, hn⟩ := small_nat hb
 rw [lor_nat m n hm hn]
 have : m ||| n < 2 ^ 7 := Nat.or_lt_two_pow hm hn
 exact ⟨by omega, by omega⟩

theorem bit_lor {a b : Int} (ha : Small a) (hb : Small b) (t : Nat) : bit (lor a b) t = (bit a t || bit b t) := by
 obtain ⟨m, rfl, hm⟩ := small_nat ha
 obtain ⟨n, rfl, hn⟩ := small_nat hb
 rw [lor_nat m n hm hn]
 simp [bit, Nat.testBit_or]

theorem bit_ext {a b : Int} (ha : Small a) (hb : Small b) (h : ∀ t, t < 7 → bit a t = bit b t) : a = b := by
 obtain ⟨m, rfl, hm⟩ := small_nat ha
 obtain ⟨n, rfl, hn⟩ := small_nat hb
 congr 1
 refine Nat.eq_of_testBit_eq (fun t => ?_)
 by_cases ht : t < 7
 · exact h t ht
 · have e : 2 ^ 7 ≤ 2 ^ t := Nat.pow_le_pow_right (by omega) (by omega)
   rw [Nat.testBit_lt_two_pow (Nat.lt_of_lt_of_le hm e), Nat.testBit_lt_two_pow (Nat.lt_of_lt_of_le hn e)]

/-- One bit, as both programs ask for it. -/
theorem bit_mod {s : Int} (k : Nat) (hs : 0 ≤ s) : (s / 2 ^ k) % 2 = if bit s k = true then 1 else 0 := by
 obtain ⟨n, rfl⟩ := Int.eq_ofNat_of_zero_le hs
 simp only [bit, Int.toNat_natCast, Nat.testBit_eq_decide_div_mod_eq]
 have : ((n : Int) / 2 ^ k) % 2 = ((n / 2 ^ k % 2 : Nat) : Int) := by push_cast; rfl
 rw [this]
 have h2 : n / 2 ^ k % 2 < 2 := Nat.mod_lt _ (by omega)
 by_cases h : n / 2 ^ k % 2 = 1
 · rw [if_pos (by simpa using h), h]; rfl
 · rw [if_neg (by simpa using h)]; omega

theorem bit_and {s : Int} (k : Nat) (hs : Small s) : bits .and .i64 (s / 2 ^ k) 1 = if bit s k = true then 1 else 0 := by
 rw [← bit_mod k hs.1]
 obtain ⟨n, rfl, hn⟩ := small_nat hs
 have e : ((n : Int) / 2 ^ k) = ((n / 2 ^ k : Nat) : Int) := by push_cast; rfl
 have hle : n / 2 ^ k ≤ n := Nat.div_le_self _ _
 rw [e]
 have := i64_and_nat (n / 2 ^ k) 1 (by omega) (by omega)
 rw [Nat.and_one_is_mod] at this
 refine Eq.trans this ?_
 push_cast
 rfl

theorem bit_tmod {s : Int} (k : Nat) (hs : Small s) : (s / 2 ^ k).tmod 2 = if bit s k = true then 1 else 0 := by
 rw [← bit_mod k hs.1]
 refine Int.tmod_eq_emod_of_nonneg ?_
 exact Int.ediv_nonneg hs.1 (Int.pow_nonneg (by omega))

/-- All of the list are sets. -/
def Smalls (xs : List Int) : Prop := xs.length = 7 ∧ ∀ x ∈ xs, Small x

theorem relOk_iff {xs : List Int} : relOk xs = true ↔ Smalls xs := by
 simp only [relOk, Bool.and_eq_true, List.all_eq_true, decide_eq_true_eq, Smalls, small_in]
 exact And.comm

theorem Smalls.getD {xs : List Int} (h : Smalls xs) (k : Nat) : Small (xs.getD k 0) := by
 rcases Nat.lt_or_ge k xs.length with hk | hk
 · have : xs.getD k 0 = xs[k] := by simp [List.getD, hk]
   rw [this]; exact h.2 _ (List.getElem_mem hk)
 · have : xs.getD k 0 = 0 := by simp [List.getD, List.getElem?_eq_none hk]
   rw [this]; exact ⟨by omega, by omega⟩

theorem imgK_small {rs : List Int} (h : Smalls rs) (s : Int) : ∀ k, Small (imgK rs s k)
 | 0 => ⟨by simp [imgK], by simp [imgK]⟩
 | k + 1 => by
  rw [imgK]
  split
  · exact lor_small (imgK_small h s k) (h.getD k)
  · exact imgK_small h s k

theorem img_small {rs : List Int} (h : Smalls rs) (s : Int) : Small (img rs s) := imgK_small h s 7

theorem bit_zero (t : Nat) : bit 0 t = false := by simp [bit]

theorem bit_imgK {rs : List Int} (h : Smalls rs) (s : Int) (t : Nat) : ∀ k, bit (imgK rs s k) t = true ↔ ∃ i, i < k ∧ bit s i = true ∧ bit (rs.getD i 0) t = true
 | 0 => by simp [imgK, bit_zero]
 | k + 1 => by
  have ih := bit_imgK h s t k
  rw [imgK]
  by_cases hb : bit s k = true
  · rw [if_pos hb, bit_lor (imgK_small h s k) (h.getD k), Bool.or_eq_true, ih]
    constructor
    · rintro (⟨i, h1, h2, h3⟩ | h3)
      · exact ⟨i, by omega, h2, h3⟩
      · exact ⟨k, by omega, hb, h3⟩
    · rintro ⟨i, h1, h2, h3⟩
      by_cases e : i = k
      · subst e; exact .inr h3
      · exact .inl ⟨i, by omega, h2, h3⟩
  · rw [if_neg hb, ih]
    constructor
    · rintro ⟨i, h1, h2, h3⟩
      exact ⟨i, by omega, h2, h3⟩
    · rintro ⟨i, h1, h2, h3⟩
      by_cases e : i = k
      · subst e; exact absurd h2 hb
      · exact ⟨i, by omega, h2, h3⟩

theorem bit_img {rs : List Int} (h : Smalls rs) (s : Int) (t : Nat) : bit (img rs s) t = true ↔ ∃ i, i < 7 ∧ bit s i = true ∧ bit (rs.getD i 0) t = true := bit_imgK h s t 7

end Go.Proofs.Ytnjbihfceckpfaa
