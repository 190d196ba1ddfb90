/-
  Chapter 11: what was found out of a program, as it lies in memory: one block of 343 cells and two maps.
-/
import Derived.Test.YtnjbihfceckpfaaEntP
import Derived.Test.YtnjbihfceckpfaaMapPl
import Derived.Test.YtnjbihfceckpfaaG32ImplRels
namespace Go.Proofs.Ytnjbihfceckpfaa
open Go.RowKit
set_option linter.unusedVariables false
set_option linter.unusedSimpArgs false
set_option maxHeartbeats 1000000

/-- The cells of findings. -/
def FBc (v : Value) (gs : List (List Int)) (E : List Int) (A W : Nat) : List Value := v :: (ints gs.flatten ++ (ints E ++ [.map (some A), .map (some W)]))
def FB (w : World) (G : Nat) (v : Value) (gs : List (List Int)) (E : List Int) (A W : Nat) : Prop := w.heap[G]? = some (.cells (FBc v gs E A W).toArray 73 (0, 0))

section
variable {w w' : World} {G : Nat} {v : Value} {gs : List (List Int)} {E : List Int} {A W : Nat}

theorem FBc_len (hr : Rows7 48 gs) (hE : E.length = 4) : (FBc v gs E A W).length = 343 := by
  simp [FBc, ints_length, hr.flat, hE]
theorem FBc_row (hr : Rows7 48 gs) {j : Nat} (hj : j < 336) : (FBc v gs E A W)[1 + j]? = (ints gs.flatten)[j]? := by
  unfold FBc
  rw [Nat.add_comm, List.getElem?_cons_succ, List.getElem?_append_left (by rw [ints_length, hr.flat]; omega)]
theorem FBc_ent (hr : Rows7 48 gs) (hE : E.length = 4) {i : Nat} (hi : i < 4) : (FBc v gs E A W)[337 + i]? = some (.int .i64 (E.getD i 0)) := by
  unfold FBc
  have hl : (ints gs.flatten).length = 336 := by rw [ints_length, hr.flat]
  rw [show 337 + i = (336 + i) + 1 by omega, List.getElem?_cons_succ, List.getElem?_append_right (by omega), hl, show 336 + i - 336 = i by omega, List.getElem?_append_left (by rw [ints_length]; omega)]
  simp [ints, List.getD, hE, hi]
theorem FBc_map (hr : Rows7 48 gs) (hE : E.length = 4) : (FBc v gs E A W)[341]? = some (.map (some A)) ∧ (FBc v gs E A W)[342]? = some (.map (some W)) := by
  unfold FBc
  have hl : (ints gs.flatten).length = 336 := by rw [ints_length, hr.flat]
  have he : (ints E).length = 4 := by rw [ints_length, hE]
  constructor
  · rw [show 341 = (336 + 4) + 1 by omega, List.getElem?_cons_succ, List.getElem?_append_right (by omega), hl, show 336 + 4 - 336 = 4 by omega, List.getElem?_append_right (by omega), he]; rfl
  · rw [show 342 = (336 + 5) + 1 by omega, List.getElem?_cons_succ, List.getElem?_append_right (by omega), hl, show 336 + 5 - 336 = 5 by omega, List.getElem?_append_right (by omega), he]; rfl

theorem FB.lt (h : FB w G v gs E A W) : G < w.heap.size := (Array.getElem?_eq_some_iff.1 h).1
theorem FB.same (h : FB w G v gs E A W) (hb : w'.heap[G]? = w.heap[G]?) : FB w' G v gs E A W := hb.trans h
theorem FB.below (h : FB w G v gs E A W) (hb : Below w.heap.size w w') : FB w' G v gs E A W := h.same (hb.block G h.lt)
theorem FB.cell (h : FB w G v gs E A W) (k : Nat) : w.cell? ⟨G, k, none⟩ = (FBc v gs E A W)[k]? := by
  rw [cell_of_row w G k _ _ (0, 0) h]; simp
theorem FB.frozen (h : FB w G v gs E A W) (k : Nat) : w.frozen? ⟨G, k, none⟩ = false := by
  unfold World.frozen?
  rw [show w.heap[(⟨G, k, none⟩ : Addr).block]? = _ from h]
  simp
theorem FB.c0 (h : FB w G v gs E A W) : w.cell? ⟨G, 0, none⟩ = some v := by rw [h.cell]; rfl
theorem FB.ent (h : FB w G v gs E A W) (hr : Rows7 48 gs) (hE : E.length = 4) {i : Nat} (hi : i < 4) : w.cell? ⟨G, 337 + i, none⟩ = some (.int .i64 (E.getD i 0)) := by rw [h.cell, FBc_ent hr hE hi]
theorem FB.mA (h : FB w G v gs E A W) (hr : Rows7 48 gs) (hE : E.length = 4) : w.cell? ⟨G, 341, none⟩ = some (.map (some A)) := by rw [h.cell, (FBc_map hr hE).1]
theorem FB.mW (h : FB w G v gs E A W) (hr : Rows7 48 gs) (hE : E.length = 4) : w.cell? ⟨G, 342, none⟩ = some (.map (some W)) := by rw [h.cell, (FBc_map hr hE).2]
theorem FB.row (h : FB w G v gs E A W) (hr : Rows7 48 gs) {i k : Nat} (hi : i < 4) (hk : k < 12) : w.rangeAt G (1 + i * 84 + k * 7) (ints (gs.getD (12 * i + k) [])) := fun j x hx => by
  have hjr := hr.row (j := 12 * i + k) (by omega)
  have hj : j < 7 := by
    have := (List.getElem?_eq_some_iff.1 hx).1
    rw [ints_length, hjr] at this; exact this
  rw [h.cell, show 1 + i * 84 + k * 7 + j = 1 + (7 * (12 * i + k) + j) by omega, FBc_row hr (by omega)]
  unfold ints at hx ⊢
  rw [List.getElem?_map, flat7_get _ hr.2 _ _ hj]
  rw [List.getElem?_map] at hx
  have hl : 12 * i + k < gs.length := by rw [hr.1]; omega
  rw [List.getElem?_eq_getElem hl, Option.bind_some]
  have : gs.getD (12 * i + k) [] = gs[12 * i + k] := by simp [List.getD, hl]
  rw [this] at hx
  exact hx

theorem FB.setE (h : FB w G v gs E A W) (hr : Rows7 48 gs) (hE : E.length = 4) {i : Nat} (hi : i < 4) (x : Int) : FB (w.setCell ⟨G, 337 + i, none⟩ (.int .i64 x)) G v gs (E.set i x) A W := by
  have hl := FBc_len (v := v) (A := A) (W := W) hr hE
  unfold FB
  rw [heap_setCell_same w G (337 + i) _ _ (.int .i64 x) h]
  congr 2
  refine Array.ext' ?_
  simp only [Array.toList_setIfInBounds]
  unfold FBc
  have h1 : (ints gs.flatten).length = 336 := by rw [ints_length, hr.flat]
  rw [show 337 + i = (336 + i) + 1 by omega, List.set_cons_succ, List.set_append_right _ _ (by omega), h1, show 336 + i - 336 = i by omega, List.set_append_left _ _ (by rw [ints_length]; omega)]
  simp [ints]

/-- Another table in place i. -/
def putT (gs : List (List Int)) (i : Nat) (R : List (List Int)) : List (List Int) := gs.take (12 * i) ++ (R ++ gs.drop (12 * i + 12))

theorem putT_rows {R : List (List Int)} {i : Nat} (hr : Rows7 48 gs) (hR : Rows7 12 R) (hi : i < 4) : Rows7 48 (putT gs i R) := by
  unfold putT
  refine ⟨by simp [hr.1, hR.1]; omega, fun r h => ?_⟩
  simp only [List.mem_append] at h
  rcases h with h | h | h
  · exact hr.2 r (List.mem_of_mem_take h)
  · exact hR.2 r h
  · exact hr.2 r (List.mem_of_mem_drop h)

theorem putT_get {R : List (List Int)} {i : Nat} (hr : Rows7 48 gs) (hR : Rows7 12 R) (hi : i < 4) (j : Nat) : (putT gs i R)[j]? = if 12 * i ≤ j ∧ j < 12 * i + 12 then R[j - 12 * i]? else gs[j]? := by
  unfold putT
  have h1 : (gs.take (12 * i)).length = 12 * i := by simp [hr.1]; omega
  by_cases h : j < 12 * i
  · rw [List.getElem?_append_left (by omega), if_neg (by omega), List.getElem?_take, if_pos h]
  · rw [List.getElem?_append_right (by omega), h1]
    by_cases h2 : j < 12 * i + 12
    · rw [List.getElem?_append_left (by rw [hR.1]; omega), if_pos ⟨by omega, h2⟩]
    · rw [List.getElem?_append_right (by rw [hR.1]; omega), hR.1, if_neg (by omega), List.getElem?_drop]
      congr 1
      omega

theorem putT_at {R : List (List Int)} {i : Nat} (hr : Rows7 48 gs) (hR : Rows7 12 R) (hi : i < 4) {a k : Nat} (hk : k < 12) : (putT gs i R).getD (12 * a + k) [] = if a = i then R.getD k [] else gs.getD (12 * a + k) [] := by
  rw [List.getD_eq_getElem?_getD, putT_get hr hR hi]
  by_cases e : a = i
  · subst e
    rw [if_pos ⟨by omega, by omega⟩, if_pos rfl, show 12 * a + k - 12 * a = k by omega, List.getD_eq_getElem?_getD]
  · rw [if_neg (by omega), if_neg e, List.getD_eq_getElem?_getD]

theorem FB.there (h : FB w G v gs E A W) (hr : Rows7 48 gs) (hE : E.length = 4) {o n : Nat} (ho : o + n ≤ 343) : w.there G o n := fun k hk => by
  have hlt : o + k < (FBc v gs E A W).length := by rw [FBc_len hr hE]; omega
  exact ⟨by rw [h.cell, List.getElem?_eq_getElem hlt]; rfl, h.frozen _⟩

theorem FB.put {R : List (List Int)} {i : Nat} (h : FB w G v gs E A W) (hr : Rows7 48 gs) (hE : E.length = 4) (hR : Rows7 12 R) (hi : i < 4) : FB (w.setCells G (1 + i * 84) (ints R.flatten)) G v (putT gs i R) E A W := by
  obtain ⟨C, hC, hs⟩ := heap_setCells7 G 73 (ints R.flatten) (1 + i * 84) w _ h
  have hp := putT_rows hr hR hi
  have hRl : (ints R.flatten).length = 84 := by rw [ints_length, hR.flat]
  refine tab_of_cells hC (by rw [hs, List.size_toArray, FBc_len hr hE, FBc_len hp hE]) (fun k x hx => ?_)
  by_cases hk : 1 + i * 84 ≤ k ∧ k < 1 + i * 84 + 84
  · obtain ⟨j, rfl, hj⟩ : ∃ j, k = 1 + i * 84 + j ∧ j < 84 := ⟨k - (1 + i * 84), by omega, by omega⟩
    refine World.rangeAt_setCells_same w G (1 + i * 84) (ints R.flatten) (by rw [hRl]; exact h.there hr hE (by omega)) j x ?_
    rw [show 1 + i * 84 + j = 1 + (i * 84 + j) by omega, FBc_row hp (by omega)] at hx
    obtain ⟨q, r, hq, rfl⟩ : ∃ q r, r < 7 ∧ j = 7 * q + r := ⟨j / 7, j % 7, Nat.mod_lt _ (by omega), by omega⟩
    unfold ints at hx ⊢
    rw [List.getElem?_map, show i * 84 + (7 * q + r) = 7 * (12 * i + q) + r by omega, flat7_get _ hp.2 _ _ hq, putT_get hr hR hi, if_pos ⟨by omega, by omega⟩, show 12 * i + q - 12 * i = q by omega] at hx
    rw [List.getElem?_map, flat7_get _ hR.2 _ _ hq]
    exact hx
  · rw [World.cell?_setCells_out G (ints R.flatten) (1 + i * 84) w ⟨G, k, none⟩ (fun _ _ => by
      show k < 1 + i * 84 ∨ 1 + i * 84 + (ints R.flatten).length ≤ k
      rw [hRl]; omega), h.cell]
    rw [← hx]
    by_cases h0 : k = 0
    · subst h0; rfl
    · by_cases h1 : k < 337
      · obtain ⟨j, rfl, hj⟩ : ∃ j, k = 1 + j ∧ j < 336 := ⟨k - 1, by omega, by omega⟩
        rw [FBc_row hr hj, FBc_row hp hj]
        obtain ⟨q, r, hq, rfl⟩ : ∃ q r, r < 7 ∧ j = 7 * q + r := ⟨j / 7, j % 7, Nat.mod_lt _ (by omega), by omega⟩
        unfold ints
        rw [List.getElem?_map, List.getElem?_map, flat7_get _ hr.2 _ _ hq, flat7_get _ hp.2 _ _ hq, putT_get hr hR hi, if_neg (by omega)]
      · by_cases h2 : k < 341
        · obtain ⟨j, rfl, hj⟩ : ∃ j, k = 337 + j ∧ j < 4 := ⟨k - 337, by omega, by omega⟩
          rw [FBc_ent hr hE hj, FBc_ent hp hE hj]
        · have h3 : k < 343 := by
            have := (List.getElem?_eq_some_iff.1 hx).1
            rwa [FBc_len hp hE] at this
          obtain rfl | rfl : k = 341 ∨ k = 342 := by omega
          · rw [(FBc_map hr hE).1, (FBc_map hp hE).1]
          · rw [(FBc_map hr hE).2, (FBc_map hp hE).2]

end

/-- Nothing has turned but three blocks. -/
structure Kept3 (G A W : Nat) (w w' : World) : Prop where
  os : w'.os = w.os
  tape : w'.tape = w.tape
  output : w'.output = w.output
  size : w.heap.size ≤ w'.heap.size
  block : ∀ k, k < w.heap.size → k ≠ G → k ≠ A → k ≠ W → w'.heap[k]? = w.heap[k]?

theorem Kept3.refl (G A W : Nat) (w : World) : Kept3 G A W w w := ⟨rfl, rfl, rfl, Nat.le_refl _, fun _ _ _ _ _ => rfl⟩
theorem Kept3.trans {G A W : Nat} {w w' w'' : World} (h : Kept3 G A W w w') (k : Kept3 G A W w' w'') : Kept3 G A W w w'' :=
  ⟨k.os.trans h.os, k.tape.trans h.tape, k.output.trans h.output, Nat.le_trans h.size k.size, fun i hi h1 h2 h3 => (k.block i (Nat.lt_of_lt_of_le hi h.size) h1 h2 h3).trans (h.block i hi h1 h2 h3)⟩
theorem Kept3.of_below {G A W : Nat} {w w' : World} (h : Below w.heap.size w w') : Kept3 G A W w w' := ⟨h.os, h.tape, h.output, h.size, fun i hi _ _ _ => h.block i hi⟩
theorem Kept3.of_grown {G A W B : Nat} {w w' : World} (h : w.grownBy w' (some B)) (hB : B = G ∨ B = A ∨ B = W) : Kept3 G A W w w' :=
  ⟨h.os, h.tape, h.output, h.size, fun i hi h1 h2 h3 => h.block i hi (fun e => by cases e; rcases hB with e | e | e <;> contradiction)⟩
theorem Kept3.below {G A W : Nat} {w0 w w' : World} (h : Kept3 G A W w w') (hb : Below w0.heap.size w0 w) (hG : w0.heap.size ≤ G) (hA : w0.heap.size ≤ A) (hW : w0.heap.size ≤ W) : Below w0.heap.size w0 w' :=
  ⟨h.os.trans hb.os, h.tape.trans hb.tape, h.output.trans hb.output, Nat.le_trans hb.size h.size, fun i hi => (h.block i (Nat.lt_of_lt_of_le hi hb.size) (by omega) (by omega) (by omega)).trans (hb.block i hi)⟩

/-- The three blocks are apart and new since w0. -/
structure Apart3 (w0 : World) (G A W : Nat) : Prop where
  g : w0.heap.size ≤ G
  a : w0.heap.size ≤ A
  w : w0.heap.size ≤ W
  ga : G ≠ A
  gw : G ≠ W
  aw : A ≠ W

/-- What was found out, in memory. -/
structure FND (v : Value) (gs : List (List Int)) (w0 : World) (G A W nA nW : Nat) (E : List Int) (f g : Int → Int → Option Int) (wr : World) : Prop where
  fb : FB wr G v gs E A W
  a : MapAt wr A nA f
  w : MapAt wr W nW g
  bl : Below w0.heap.size w0 wr

section
variable {v : Value} {gs : List (List Int)} {w0 : World} {G A W nA nW : Nat} {E : List Int} {f g : Int → Int → Option Int} {wr wr' : World}

theorem FND.below (h : FND v gs w0 G A W nA nW E f g wr) (hb : Below wr.heap.size wr wr') : FND v gs w0 G A W nA nW E f g wr' :=
  ⟨h.fb.below hb, h.a.below hb, h.w.below hb, h.bl.trans (hb.mono h.bl.size)⟩
theorem FND.other {B : Nat} (h : FND v gs w0 G A W nA nW E f g wr) (hg : wr.grownBy wr' (some B)) (h1 : B ≠ G) (h2 : B ≠ A) (h3 : B ≠ W) (h0 : w0.heap.size ≤ B) : FND v gs w0 G A W nA nW E f g wr' :=
  ⟨h.fb.same (hg.block G h.fb.lt (fun e => h1 (Option.some.inj e).symm)), h.a.same (hg.block A h.a.lt (fun e => h2 (Option.some.inj e).symm)), h.w.same (hg.block W h.w.lt (fun e => h3 (Option.some.inj e).symm)), h.bl.grown hg h.bl.size (fun k hk => by cases hk; exact h0)⟩
theorem FND.turnG {E' : List Int} {gs' : List (List Int)} (h : FND v gs w0 G A W nA nW E f g wr) (hp : Apart3 w0 G A W) (hg : wr.grownBy wr' (some G)) (hf : FB wr' G v gs' E' A W) : FND v gs' w0 G A W nA nW E' f g wr' :=
  ⟨hf, h.a.same (hg.block A h.a.lt (fun e => hp.ga (Option.some.inj e).symm)), h.w.same (hg.block W h.w.lt (fun e => hp.gw (Option.some.inj e).symm)), h.bl.grown hg h.bl.size (fun k hk => by cases hk; exact hp.g)⟩
theorem FND.turnA {nA' : Nat} {f' : Int → Int → Option Int} (h : FND v gs w0 G A W nA nW E f g wr) (hp : Apart3 w0 G A W) (hg : wr.grownBy wr' (some A)) (hf : MapAt wr' A nA' f') : FND v gs w0 G A W nA' nW E f' g wr' :=
  ⟨h.fb.same (hg.block G h.fb.lt (fun e => hp.ga (Option.some.inj e))), hf, h.w.same (hg.block W h.w.lt (fun e => hp.aw (Option.some.inj e).symm)), h.bl.grown hg h.bl.size (fun k hk => by cases hk; exact hp.a)⟩
theorem FND.turnW {nW' : Nat} {g' : Int → Int → Option Int} (h : FND v gs w0 G A W nA nW E f g wr) (hp : Apart3 w0 G A W) (hg : wr.grownBy wr' (some W)) (hf : MapAt wr' W nW' g') : FND v gs w0 G A W nA nW' E f g' wr' :=
  ⟨h.fb.same (hg.block G h.fb.lt (fun e => hp.gw (Option.some.inj e))), h.a.same (hg.block A h.a.lt (fun e => hp.aw (Option.some.inj e))), hf, h.bl.grown hg h.bl.size (fun k hk => by cases hk; exact hp.w)⟩

end
end Go.Proofs.Ytnjbihfceckpfaa
