/-
  Put together out of: Nearest, Numbers, ImplReached, ImplShort.
-/
import Derived.Test.YtebadimjpbhagaaRangeFoot
import Derived.Test.YtebadimjpbhagaaBfs2
import Derived.Test.YtebadimjpbhagaaQueueS
import Derived.Test.YtebadimjpbhagaaPut
/-
  impl.nearestFirst: the iterator's contract.
-/
namespace Go.Proofs.Ytebadimjpbhagaa
open Go.RowKit Go.Shelf
set_option linter.unusedVariables false
set_option maxHeartbeats 2000000
attribute [local go_sem] Oper.semAt_some

abbrev DPs (ss : List Stm) : Type := { p : Int × Int // DP ss p }

def isZ : Value → Bool
  | .int _ n => n == 0
  | _ => false

/-- How many noughts block B holds. -/
def zw (w : World) (B : Nat) : Nat :=
  match w.heap[B]? with
  | some (.cells cur _ _) => cur.toList.countP isZ
  | _ => 0

def lenV : Value → Nat
  | .slice _ n _ => n
  | _ => 0

theorem zw_eq {w : World} {B : Nat} {t : TypeId} {fz : Nat × Nat} {ds : List Int} (h : w.heap[B]? = some (.cells (ints ds).toArray t fz)) : zw w B = zeros ds := by
  unfold zw
  rw [h]
  simp only [ints, zeros]
  rw [List.countP_map]
  rfl

theorem sizes_cell {w : World} {B : Nat} {t : TypeId} {ds : List Int} (h : w.heap[B]? = some (.cells (ints ds).toArray t (0, 0))) (j : Nat) (hj : j < ds.length) : w.cell? ⟨B, j, none⟩ = some (.int .i64 (ds.getD j 0)) ∧ w.frozen? ⟨B, j, none⟩ = false := by
  refine ⟨?_, frozen_of_row w B j _ t h⟩
  rw [cell_of_row w B j _ t (0, 0) h]
  simp [ints, hj, List.getD]

theorem sizes_set {w : World} {B : Nat} {t : TypeId} {ds : List Int} (h : w.heap[B]? = some (.cells (ints ds).toArray t (0, 0))) (j : Nat) (x : Int) : (w.setCell ⟨B, j, none⟩ (.int .i64 x)).heap[B]? = some (.cells (ints (ds.set j x)).toArray t (0, 0)) := by
  have := heap_setCell_same w B j _ t (.int .i64 x) h
  rw [this]
  simp [ints, List.map_set]

/-- Nothing of the foot is the iterator's. -/
structure Apart (w : World) (B Bn : Nat) (f : Nat → Prop) (line : Value) (wr : World) : Prop where
  lt : ∀ r, f r → r < wr.heap.size
  low : ∀ r, r < w.heap.size → ¬ f r
  box : ¬ f Bn
  siz : ¬ f B
  row : ∀ k, line.ownBlock = some k → ¬ f k

/-- The iterator's own state. -/
structure NSt {α : Type} (v : Value) (w : World) (B Bn : Nat) (J : List α → (Nat → Prop) → World → Prop) (pre : List α) (f : Nat → Prop) (line : Value) (xs ds : List Int) (wr : World) : Prop where
  q : Queue wr (B + 1) line xs
  s : wr.heap[B]? = some (.cells (ints ds).toArray 63 (0, 0))
  j : J pre f wr
  ap : Apart w B Bn f line wr
  bl : Below w.heap.size w wr
  bx : wr.heap[Bn]? = some (.cells #[v] 26 (0, 0))

section
variable {α : Type} {v : Value} {w : World} {B Bn : Nat} {J J' : List α → (Nat → Prop) → World → Prop} {pre pre' : List α} {f f' : Nat → Prop} {line : Value} {xs ds : List Int} {wr wr' : World}

theorem NSt.sz (h : NSt v w B Bn J pre f line xs ds wr) : B < wr.heap.size := (Array.getElem?_eq_some_iff.1 h.s).1
theorem NSt.bxlt (h : NSt v w B Bn J pre f line xs ds wr) : Bn < wr.heap.size := (Array.getElem?_eq_some_iff.1 h.bx).1

/-- New blocks. -/
theorem NSt.grow (hJ : FootAbides B J) (h : NSt v w B Bn J pre f line xs ds wr) (hg : wr.grownBy wr' none) : NSt v w B Bn J pre f line xs ds wr' where
  q := h.q.kept hg (by simp)
  s := (hg.block _ h.sz (by simp)).trans h.s
  j := hJ _ _ _ _ none h.j hg (by simp)
  ap := { h.ap with lt := fun r hr => Nat.lt_of_lt_of_le (h.ap.lt r hr) hg.size }
  bl := h.bl.grown hg h.bl.size (by simp)
  bx := (hg.block _ h.bxlt (by simp)).trans h.bx

/-- A size is laid. -/
theorem NSt.set (hJ : FootAbides B J) (hB : w.heap.size ≤ B) (hne : Bn ≠ B) (h : NSt v w B Bn J pre f line xs ds wr) (j : Nat) (x : Int) : NSt v w B Bn J pre f line xs (ds.set j x) (wr.setCell ⟨B, j, none⟩ (.int .i64 x)) where
  q := h.q.kept (grown_setCell1 wr B j _) (fun k hk e => by have := (h.q.lt k hk).1; simp at e; omega)
  s := sizes_set h.s j x
  j := hJ _ _ _ _ (some B) h.j (grown_setCell1 wr B j _) (fun r e => by cases e; exact ⟨Nat.le_refl _, h.ap.siz⟩)
  ap := { h.ap with lt := fun r hr => Nat.lt_of_lt_of_le (h.ap.lt r hr) (grown_setCell1 wr B j (.int .i64 x)).size }
  bl := h.bl.setCell (by simpa using hB) _
  bx := ((grown_setCell1 wr B j (.int .i64 x)).block _ h.bxlt (fun e => hne (by simpa using e))).trans h.bx

/-- The list has been appended to. -/
theorem NSt.app (hJ : FootAbides B J) (hB : w.heap.size ≤ B) (hne : Bn < B) (h : NSt v w B Bn J pre f line xs ds wr) {line' : Value} {ys : List Int} (hq : Queue wr' (B + 1) line' ys) (hg : wr.grownBy wr' line.ownBlock)
    (hk : ∀ k, line'.ownBlock = some k → line.ownBlock = some k ∨ wr.heap.size ≤ k) : NSt v w B Bn J pre f line' ys ds wr' where
  q := hq
  s := (hg.block _ h.sz (fun e => by have := (h.q.lt _ e.symm).1; omega)).trans h.s
  j := hJ _ _ _ _ line.ownBlock h.j hg (fun r e => ⟨by have := (h.q.lt _ e).1; omega, h.ap.row r e⟩)
  ap := { lt := fun r hr => Nat.lt_of_lt_of_le (h.ap.lt r hr) hg.size, low := h.ap.low, box := h.ap.box, siz := h.ap.siz, row := fun k hk' hf => by
            rcases hk k hk' with e | e
            · exact h.ap.row k e hf
            · have := h.ap.lt k hf; omega }
  bl := h.bl.grown hg h.bl.size (fun k e => by have := (h.q.lt k e).1; omega)
  bx := (hg.block _ h.bxlt (fun e => by have := (h.q.lt _ e.symm).1; omega)).trans h.bx

/-- A round has been made. -/
theorem NSt.round (h : NSt v w B Bn J pre f line xs ds wr) (hO : Outside f wr f' wr') (hj : J' pre' f' wr') : NSt v w B Bn J' pre' f' line xs ds wr' where
  q := h.q.same hO.size (fun k hk => hO.block k (h.q.lt k hk).2 (h.ap.row k hk))
  s := (hO.block _ h.sz h.ap.siz).trans h.s
  j := hj
  ap := { lt := hO.lt, low := fun r hr hf => h.ap.low r hr (hO.less r (Nat.lt_of_lt_of_le hr h.bl.size) hf), box := fun hf => h.ap.box (hO.less _ h.bxlt hf), siz := fun hf => h.ap.siz (hO.less _ h.sz hf), row := fun k hk hf => h.ap.row k hk (hO.less k (h.q.lt k hk).2 hf) }
  bl := ⟨hO.os.trans h.bl.os, hO.tape.trans h.bl.tape, hO.output.trans h.bl.output, Nat.le_trans h.bl.size hO.size, fun k hk => (hO.block k (Nat.lt_of_lt_of_le hk h.bl.size) (h.ap.low k hk)).trans (h.bl.block k hk)⟩
  bx := (hO.block _ h.bxlt h.ap.box).trans h.bx

/-- Another list of the iterator's own. -/
theorem NSt.other (h : NSt v w B Bn J pre f line xs ds wr) {line' : Value} {ys : List Int} (hq : Queue wr (B + 1) line' ys) (hk : line'.ownBlock = line.ownBlock) : NSt v w B Bn J pre f line' ys ds wr :=
  { h with q := hq, ap := { h.ap with row := fun k e => h.ap.row k (hk ▸ e) } }

end

end Go.Proofs.Ytebadimjpbhagaa

/-
  impl.numbersIn.
-/
namespace Go.Proofs.Ytebadimjpbhagaa
open Go.RowKit
set_option linter.unusedVariables false
set_option maxHeartbeats 1000000

/-- The numbers in a set, from i on. -/
def nums : List Bool → Int → List Int
  | [], _ => []
  | b :: bs, i => if b then i :: nums bs (i + 1) else nums bs (i + 1)

theorem nums_snoc : ∀ (bs : List Bool) (b : Bool) (i : Int), nums (bs ++ [b]) i = nums bs i ++ (if b then [i + bs.length] else [])
  | [], b, i => by cases b <;> simp [nums]
  | c :: bs, b, i => by
    have e : i + 1 + (bs.length : Int) = i + ((bs.length : Int) + 1) := by omega
    cases c <;> simp [nums, nums_snoc bs b (i + 1), e]

theorem nums_length : ∀ (bs : List Bool) (i : Int), (nums bs i).length ≤ bs.length
  | [], _ => by simp [nums]
  | b :: bs, i => by
    have := nums_length bs (i + 1)
    cases b <;> simp [nums] <;> omega

theorem numbersIn (bs : List Bool) (v : Value) (w : World) (hl : bs.length ≤ 1000000) (hv : Reads w v (bs.map .bool)) :
    Calls Try.prog 69 #[v] w fun e w' => ∃ u, e = .returned u ∧ w'.ownsRow w.heap.size 2 1 u (nums bs 0).length (ints (nums bs 0)) ∧ Below w.heap.size w w' := by
  obtain ⟨i0, hi, hz0, hz1, hz2⟩ := info_parts infoInt
  obtain ⟨ao, cap, rfl, hc⟩ := hv
  simp only [List.length_map]
  obtain ⟨R, hR⟩ : ∃ R, nums bs 0 = R := ⟨_, rfl⟩
  rw [hR]
  have HR : Hid _ := hR
  clear hR
  go_enter Try.func69, Try.ntmps69
  go_wp2
  go_loopw [3, 8] (fun o i wr => ∃ (k : Nat), k ≤ bs.length ∧ i = .int .i64 k ∧
      wr.ownsRow w.heap.size 2 1 o (nums (bs.take k) 0).length (ints (nums (bs.take k) 0)) ∧ Below w.heap.size w wr) (fun _ i _ => bs.length - (intOf i).toNat)
  case atStart => exact ⟨0, Nat.zero_le _, rfl, ⟨by simp [nums, ints], .inl ⟨rfl, by simp [nums]⟩⟩, Below.refl _ _⟩
  case round =>
    obtain ⟨k, hk, rfl, hown, hb⟩ := hrel
    by_cases hlt : k < bs.length
    · have hlt' : (k : Int) < (bs.length : Int) := by omega
      obtain ⟨g, off, rfl, a0⟩ := hc k (.bool bs[k]) (by simp [hlt])
      have a0 := (hb.cell (World.block_lt_of_cell? w _ a0)).trans a0
      have hsn : nums (bs.take (k + 1)) 0 = nums (bs.take k) 0 ++ (if bs[k] then [(k : Int)] else []) := by
        rw [List.take_succ_eq_append_getElem hlt, nums_snoc, Int.zero_add, List.length_take, Nat.min_eq_left (by omega)]
      have HS : Hid _ := hsn
      have hlen := nums_length (bs.take k) 0
      have hlen2 : (bs.take k).length ≤ k := List.length_take_le _ _
      clear hc hsn
      generalize bs[k] = b at *
      generalize nums (bs.take k) 0 = xs at *
      cases b
      · have HP : Hid (nums (bs.take (k + 1)) 0 = xs) := HS.out.trans (by simp)
        go_wp2
        go_roundw
        case rel => exact ⟨k + 1, by omega, by go_num, by rw [HP.out]; exact hown, hb⟩
        case measure => simp [intOf]; omega
      · have HP : Hid (nums (bs.take (k + 1)) 0 = xs ++ [(k : Int)]) := HS.out
        have B1 : Hid (Below w.heap.size w (wr.alloc (.cells #[.int .i64 (k : Int)] 2))) := hb.alloc hb.size _
        have sz := hb.size
        have HSZ : Hid (w.heap.size ≤ (wr.alloc (.cells #[.int .i64 (k : Int)] 2)).heap.size) := by
          show w.heap.size ≤ (wr.alloc (.cells #[.int .i64 (k : Int)] 2)).heap.size
          simp; omega
        clear HS
        go_wp2_with (first
          | (at_builtin; refine wpList_append_own _ rfl (.tmp 14) (.tmp 16) 29 rfl w.heap.size 2 i0 (.int .i64 0) 1 8 Try.underlying29 hi hz0 hz1 hz2 rfl (by decide) _ _ _ rfl (hown.alloc _) ⟨wr.heap.size, 0, none⟩ 1 _ [.int .i64 (k : Int)] rfl rfl (cell_one wr k) (ints_oneCell [(k : Int)]) (by unfold maxLen; omega) (by omega) HSZ.out ?_; intro v2 w2 own2 grow2 _; have L2 := below_app B1.out grow2 (fun q hq => (hown.lt q hq).1))
          | go_in)
        have own3 : Hid (w2.ownsRow w.heap.size 2 1 v2 (xs ++ [(k : Int)]).length (ints (xs ++ [(k : Int)]))) := by
          show w2.ownsRow w.heap.size 2 1 v2 (xs ++ [(k : Int)]).length (ints (xs ++ [(k : Int)]))
          simpa [ints] using own2
        go_roundw
        case rel => exact ⟨k + 1, by omega, by go_num, by rw [HP.out]; exact own3.out, L2⟩
        case measure => simp [intOf]; omega
    · have hkk : k = bs.length := by omega
      subst hkk
      rw [List.take_length, HR.out] at hown
      go_wp2
      go_ret
      exact ⟨_, rfl, hown, hb⟩

end Go.Proofs.Ytebadimjpbhagaa

/-
  impl.nearestFirst as a function, impl.Reached.
-/
namespace Go.Proofs.Ytebadimjpbhagaa
open Go.RowKit Go.Shelf
set_option linter.unusedVariables false
set_option maxHeartbeats 2000000
attribute [local go_sem] Oper.semAt_some

theorem mem_nums : ∀ (bs : List Bool) (i : Int) (x : Int), x ∈ nums bs i ↔ ∃ j : Nat, x = i + j ∧ bs.getD j false = true
  | [], i, x => by simp [nums]
  | b :: bs, i, x => by
    have ih := mem_nums bs (i + 1) x
    have key : (∃ j : Nat, x = i + j ∧ (b :: bs).getD j false = true) ↔ (x = i ∧ b = true) ∨ ∃ j : Nat, x = i + 1 + j ∧ bs.getD j false = true := by
      constructor
      · rintro ⟨j, hj, hb⟩
        cases j with
        | zero => exact .inl ⟨by omega, by simpa using hb⟩
        | succ j => exact .inr ⟨j, by omega, by simpa using hb⟩
      · rintro (⟨h, hb⟩ | ⟨j, hj, hb⟩)
        · exact ⟨0, by omega, by simpa using hb⟩
        · exact ⟨j + 1, by omega, by simpa using hb⟩
    rw [key, ← ih]
    cases b <;> simp [nums]

theorem nums_sorted : ∀ (bs : List Bool) (i : Int), (nums bs i).Pairwise (· < ·)
  | [], i => by simp [nums]
  | b :: bs, i => by
    have ih := nums_sorted bs (i + 1)
    cases b
    · simpa [nums] using ih
    · simp only [nums, if_true, List.pairwise_cons]
      refine ⟨fun y hy => ?_, ih⟩
      obtain ⟨j, rfl, _⟩ := (mem_nums bs (i + 1) y).1 hy
      omega

def bools (bs : List Bool) : List Value := bs.map .bool

theorem bools_set {w : World} {B : Nat} {t : TypeId} {bs : List Bool} (h : w.heap[B]? = some (.cells (bools bs).toArray t (0, 0))) (j : Nat) (x : Bool) : (w.setCell ⟨B, j, none⟩ (.bool x)).heap[B]? = some (.cells (bools (bs.set j x)).toArray t (0, 0)) := by
  have := heap_setCell_same w B j _ t (.bool x) h
  rw [this]
  simp [bools, List.map_set]

theorem bools_cell {w : World} {B : Nat} {t : TypeId} {bs : List Bool} (h : w.heap[B]? = some (.cells (bools bs).toArray t (0, 0))) (j : Nat) (hj : j < bs.length) : w.cell? ⟨B, j, none⟩ = some (.bool (bs.getD j false)) ∧ w.frozen? ⟨B, j, none⟩ = false := by
  refine ⟨?_, frozen_of_row w B j _ t h⟩
  rw [cell_of_row w B j _ t (0, 0) h]
  simp [bools, hj, List.getD]

theorem getDB_set (bs : List Bool) (j i : Nat) (x : Bool) (hj : j < bs.length) : (bs.set j x).getD i false = if i = j then x else bs.getD i false := by
  simp only [List.getD, List.getElem?_set]
  by_cases h : j = i
  · subst h; simp [hj]
  · rw [if_neg h, if_neg (fun e => h e.symm)]

end Go.Proofs.Ytebadimjpbhagaa

/-
  impl.Short.
-/
namespace Go.Proofs.Ytebadimjpbhagaa
open Go.RowKit Go.Shelf
set_option linter.unusedVariables false
set_option maxHeartbeats 2000000
attribute [local go_sem] Oper.semAt_some

/-- How many statements a shortest way has. -/
def ShortAns (ss : List Stm) (i r : Int) : Prop :=
  (hasS ss i = false → r = 0) ∧ (hasS ss i = true → ∀ j : Nat, i = (j : Int) → (¬ Rch ss (-1) j → r = 0) ∧ ∀ k : Nat, rk ss (-1) k j → (∀ k', k' < k → ¬ rk ss (-1) k' j) → r = (k : Int) + 1)

theorem least_rk {ss : List Stm} {j : Nat} (h : Rch ss (-1) j) : ∃ k, rk ss (-1) k j ∧ ∀ k', k' < k → ¬ rk ss (-1) k' j := by
  classical
  obtain ⟨k, hk⟩ := h
  induction k using Nat.strongRecOn with
  | ind k ih =>
    by_cases h : ∃ k', k' < k ∧ rk ss (-1) k' j
    · obtain ⟨k', hlt, hk'⟩ := h
      exact ih k' hlt hk'
    · exact ⟨k, hk, fun k' hlt hk' => h ⟨k', hlt, hk'⟩⟩

theorem short_some (ss : List Stm) (i : Int) : ∃ A : Int, ShortAns ss i A := by
  classical
  cases h : hasS ss i
  · exact ⟨0, by simp, by simp [h]⟩
  · obtain ⟨_, j, rfl, _⟩ := hasS_true h
    by_cases hr : Rch ss (-1) j
    · obtain ⟨k, hk, hm⟩ := least_rk hr
      refine ⟨(k : Int) + 1, by simp [h], fun _ j' e => ?_⟩
      obtain rfl : j = j' := by omega
      refine ⟨fun hn => absurd hr hn, fun k2 hk2 hm2 => ?_⟩
      have : k = k2 := by
        rcases Nat.lt_trichotomy k k2 with h1 | h1 | h1
        · exact absurd hk (hm2 k h1)
        · exact h1
        · exact absurd hk2 (hm k2 h1)
      omega
    · refine ⟨0, by simp, fun _ j' e => ?_⟩
      obtain rfl : j = j' := by omega
      exact ⟨fun _ => rfl, fun k hk _ => absurd ⟨k, hk⟩ hr⟩

/-- Between two rounds: it has not come yet. -/
structure SSt (ss : List Stm) (w : World) (i : Int) (A0 R : Nat) (pre : List (DPs ss)) (f : Nat → Prop) (W : World) : Prop where
  none : ∀ p ∈ pre, p.1.1 ≠ i
  box : W.heap[A0]? = some (.cells #[.int .i64 i] 2 (0, 0))
  res : W.heap[R]? = some (.cells #[.int .i64 0] 2 (0, 0))
  foot : f R
  below : Below w.heap.size w W

/-- It has come. -/
structure SIx (ss : List Stm) (w : World) (i : Int) (R : Nat) (c : Code) (pre : List (DPs ss)) (f : Nat → Prop) (W : World) : Prop where
  ret : c = .ret
  res : ∃ p ∈ pre, p.1.1 = i ∧ W.heap[R]? = some (.cells #[.int .i64 p.1.2] 2 (0, 0))
  below : Below w.heap.size w W

theorem sst_own (ss : List Stm) (w : World) (i : Int) (A0 R B : Nat) (hA : A0 < B) (hR : R < B) (hB : w.heap.size ≤ B) : FootOwn B (SSt ss w i A0 R) := by
  rintro s f A A' row ⟨h1, h2, h3, h4, h5⟩ hg hr
  refine ⟨h1, ?_, ?_, h4, h5.grown hg h5.size (fun k e => Nat.le_trans hB (hr k e).1)⟩
  · exact (hg.block A0 (Array.getElem?_eq_some_iff.1 h2).1 (fun e => by have := (hr A0 e.symm).1; omega)).trans h2
  · exact (hg.block R (Array.getElem?_eq_some_iff.1 h3).1 (fun e => by have := (hr R e.symm).1; omega)).trans h3

theorem six_own (ss : List Stm) (w : World) (i : Int) (R B : Nat) (hR : R < B) (hB : w.heap.size ≤ B) (c : Code) : FootOwn B (SIx ss w i R c) := by
  rintro s f A A' row ⟨h1, ⟨p, hp, hi, h3⟩, h5⟩ hg hr
  exact ⟨h1, ⟨p, hp, hi, (hg.block R (Array.getElem?_eq_some_iff.1 h3).1 (fun e => by have := (hr R e.symm).1; omega)).trans h3⟩, h5.grown hg h5.size (fun k e => Nat.le_trans hB (hr k e).1)⟩

end Go.Proofs.Ytebadimjpbhagaa
