/-
  spec.DrawFrame, spec.DrawReaderOk: what they draw.
-/
import Derived.Test.YtnfgdaejfeiabaaDrawBytesB
import Derived.Test.YtnfgdaejfeiabaaRegionInv
namespace Go.Proofs.Ytnfgdaejfeiabaa
open Go.RowKit
set_option linter.unusedVariables false
set_option maxHeartbeats 1000000

/-- make([]byte, n): a block Z; string(..) of it: a text of n bytes. -/
theorem makeBytes (n : Nat) (m : Int) (hnm : m = n) (hn : n ≤ 100000) : ∃ Z : Array Value, ∃ zs : ByteArray, zs.size = n ∧
    (∀ W : World, (Instr.makeSlice 22 (.int .i64 m) (.int .i64 m)).run Try.prog W = .ok (.slice (some ⟨W.heap.size, 0, none⟩) n n) (W.alloc (.cells Z 5))) ∧
    (∀ (W : World) (b : Nat), W.heap[b]? = some (.cells Z 5 (0, 0)) → (convert 22 9 (.slice (some ⟨b, 0, none⟩) n n)).run Try.prog W = .ok (.string zs) W) := by
  subst hnm
  obtain ⟨i0, hi, hz0, hz1, hz2⟩ := info_parts info_byte
  have hm := fun W : World => run_make (P := Try.prog) W 22 5 i0 (.int .u8 0) Try.underlying22 hi hz0 .i64 .i64 n n (by omega) (by omega) (by rw [hz2]; omega) (by omega)
  refine ⟨_, strOfNums (List.replicate n 0), by rw [strOfNums_size]; simp, hm, fun W b hb => ?_⟩
  refine run_convert_bytes_arg W 22 5 Try.underlying22 Try.underlying5 b 0 n n (List.replicate n 0) (by simp) ?_ 9 Try.underlying9
  intro i hi'
  rw [cell_of_row W b (0 + i) _ 5 (0, 0) hb, hz1, ← Array.getElem?_toList]
  have : (madeCells (Value.int .u8 0).cells ((n : Int).toNat * 1)).toList = List.replicate n (Value.int .u8 0) := by
    rw [Int.toNat_natCast, Nat.mul_one]
    exact toList_madeCells_one (.int .u8 0) n
  rw [this, List.getElem?_replicate, if_pos (by omega), List.getD_eq_getElem?_getD, List.getElem?_replicate, if_pos (by omega)]
  rfl

theorem drawFrame (bs : List Int) (v : Value) (w : World) (hl : bs.length ≤ 1048576) (hv : Reads w v (bs.map (Value.int .u8))) :
    Calls Try.prog 5 #[v] w fun e w' => ∃ s : ByteArray, e = .returned (.string s) ∧ s.size ≤ 2001 ∧ Below w.heap.size w w' := by
  go_enter Try.func5, Try.ntmps5
  go_wp2_with fail
  go_at_call 15
  refine (l1New bs v w hl hv).mono ?_
  rintro e w1 ⟨g, rfl, hg, hc1, b1⟩
  go_wp2_with fail
  go_at_call 16
  refine (l1Once g bs 20 (by omega) _ hl hc1).mono ?_
  rintro e w2 ⟨b, rfl, hc2, hg2⟩
  have L2 : Below w.heap.size w w2 := b1.grown hg2 b1.size (fun k hk => by cases hk; exact hg)
  cases b with
  | false =>
    go_wp2_with fail
    go_at_call 18
    refine (l1DrawText g bs _ hl hc2).mono ?_
    rintro e w3 ⟨s, rfl, hs, hc3, hg3⟩
    go_wp2
    go_ret
    exact ⟨s, rfl, by omega, L2.grown hg3 L2.size (fun k hk => by cases hk; exact hg)⟩
  | true =>
    go_wp2_with fail
    go_at_call 17
    refine (l1Below g bs 2 (by omega) _ hl hc2).mono ?_
    rintro e w3 ⟨x, rfl, hx0, hx1, hx2, hc3, hg3⟩
    have hx1 := hx1 (by omega)
    clear hx2
    have L3 : Below w.heap.size w w3 := L2.grown hg3 L2.size (fun k hk => by cases hk; exact hg)
    have hx : x = 0 ∨ x = 1 := by omega
    rcases hx with rfl | rfl
    · obtain ⟨Z, zs, hzs, hmk, hcv⟩ := makeBytes 2000 2000 rfl (by omega)
      have hcv1 : ∀ W : World, (convert 22 9 (.slice (some ⟨W.heap.size, 0, none⟩) 2000 2000)).run Try.prog (W.alloc (.cells Z 5)) = .ok (.string zs) (W.alloc (.cells Z 5)) := fun W => hcv _ _ (heap_alloc_new W _)
      clear hcv
      go_wp2
      go_ret
      exact ⟨zs, rfl, by omega, L3.alloc L3.size _⟩
    · obtain ⟨Z, zs, hzs, hmk, hcv⟩ := makeBytes 2001 2001 rfl (by omega)
      have hcv1 : ∀ W : World, (convert 22 9 (.slice (some ⟨W.heap.size, 0, none⟩) 2001 2001)).run Try.prog (W.alloc (.cells Z 5)) = .ok (.string zs) (W.alloc (.cells Z 5)) := fun W => hcv _ _ (heap_alloc_new W _)
      clear hcv
      go_wp2
      go_ret
      exact ⟨zs, rfl, by omega, L3.alloc L3.size _⟩

abbrev five (zA zB : ByteArray) : Obj := .cells #[.string ⟨#[]⟩, .string ⟨#[0]⟩, .string ⟨#[0, 5, 97, 98]⟩, .string zA, .string zB] 9 (0, 0)

/-- What DrawReaderOk's region has, operation by operation. -/
def RFct (g : Nat) (ZA ZB : Array Value) (zA zB : ByteArray) (l : Nat → Bool) (x4 x7 x8 x9 x10 x11 x12 x13 x14 x15 x16 : Value) (wr : World) : Prop :=
  (l 0 = true → ∃ b : Nat, x7 = .slice (some ⟨b, 0, none⟩) 2001 2001 ∧ g < b ∧ wr.heap[b]? = some (.cells ZA 5 (0, 0))) ∧
  (l 1 = true → x8 = .string zA) ∧
  (l 2 = true → ∃ b : Nat, x9 = .slice (some ⟨b, 0, none⟩) 2002 2002 ∧ g < b ∧ wr.heap[b]? = some (.cells ZB 5 (0, 0))) ∧
  (l 3 = true → x10 = .string zB) ∧
  (l 4 = true → ∃ b : Nat, x11 = .slice (some ⟨b, 0, none⟩) 5 5 ∧ g < b ∧ wr.heap[b]? = some (five zA zB)) ∧
  (l 5 = true → x12 = .pointer (some ⟨g, 0, none⟩)) ∧
  (l 6 = true → ∃ y : Int, x13 = .int .i64 y ∧ 0 ≤ y ∧ y < 5) ∧
  (l 7 = true → ∃ (b : Nat) (y : Int), x14 = .pointer (some ⟨b, y.toNat, none⟩) ∧ g < b ∧ 0 ≤ y ∧ y < 5 ∧ wr.heap[b]? = some (five zA zB)) ∧
  (l 8 = true → ∃ t : ByteArray, x15 = .string t ∧ t.size ≤ 2002) ∧
  (l 9 = true → ∃ t : ByteArray, x16 = .agg #[.string t, .bool false] ∧ t.size ≤ 2002) ∧
  (l 10 = true → ∃ b : Nat, x4 = .pointer (some ⟨b, 0, none⟩) ∧ g < b ∧ wr.heap[b]? = some (.cells #[.string ⟨#[]⟩, .bool false] 27 (0, 0)))

theorem block_grown {wr wr' : World} {g b : Nat} {o : Obj} (h : wr.heap[b]? = some o) (hg : wr.grownBy wr' (some g)) (hb : g < b) : wr'.heap[b]? = some o := by
  rw [hg.block b (Array.getElem?_eq_some_iff.1 h).1 (by simp; omega)]; exact h

theorem RFct.grown {g : Nat} {ZA ZB : Array Value} {zA zB : ByteArray} {l : Nat → Bool} {x4 x7 x8 x9 x10 x11 x12 x13 x14 x15 x16 : Value} {wr wr' : World}
    (h : RFct g ZA ZB zA zB l x4 x7 x8 x9 x10 x11 x12 x13 x14 x15 x16 wr) (hg : wr.grownBy wr' (some g)) : RFct g ZA ZB zA zB l x4 x7 x8 x9 x10 x11 x12 x13 x14 x15 x16 wr' := by
  obtain ⟨p0, p1, p2, p3, p4, p5, p6, p7, p8, p9, p10⟩ := h
  refine ⟨fun h => ?_, p1, fun h => ?_, p3, fun h => ?_, p5, p6, fun h => ?_, p8, p9, fun h => ?_⟩
  · obtain ⟨b, h1, h2, h3⟩ := p0 h; exact ⟨b, h1, h2, block_grown h3 hg h2⟩
  · obtain ⟨b, h1, h2, h3⟩ := p2 h; exact ⟨b, h1, h2, block_grown h3 hg h2⟩
  · obtain ⟨b, h1, h2, h3⟩ := p4 h; exact ⟨b, h1, h2, block_grown h3 hg h2⟩
  · obtain ⟨b, y, h1, h2, h3, h4, h5⟩ := p7 h; exact ⟨b, y, h1, h2, h3, h4, block_grown h5 hg h2⟩
  · obtain ⟨b, h1, h2, h3⟩ := p10 h; exact ⟨b, h1, h2, block_grown h3 hg h2⟩

/-- The invariant of DrawReaderOk's region. -/
def RInv (v : Value) (z g : Nat) (bs : List Int) (w1 : World) (ZA ZB : Array Value) (zA zB : ByteArray) (l : Nat → Bool) (a : Act) (wr : World) : Prop :=
  ∃ x4 x7 x8 x9 x10 x11 x12 x13 x14 x15 x16 : Value,
    a = { tmps := #[v, undef, .pointer (some ⟨z, 0, none⟩), .pointer (some ⟨g, 0, none⟩), x4, v, .pointer (some ⟨g, 0, none⟩), x7, x8, x9, x10, x11, x12, x13, x14, x15, x16, undef, undef, undef, undef], defers := [] } ∧
    Cur wr g bs ∧ Below g w1 wr ∧
    (l 11 = true → (∀ j, j < 11 → l j = true) ∧ ∃ (b : Nat) (t : ByteArray), x4 = .pointer (some ⟨b, 0, none⟩) ∧ g < b ∧ wr.heap[b]? = some (.cells #[.string t, .bool false] 27 (0, 0)) ∧ t.size ≤ 2002) ∧
    (l 11 = false → RFct g ZA ZB zA zB l x4 x7 x8 x9 x10 x11 x12 x13 x14 x15 x16 wr)

theorem one_of5 (zA zB : ByteArray) (hA : zA.size = 2001) (hB : zB.size = 2002) (y : Int) (h0 : 0 ≤ y) (h1 : y < 5) :
    ∃ t : ByteArray, t.size ≤ 2002 ∧ (#[Value.string ⟨#[]⟩, .string ⟨#[0]⟩, .string ⟨#[0, 5, 97, 98]⟩, .string zA, .string zB] : Array Value)[y.toNat]? = some (.string t) := by
  have : y = 0 ∨ y = 1 ∨ y = 2 ∨ y = 3 ∨ y = 4 := by omega
  rcases this with rfl | rfl | rfl | rfl | rfl
  · exact ⟨⟨#[]⟩, by decide, rfl⟩
  · exact ⟨⟨#[0]⟩, by decide, rfl⟩
  · exact ⟨⟨#[0, 5, 97, 98]⟩, by decide, rfl⟩
  · exact ⟨zA, by omega, rfl⟩
  · exact ⟨zB, by omega, rfl⟩

theorem below_grown {B : Nat} {a w w' : World} {g : Nat} (h : Below B a w) (hg : w.grownBy w' (some g)) (hB : B ≤ w.heap.size) (hg' : B ≤ g := by exact Nat.le_refl _) : Below B a w' :=
  h.grown hg hB (fun k hk => by cases hk; exact hg')

theorem drawReaderOk (bs : List Int) (v : Value) (w : World) (hl : bs.length ≤ 1048576) (hv : Reads w v (bs.map (Value.int .u8))) :
    Calls Try.prog 9 #[v] w fun e w' => ∃ (r : ByteArray) (d : Bool), e = .returned (.agg #[.string r, .bool d]) ∧ r.size ≤ 2002 ∧ Below w.heap.size w w' := by
  obtain ⟨ZA, zA, hzA, hmkA, hcvA⟩ := makeBytes 2001 2001 rfl (by omega)
  obtain ⟨ZB, zB, hzB, hmkB, hcvB⟩ := makeBytes 2002 2002 rfl (by omega)
  have hb0 : Below w.heap.size w (w.alloc (.cells #[.string ⟨#[]⟩, .bool false] 27)) := by go_grown
  go_enter Try.func9, Try.ntmps9
  go_wp2_with fail
  go_at_call 15
  refine (l1New bs v _ hl (reads_below hv hb0)).mono ?_
  rintro e w1 ⟨g, rfl, hg, hc1, b1⟩
  have HCA : Hid _ := hcvA
  have HCB : Hid _ := hcvB
  have HMA : Hid _ := hmkA
  have HMB : Hid _ := hmkB
  clear hcvA hcvB hmkA hmkB
  go_wp2_with fail
  have lt1 : w.heap.size < g := by have := hg; simp at this; omega
  have R1 : w1.heap[w.heap.size]? = some (.cells #[.string ⟨#[]⟩, .bool false] 27 (0, 0)) := (b1.block _ (by simp)).trans (heap_alloc_new w _)
  refine wp_region_inv (by kernel_rfl) (by kernel_rfl) (RInv v w.heap.size g bs w1 ZA ZB zA zB) ?_ ?_ ?_
  · exact ⟨undef, undef, undef, undef, undef, undef, undef, undef, undef, undef, undef, rfl, cur_below hc1 (by go_grown), (Below.refl _ _).drew, by simp, by simp [RFct]⟩
  · intro l i o a wr ho hI hli haf
    obtain ⟨x4, x7, x8, x9, x10, x11, x12, x13, x14, x15, x16, rfl, hcr, hbr, hdone, hfacts⟩ := hI
    have hi : i < 12 := (Array.getElem?_eq_some_iff.1 ho).1
    by_cases h11 : l 11 = true
    · exfalso
      obtain ⟨hall, _⟩ := hdone h11
      by_cases hii : i = 11
      · subst hii; rw [h11] at hli; cases hli
      · have := hall i (by omega); rw [this] at hli; cases hli
    have h11 : l 11 = false := by simpa using h11
    have pf := hfacts h11
    have hgl := cur_lt hcr
    clear hdone hfacts
    have hcases : i = 0 ∨ i = 1 ∨ i = 2 ∨ i = 3 ∨ i = 4 ∨ i = 5 ∨ i = 6 ∨ i = 7 ∨ i = 8 ∨ i = 9 ∨ i = 10 ∨ i = 11 := by omega
    rcases hcases with rfl | rfl | rfl | rfl | rfl | rfl | rfl | rfl | rfl | rfl | rfl | rfl
    · simp only [List.getElem?_toArray, List.getElem?_cons_zero, Option.some.injEq] at ho
      subst ho
      have hmk := HMA.out
      go_wp2_with fail
      obtain ⟨q0, q1, q2, q3, q4, q5, q6, q7, q8, q9, q10⟩ := RFct.grown pf (World.grownBy_alloc wr _ _)
      exact ⟨_, _, _, _, _, _, _, _, _, _, _, rfl, cur_alloc hcr _, hbr.alloc (Nat.le_of_lt hgl) _, (fun h => absurd (show l 11 = true from h) (by rw [h11]; simp)), fun _ => ⟨fun _ => ⟨wr.heap.size, rfl, hgl, heap_alloc_new wr _⟩, q1, q2, q3, q4, q5, q6, q7, q8, q9, q10⟩⟩
    · simp only [List.getElem?_toArray, List.getElem?_cons_zero, List.getElem?_cons_succ, Option.some.injEq] at ho
      subst ho
      simp [Region.binds] at haf
      obtain ⟨b, rfl, hb1, hb2⟩ := pf.1 haf
      have hcv := HCA.out wr b hb2
      go_wp2_with fail
      obtain ⟨q0, q1, q2, q3, q4, q5, q6, q7, q8, q9, q10⟩ := pf
      exact ⟨_, _, _, _, _, _, _, _, _, _, _, rfl, hcr, hbr, (fun h => absurd (show l 11 = true from h) (by rw [h11]; simp)), fun _ => ⟨q0, fun _ => rfl, q2, q3, q4, q5, q6, q7, q8, q9, q10⟩⟩
    · simp only [List.getElem?_toArray, List.getElem?_cons_zero, List.getElem?_cons_succ, Option.some.injEq] at ho
      subst ho
      have hmk := HMB.out
      go_wp2_with fail
      obtain ⟨q0, q1, q2, q3, q4, q5, q6, q7, q8, q9, q10⟩ := RFct.grown pf (World.grownBy_alloc wr _ _)
      exact ⟨_, _, _, _, _, _, _, _, _, _, _, rfl, cur_alloc hcr _, hbr.alloc (Nat.le_of_lt hgl) _, (fun h => absurd (show l 11 = true from h) (by rw [h11]; simp)), fun _ => ⟨q0, q1, fun _ => ⟨wr.heap.size, rfl, hgl, heap_alloc_new wr _⟩, q3, q4, q5, q6, q7, q8, q9, q10⟩⟩
    · simp only [List.getElem?_toArray, List.getElem?_cons_zero, List.getElem?_cons_succ, Option.some.injEq] at ho
      subst ho
      simp [Region.binds] at haf
      obtain ⟨b, rfl, hb1, hb2⟩ := pf.2.2.1 haf
      have hcv := HCB.out wr b hb2
      go_wp2_with fail
      obtain ⟨q0, q1, q2, q3, q4, q5, q6, q7, q8, q9, q10⟩ := pf
      exact ⟨_, _, _, _, _, _, _, _, _, _, _, rfl, hcr, hbr, (fun h => absurd (show l 11 = true from h) (by rw [h11]; simp)), fun _ => ⟨q0, q1, q2, fun _ => rfl, q4, q5, q6, q7, q8, q9, q10⟩⟩
    · simp only [List.getElem?_toArray, List.getElem?_cons_zero, List.getElem?_cons_succ, Option.some.injEq] at ho
      subst ho
      simp [Region.binds] at haf
      obtain rfl := pf.2.1 haf.1
      obtain rfl := pf.2.2.2.1 haf.2
      go_wp2_with fail
      obtain ⟨q0, q1, q2, q3, q4, q5, q6, q7, q8, q9, q10⟩ := RFct.grown pf (World.grownBy_alloc wr _ _)
      exact ⟨_, _, _, _, _, _, _, _, _, _, _, rfl, cur_alloc hcr _, hbr.alloc (Nat.le_of_lt hgl) _, (fun h => absurd (show l 11 = true from h) (by rw [h11]; simp)), fun _ => ⟨q0, q1, q2, q3, fun _ => ⟨wr.heap.size, rfl, hgl, heap_alloc_new wr _⟩, q5, q6, q7, q8, q9, q10⟩⟩
    · simp only [List.getElem?_toArray, List.getElem?_cons_zero, List.getElem?_cons_succ, Option.some.injEq] at ho
      subst ho
      go_wp2_with fail
      obtain ⟨q0, q1, q2, q3, q4, q5, q6, q7, q8, q9, q10⟩ := pf
      exact ⟨_, _, _, _, _, _, _, _, _, _, _, rfl, hcr, hbr, (fun h => absurd (show l 11 = true from h) (by rw [h11]; simp)), fun _ => ⟨q0, q1, q2, q3, q4, fun _ => rfl, q6, q7, q8, q9, q10⟩⟩
    · simp only [List.getElem?_toArray, List.getElem?_cons_zero, List.getElem?_cons_succ, Option.some.injEq] at ho
      subst ho
      simp [Region.binds] at haf
      obtain rfl := pf.2.2.2.2.2.1 haf
      go_wp2_with fail
      go_at_call 17
      refine (l1Below g bs 5 (by omega) wr hl hcr).mono ?_
      rintro e w3 ⟨y, rfl, hy0, hy1, _, hc3, hg3⟩
      have hy1 := hy1 (by omega)
      go_wp2_with fail
      obtain ⟨q0, q1, q2, q3, q4, q5, q6, q7, q8, q9, q10⟩ := RFct.grown pf hg3
      exact ⟨_, _, _, _, _, _, _, _, _, _, _, rfl, hc3, below_grown hbr hg3 (Nat.le_of_lt hgl), (fun h => absurd (show l 11 = true from h) (by rw [h11]; simp)), fun _ => ⟨q0, q1, q2, q3, q4, q5, fun _ => ⟨y, rfl, hy0, hy1⟩, q7, q8, q9, q10⟩⟩
    · simp only [List.getElem?_toArray, List.getElem?_cons_zero, List.getElem?_cons_succ, Option.some.injEq] at ho
      subst ho
      simp [Region.binds] at haf
      obtain ⟨b, rfl, hb1, hb2⟩ := pf.2.2.2.2.1 haf.1
      obtain ⟨y, rfl, hy0, hy1⟩ := pf.2.2.2.2.2.2.1 haf.2
      have hy2 : ¬ y < 0 := by omega
      go_wp2_with fail
      obtain ⟨q0, q1, q2, q3, q4, q5, q6, q7, q8, q9, q10⟩ := pf
      exact ⟨_, _, _, _, _, _, _, _, _, _, _, rfl, hcr, hbr, (fun h => absurd (show l 11 = true from h) (by rw [h11]; simp)), fun _ => ⟨q0, q1, q2, q3, q4, q5, q6, fun _ => ⟨b, y, rfl, hb1, hy0, hy1, hb2⟩, q8, q9, q10⟩⟩
    · simp only [List.getElem?_toArray, List.getElem?_cons_zero, List.getElem?_cons_succ, Option.some.injEq] at ho
      subst ho
      simp [Region.binds] at haf
      obtain ⟨b, y, rfl, hb1, hy0, hy1, hb2⟩ := pf.2.2.2.2.2.2.2.1 haf
      obtain ⟨t, ht, hf⟩ := one_of5 zA zB hzA hzB y hy0 hy1
      have hrow := (row_cell hb2 y.toNat).trans hf
      clear hf hb2
      go_wp2_with fail
      obtain ⟨q0, q1, q2, q3, q4, q5, q6, q7, q8, q9, q10⟩ := pf
      exact ⟨_, _, _, _, _, _, _, _, _, _, _, rfl, hcr, hbr, (fun h => absurd (show l 11 = true from h) (by rw [h11]; simp)), fun _ => ⟨q0, q1, q2, q3, q4, q5, q6, q7, fun _ => ⟨t, rfl, ht⟩, q9, q10⟩⟩
    · simp only [List.getElem?_toArray, List.getElem?_cons_zero, List.getElem?_cons_succ, Option.some.injEq] at ho
      subst ho
      simp [Region.binds] at haf
      obtain ⟨t, rfl, ht⟩ := pf.2.2.2.2.2.2.2.2.1 haf
      go_wp2_with fail
      obtain ⟨q0, q1, q2, q3, q4, q5, q6, q7, q8, q9, q10⟩ := pf
      exact ⟨_, _, _, _, _, _, _, _, _, _, _, rfl, hcr, hbr, (fun h => absurd (show l 11 = true from h) (by rw [h11]; simp)), fun _ => ⟨q0, q1, q2, q3, q4, q5, q6, q7, q8, fun _ => ⟨t, rfl, ht⟩, q10⟩⟩
    · simp only [List.getElem?_toArray, List.getElem?_cons_zero, List.getElem?_cons_succ, Option.some.injEq] at ho
      subst ho
      go_wp2_with fail
      obtain ⟨q0, q1, q2, q3, q4, q5, q6, q7, q8, q9, q10⟩ := RFct.grown pf (World.grownBy_alloc wr _ _)
      exact ⟨_, _, _, _, _, _, _, _, _, _, _, rfl, cur_alloc hcr _, hbr.alloc (Nat.le_of_lt hgl) _, (fun h => absurd (show l 11 = true from h) (by rw [h11]; simp)), fun _ => ⟨q0, q1, q2, q3, q4, q5, q6, q7, q8, q9, fun _ => ⟨wr.heap.size, rfl, hgl, heap_alloc_new wr _⟩⟩⟩
    · simp only [List.getElem?_toArray, List.getElem?_cons_zero, List.getElem?_cons_succ, Option.some.injEq] at ho
      subst ho
      simp [Region.binds] at haf
      obtain ⟨b, rfl, hb1, hb2⟩ := pf.2.2.2.2.2.2.2.2.2.2 haf.1
      obtain ⟨t, rfl, ht⟩ := pf.2.2.2.2.2.2.2.2.2.1 haf.2.1
      obtain ⟨c0, c1, f0, f1⟩ := two_cells hb2
      have hset := two_set hb2 (.string t) (.bool false)
      have HS : Hid _ := hset
      clear hset
      go_wp2_with fail
      refine ⟨_, _, _, _, _, _, _, _, _, _, _, rfl, ?_, (hbr.setCell (Nat.le_of_lt hb1) _).setCell (Nat.le_of_lt hb1) _, fun _ => ⟨fun j hj => ?_, b, t, rfl, hb1, HS.out, ht⟩, fun h => by simp at h⟩
      · exact cur_grown (cur_grown hcr (grown_setCell wr b 0 _) (by simp; omega)) (grown_setCell _ b 1 _) (by simp; omega)
      · have : j = 0 ∨ j = 1 ∨ j = 2 ∨ j = 3 ∨ j = 4 ∨ j = 5 ∨ j = 6 ∨ j = 7 ∨ j = 8 ∨ j = 9 ∨ j = 10 := by omega
        rcases this with rfl | rfl | rfl | rfl | rfl | rfl | rfl | rfl | rfl | rfl | rfl <;> simp [haf]
  · intro l a wr hI hall
    obtain ⟨x4, x7, x8, x9, x10, x11, x12, x13, x14, x15, x16, rfl, hcr, hbr, hdone, _⟩ := hI
    obtain ⟨_, b, t, rfl, hb1, hb2, ht⟩ := hdone (hall 11 (by simp))
    obtain ⟨c0, c1, f0, f1⟩ := two_cells hb2
    have R2 : Hid _ := (hbr.block w.heap.size lt1).trans R1
    have HB2 : Hid _ := hb2
    clear hdone hall hb2
    go_wp2_with fail
    go_at_call 16
    refine (l1Once g bs 4 (by omega) _ hl hcr).mono ?_
    rintro e w3 ⟨d, rfl, hc3, hg3⟩
    have L3 : Below g w1 w3 := below_grown hbr hg3 (Nat.le_of_lt (cur_lt hcr))
    have hb3 := block_grown HB2.out hg3 hb1
    have r3 := (L3.block w.heap.size lt1).trans R1
    clear c0 c1 f0 f1 HB2 R2
    obtain ⟨c0, c1, f0, f1⟩ := two_cells hb3
    have hb4 : (w3.setCell ⟨b, 1, none⟩ (.bool d)).heap[b]? = some (.cells #[.string t, .bool d] 27 (0, 0)) := by
      have := heap_setCell_same w3 b 1 _ 27 (.bool d) hb3
      simpa using this
    have r4 : (w3.setCell ⟨b, 1, none⟩ (.bool d)).heap[w.heap.size]? = some (.cells #[.string ⟨#[]⟩, .bool false] 27 (0, 0)) := (Below.heap_setCell _ _ _ _ (by simp; omega)).trans r3
    obtain ⟨e0, e1, i0, i1⟩ := two_cells hb4
    obtain ⟨k0, k1, j0, j1⟩ := two_cells r4
    obtain ⟨d0, d1, d2⟩ := two_read r4 (.string t) (.bool d)
    clear hb3 hb4 r3 r4
    go_wp2
    refine bodyPost_ret (v := .agg #[.string t, .bool d]) (by simp [results, Try.results9, go_sem, d1, d2]) rfl ?_
    have LW : Below w.heap.size w w3 := (hb0.trans (b1.mono hb0.size)).trans (L3.mono (Nat.le_of_lt lt1))
    exact ⟨t, d, rfl, ht, ((LW.setCell (by simp; omega) _).setCell (by simp) _).setCell (by simp) _⟩

end Go.Proofs.Ytnfgdaejfeiabaa
