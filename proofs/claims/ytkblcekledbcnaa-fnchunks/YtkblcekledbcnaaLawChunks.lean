/-
  The law FnChunks.
-/
import Derived.Test.YtkblcekledbcnaaDrawBytes
import Derived.Test.YtkblcekledbcnaaLift
import Derived.WalkLawsBesides
namespace Go.Proofs.Ytkblcekledbcnaa
open Go.ChangeShapes Go.WideShapes Go.ChangeAt Go.RowKit
set_option linter.unusedVariables false
set_option maxHeartbeats 4000000

theorem lawBig (bs : List Int) (v : Value) (w : World) (hl : bs.length ≤ maxLen) (hv : Reads w v (bs.map (Value.int .u8))) :
    Calls Try.prog 7 #[v] w fun e w' => e = .returned (.bool (decide ((4096 : Int) < (bs.length : Int)))) ∧ w = w' := by
  obtain ⟨ao, cap, rfl, hc⟩ := hv
  simp only [List.length_map]
  go_enter Try.func7, Try.ntmps7
  go_wp2
  go_ret
  exact ⟨rfl, rfl⟩

theorem likeTexts (ts : List ByteArray) (v u : Value) (w : World) (hl : ts.length ≤ maxLen) (hv : Reads w v (ts.map .string)) (hu : Reads w u (ts.map .string)) :
    Calls Try.prog 14 #[v, u] w fun e w' => e = .returned (.bool true) ∧ Below w.heap.size w w' := by
  unfold maxLen at hl
  obtain ⟨ao, cap, rfl, hc⟩ := hv
  obtain ⟨bo, cap', rfl, hd⟩ := hu
  simp only [List.length_map]
  go_enter Try.func14, Try.ntmps14
  go_wp2
  go_loopw [5] (fun i wr => ∃ k : Nat, k ≤ ts.length ∧ i = .int .i64 k ∧ Below w.heap.size w wr) (fun i _ => ts.length - (intOf i).toNat)
  case atStart => exact ⟨0, Nat.zero_le _, rfl, Below.refl _ _⟩
  case round =>
    obtain ⟨k, hk, rfl, hb⟩ := hrel
    by_cases hlt : k < ts.length
    · obtain ⟨g, off, rfl, hg⟩ := hc k (.string ts[k]) (by simp [hlt])
      obtain ⟨g', off', rfl, hg'⟩ := hd k (.string ts[k]) (by simp [hlt])
      have hg := (hb.cell (World.block_lt_of_cell? w _ hg)).trans hg
      have hg' := (hb.cell (World.block_lt_of_cell? w _ hg')).trans hg'
      have hlt' : (k : Int) < (ts.length : Int) := by omega
      clear hc hd
      go_wp2
      go_quiet (fail)
      go_wp2
      go_roundw
      case rel => exact ⟨k + 1, by omega, by go_num, below_drewN hb _⟩
      case measure => simp [intOf]; omega
    · go_wp2
      go_ret
      exact ⟨rfl, hb⟩

theorem lawPick (bs : List Int) (n : Int) (hn : 0 < n) (v : Value) (w : World) (hl : bs.length ≤ 4096) (hr : ∀ x ∈ bs, 0 ≤ x ∧ x ≤ 255) (hv : Reads w v (bs.map (Value.int .u8))) :
    Calls Try.prog 21 #[v, .int .i64 1, .int .i64 n] w fun e w' => ∃ k : Int, e = .returned (.int .i64 k) ∧ 0 ≤ k ∧ k < n ∧ Below w.heap.size w w' := by
  obtain ⟨ao, cap, rfl, hc⟩ := hv
  simp only [List.length_map]
  have hn0 : (n == 0) = false := by simp; omega
  go_enter Try.func21, Try.ntmps21
  go_wp2
  go_loopw [7, 8] (fun q i wr => ∃ j : Nat, j ≤ bs.length ∧ i = .int .i64 j ∧ (∃ h : Int, q = .int .i64 h ∧ 0 ≤ h ∧ h ≤ 1000002) ∧ Below w.heap.size w wr) (fun _ i _ => bs.length - (intOf i).toNat)
  case atStart => exact ⟨0, Nat.zero_le _, rfl, ⟨_, rfl, by omega, by omega⟩, Below.refl _ _⟩
  case round =>
    obtain ⟨j, hj, rfl, ⟨h, rfl, hh0, hh1⟩, hb⟩ := hrel
    by_cases hlt : j < bs.length
    · obtain ⟨g, off, rfl, hg⟩ := hc j (.int .u8 bs[j]) (by simp [hlt])
      have hg := (hb.cell (World.block_lt_of_cell? w _ hg)).trans hg
      have hlt' : (j : Int) < (bs.length : Int) := by omega
      have hx := hr bs[j] (List.getElem_mem hlt)
      generalize bs[j] = x at hg hx
      obtain ⟨hx0, hx1⟩ := hx
      clear hc hr
      have hrem := rem_range (h * 167 + x + 1) 1000003 (by omega) (by omega)
      go_wp2
      go_roundw
      case rel => exact ⟨j + 1, by omega, by go_num, ⟨_, rfl, by omega, by omega⟩, hb⟩
      case measure => simp [intOf]; omega
    · have hrem := rem_range h n hh0 hn
      go_wp2
      go_ret
      exact ⟨_, rfl, hrem.1, hrem.2, hb⟩

theorem cat_app : ∀ (cs : List ByteArray) (c : ByteArray), cat (cs ++ [c]) = cat cs ++ c
  | [], c => by
    show c ++ ⟨#[]⟩ = ⟨#[]⟩ ++ c
    rw [app_nil, nil_app]
  | x :: cs, c => by
    show x ++ cat (cs ++ [c]) = x ++ cat cs ++ c
    rw [cat_app cs c, app_assoc]

theorem cat_take (cs : List ByteArray) (k : Nat) (h : k < cs.length) : cat (cs.take (k + 1)) = cat (cs.take k) ++ cs[k] := by
  rw [List.take_succ_eq_append_getElem h, cat_app]

theorem cat_take_size : ∀ (cs : List ByteArray) (k : Nat), (cat (cs.take k)).size ≤ (cat cs).size
  | [], k => by simp
  | c :: cs, 0 => by show 0 ≤ _; omega
  | c :: cs, k + 1 => by
    have := cat_take_size cs k
    show (c ++ cat (cs.take k)).size ≤ (c ++ cat cs).size
    rw [ByteArray.size_append, ByteArray.size_append]
    omega

theorem cat_one (a : ByteArray) : cat [a] = a := app_nil a
theorem cat_two (a : ByteArray) (k : Nat) (h : k ≤ a.size) : cat [a.extract 0 k, a.extract k a.size] = a := by
  show a.extract 0 k ++ (a.extract k a.size ++ ⟨#[]⟩) = a
  rw [app_nil]
  apply bytes_ext
  have hl := size_data a
  rw [app_data, Lib.extract_data, Lib.extract_data, List.drop_zero, Nat.sub_zero, List.take_of_length_le (l := a.data.toList.drop k) (by simp), List.take_append_drop]

/-- Behind the statement that feeds the two chunks, in whatever order it ran. -/
def AfterC (w Wf : World) (X r3 r9 : Nat) (v1 v3 v4 : Value) (ts : List ByteArray) (q : ByteArray) (d : Bool) (t e : TypeId) : Prop :=
  Wf.heap[X]? = some (.cells #[.string q, .bool d] t (0, 0)) ∧ Wf.heap[r3]? = some (.cells #[.string q, .bool d] t (0, 0)) ∧ Wf.heap[r9]? = some (.cells #[.string q, .bool d] t (0, 0)) ∧
  Reads Wf v1 (ts.map .string) ∧ Reads Wf v3 (ts.map .string) ∧ Reads Wf v4 (ts.map .string) ∧ Below w.heap.size w Wf ∧ Wf.heap.size = Wf.heap.size

theorem chunkA {w w11 w12 : World} {r3 r9 B1 B3 B4 : Nat} {v1 v3 v4 : Value} {ts : List ByteArray} {q : ByteArray} {d : Bool} {t e : TypeId}
    (hb : Below w11.heap.size w11 w12) (L11 : Below w.heap.size w w11) (h3 : w11.heap[r3]? = some (.cells #[.string q, .bool d] t (0, 0))) (h9 : w11.heap[r9]? = some (.cells #[.string q, .bool d] t (0, 0)))
    (o1 : w11.ownsRow B1 e 1 v1 ts.length (ts.map .string)) (o3 : w11.ownsRow B3 e 1 v3 ts.length (ts.map .string)) (o4 : w12.ownsRow B4 e 1 v4 ts.length (ts.map .string)) :
    AfterC w (w12.alloc (.cells #[.string q, .bool d] t)) w12.heap.size r3 r9 v1 v3 v4 ts q d t e := by
  have hs := hb.size
  have l3 := (Array.getElem?_eq_some_iff.1 h3).1
  have l9 := (Array.getElem?_eq_some_iff.1 h9).1
  refine ⟨heap_alloc_new w12 _, ?_, ?_, reads_own ((own_kept o1 hb).alloc _), reads_own ((own_kept o3 hb).alloc _), reads_own (o4.alloc _), (L11.trans (hb.mono L11.size)).alloc (Nat.le_trans L11.size hs) _, rfl⟩
  · rw [old_block (by omega), hb.block _ l3]; exact h3
  · rw [old_block (by omega), hb.block _ l9]; exact h9

theorem chunkB {w w11 w12 : World} {X r3 r9 B1 B3 B4 : Nat} {v1 v3 v4 p p' : Value} {ts : List ByteArray} {q : ByteArray} {d : Bool} {t e : TypeId}
    (hb : Below w11.heap.size w11 w12) (L11 : Below w.heap.size w w11) (h3 : w11.heap[r3]? = some (.cells #[.string q, .bool d] t (0, 0))) (h9 : w11.heap[r9]? = some (.cells #[.string q, .bool d] t (0, 0)))
    (o1 : w11.ownsRow B1 e 1 v1 ts.length (ts.map .string)) (o3 : w11.ownsRow B3 e 1 v3 ts.length (ts.map .string)) (o4 : w12.ownsRow B4 e 1 v4 ts.length (ts.map .string))
    (hX : w12.heap[X]? = some (.cells #[p, p'] t (0, 0))) (h11 : w11.heap.size ≤ X) (h4 : X < B4) :
    AfterC w ((w12.setCell ⟨X, 0, none⟩ (.string q)).setCell ⟨X, 1, none⟩ (.bool d)) X r3 r9 v1 v3 v4 ts q d t e := by
  have hs := hb.size
  have l3 := (Array.getElem?_eq_some_iff.1 h3).1
  have l9 := (Array.getElem?_eq_some_iff.1 h9).1
  have n1 : ∀ k, v1.ownBlock = some k → k ≠ X := fun k hk => by have := (o1.lt k hk).2; omega
  have n3 : ∀ k, v3.ownBlock = some k → k ≠ X := fun k hk => by have := (o3.lt k hk).2; omega
  have n4 : ∀ k, v4.ownBlock = some k → k ≠ X := fun k hk => by have := (o4.lt k hk).1; omega
  have hw := L11.size
  refine ⟨two_set hX _ _, ?_, ?_, reads_own (own_setCell_ne (own_setCell_ne (own_kept o1 hb) n1 _) n1 _), reads_own (own_setCell_ne (own_setCell_ne (own_kept o3 hb) n3 _) n3 _),
    reads_own (own_setCell_ne (own_setCell_ne o4 n4 _) n4 _), ((L11.trans (hb.mono L11.size)).setCell (by simp; omega) _).setCell (by simp; omega) _, rfl⟩
  · rw [Below.heap_setCell _ _ _ _ (by simp; omega), Below.heap_setCell _ _ _ _ (by simp; omega), hb.block _ l3]; exact h3
  · rw [Below.heap_setCell _ _ _ _ (by simp; omega), Below.heap_setCell _ _ _ _ (by simp; omega), hb.block _ l9]; exact h9

/-- Two texts laid in a new block. -/
theorem reads_two (W : World) (e : TypeId) (a b : ByteArray) : Reads (W.alloc (.cells #[.string a, .string b] e)) (.slice (some ⟨W.heap.size, 0, none⟩) 2 2) ([a, b].map .string) :=
  reads_own (World.ownsRow_lit (base := W.heap.size) (e := e) (size := 1) W #[.string a, .string b] 2 (Nat.le_refl _) (by decide) (by simp))

theorem reads_two' (W : World) (e : TypeId) (o : Obj) (a b : ByteArray) : Reads ((W.alloc o).alloc (.cells #[.string a, .string b] e)) (.slice (some ⟨W.heap.size + 1, 0, none⟩) 2 2) ([a, b].map .string) := by
  have := reads_two (W.alloc o) e a b
  rwa [show (W.alloc o).heap.size = W.heap.size + 1 by simp] at this

theorem reads_A (W : World) (e : TypeId) (a b : ByteArray) : Reads (W.alloc (.cells #[.string a, .string b] e)).drew (.slice (some ⟨W.heap.size, 0, none⟩) 2 2) ([a, b].map .string) := reads_two W e a b
theorem reads_B (W : World) (e : TypeId) (o : Obj) (a b : ByteArray) : Reads ((W.alloc o).alloc (.cells #[.string a, .string b] e)).drew (.slice (some ⟨W.heap.size + 1, 0, none⟩) 2 2) ([a, b].map .string) := reads_two' W e o a b
theorem reads_C (W : World) (e : TypeId) (o : Obj) (a b : ByteArray) : Reads ((W.alloc (.cells #[.string a, .string b] e)).alloc o).drew (.slice (some ⟨W.heap.size, 0, none⟩) 2 2) ([a, b].map .string) :=
  reads_below (w' := ((W.alloc (.cells #[.string a, .string b] e)).alloc o).drew) (reads_two W e a b) (by go_grown)

section
variable {w w11 w12 : World} {r3 r9 B1 B3 : Nat} {v1 v3 v4 : Value} {ts : List ByteArray} {q a b : ByteArray} {d : Bool} {t e : TypeId}
  (L11 : Below w.heap.size w w11) (h3 : w11.heap[r3]? = some (.cells #[.string q, .bool d] t (0, 0))) (h9 : w11.heap[r9]? = some (.cells #[.string q, .bool d] t (0, 0)))
  (o1 : w11.ownsRow B1 e 1 v1 ts.length (ts.map .string)) (o3 : w11.ownsRow B3 e 1 v3 ts.length (ts.map .string))
include L11 h3 h9 o1 o3

theorem chunk_A (b12 : Below (w11.alloc (.cells #[.string a, .string b] e)).drew.heap.size (w11.alloc (.cells #[.string a, .string b] e)).drew w12) (o4 : w12.ownsRow (w11.alloc (.cells #[.string a, .string b] e)).drew.heap.size e 1 v4 ts.length (ts.map .string)) :
    AfterC w (w12.alloc (.cells #[.string q, .bool d] t)) w12.heap.size r3 r9 v1 v3 v4 ts q d t e :=
  chunkA (Below.trans (by go_grown) (b12.mono (by simp))) L11 h3 h9 o1 o3 o4

theorem chunk_B (b12 : Below ((w11.alloc (.cells #[.string ⟨#[]⟩, .bool false] t)).alloc (.cells #[.string a, .string b] e)).drew.heap.size ((w11.alloc (.cells #[.string ⟨#[]⟩, .bool false] t)).alloc (.cells #[.string a, .string b] e)).drew w12) (o4 : w12.ownsRow ((w11.alloc (.cells #[.string ⟨#[]⟩, .bool false] t)).alloc (.cells #[.string a, .string b] e)).drew.heap.size e 1 v4 ts.length (ts.map .string)) :
    AfterC w ((w12.setCell ⟨w11.heap.size, 0, none⟩ (.string q)).setCell ⟨w11.heap.size, 1, none⟩ (.bool d)) w11.heap.size r3 r9 v1 v3 v4 ts q d t e :=
  chunkB (Below.trans (by go_grown) (b12.mono (by simp; omega))) L11 h3 h9 o1 o3 o4 ((b12.block w11.heap.size (by simp; omega)).trans (first_block w11 (.cells #[.string ⟨#[]⟩, .bool false] t) (.cells #[.string a, .string b] e))) (Nat.le_refl _) (by simp; omega)

theorem chunk_C (b12 : Below ((w11.alloc (.cells #[.string a, .string b] e)).alloc (.cells #[.string ⟨#[]⟩, .bool false] t)).drew.heap.size ((w11.alloc (.cells #[.string a, .string b] e)).alloc (.cells #[.string ⟨#[]⟩, .bool false] t)).drew w12) (o4 : w12.ownsRow ((w11.alloc (.cells #[.string a, .string b] e)).alloc (.cells #[.string ⟨#[]⟩, .bool false] t)).drew.heap.size e 1 v4 ts.length (ts.map .string)) :
    AfterC w ((w12.setCell ⟨w11.heap.size + 1, 0, none⟩ (.string q)).setCell ⟨w11.heap.size + 1, 1, none⟩ (.bool d)) (w11.heap.size + 1) r3 r9 v1 v3 v4 ts q d t e :=
  chunkB (Below.trans (by go_grown) (b12.mono (by simp; omega))) L11 h3 h9 o1 o3 o4 ((b12.block (w11.heap.size + 1) (by simp)).trans (second_block w11 (.cells #[.string a, .string b] e) (.cells #[.string ⟨#[]⟩, .bool false] t))) (by omega) (by simp)
end

set_option maxRecDepth 100000 in
theorem walkChunks (bs : List Int) (v : Value) (w : World) (hl : bs.length ≤ maxLen) (hr : ∀ x ∈ bs, 0 ≤ x ∧ x ≤ 255) (hv : Reads w v (bs.map (Value.int .u8))) :
    Calls Try.prog 4 #[v] w fun e w' => e = .returned (.bool true) ∧ Below w.heap.size w w' := by
  have hbig := lawBig bs v w hl hv
  by_cases h0 : (4096 : Int) < (bs.length : Int)
  · rw [decide_eq_true h0] at hbig
    go_enter Try.func4, Try.ntmps4
    go_wp2_with (go_at_call 7; refine hbig.mono ?_; rintro e w1 ⟨rfl, rfl⟩)
    go_ret
    exact ⟨rfl, Below.refl _ _⟩
  rw [decide_eq_false h0] at hbig
  have hbl : bs.length ≤ 4096 := by omega
  have hdraw := drawFedAll bs v w (by omega) hv
  go_enter Try.func4, Try.ntmps4
  go_wp2_with fail
  go_at_call 7
  refine hbig.mono ?_
  rintro e w1 ⟨rfl, rfl⟩
  go_wp2_with fail
  go_at_call 18
  refine hdraw.mono ?_
  rintro e w2 ⟨u, cs, rfl, hcat, hlen, ocs, b2⟩
  clear hbig hdraw
  have hlk := fedAll_length cs
  have hsp := fun W hW => specFedAll cs u W (by omega) hW
  have him := fun W hW => implFedAll cs u W (by omega) hW
  have hA := fedAll_cat cs (by omega)
  have hm1 := fun U W hW => implFedAll [cat cs] U W (by simp) hW
  rw [fedAll_cat [cat cs] (by rw [cat_one]; omega), cat_one, ← hA] at hm1
  have hm2 : ∀ (k : Nat), k ≤ (cat cs).size → ∀ U W, Reads W U ([(cat cs).extract 0 k, (cat cs).extract k (cat cs).size].map .string) →
      Calls Try.prog 19 #[U] W fun e w' => ∃ u, e = .returned (.tuple #[.agg #[.string (fedAll cs).2.1, .bool (fedAll cs).2.2], u]) ∧
        w'.ownsRow W.heap.size 9 1 u (fedAll cs).1.length ((fedAll cs).1.map .string) ∧ Below W.heap.size W w' := fun k hk U W hW => by
    have := implFedAll [(cat cs).extract 0 k, (cat cs).extract k (cat cs).size] U W (by simp) hW
    rwa [fedAll_cat _ (by rw [cat_two _ _ hk]; omega), cat_two _ _ hk, ← hA] at this
  clear hA
  generalize fedAll cs = A at hlk hsp him hm1 hm2
  obtain ⟨ts, q, d⟩ := A
  simp only at hlk hsp him hm1 hm2
  have hts : ts.length ≤ maxLen := by unfold maxLen; omega
  clear hlk
  have s2 := b2.size
  go_wp2_with fail
  go_at_call 19
  refine (him w2 (reads_own ocs)).mono ?_
  rintro e w3 ⟨v1, rfl, o1, b3⟩
  have s3 := b3.size
  have ocs := (own_kept ocs b3).alloc (.cells #[.string q, .bool d] 27)
  have o1' := o1.alloc (.cells #[.string q, .bool d] 27)
  have L4 : Below w.heap.size w (w3.alloc (.cells #[.string q, .bool d] 27)) := (b2.trans (b3.mono s2)).alloc (by omega) _
  have s4 : (w3.alloc (.cells #[.string q, .bool d] 27)).heap.size = w3.heap.size + 1 := by simp
  go_wp2_with fail
  go_at_call 20
  refine (hsp _ (reads_own ocs)).mono ?_
  rintro e w5 ⟨v2, rfl, o2, b5⟩
  have s5 := b5.size
  rw [s4] at s5
  have L5 : Below w.heap.size w w5 := L4.trans (b5.mono (by omega))
  have ocs := own_kept ocs b5
  have o1' := own_kept o1' b5
  have HR5 : Hid (w5.heap[w3.heap.size]? = _) := (b5.block _ (by omega)).trans (heap_alloc_new w3 _)
  have z5 : w3.heap.size < w5.heap.size := by omega
  obtain ⟨x0, x1, y0, y1⟩ := two_cells HR5.out
  clear him hsp
  have s6 : (w5.alloc (.cells #[.string q, .bool d] 27)).heap.size = w5.heap.size + 1 := by simp
  go_wp2_with fail
  go_at_call 14
  refine (likeTexts ts _ _ _ hts (reads_own (o1'.alloc _)) (reads_own (o2.alloc _))).mono ?_
  rintro e w7 ⟨rfl, b7⟩
  have s7 := b7.size
  rw [s6] at s7
  have L7 : Below w.heap.size w w7 := (L5.alloc (by omega) _).trans (b7.mono (by omega))
  have o1' := own_kept (o1'.alloc _) b7
  have ocs := own_kept (ocs.alloc _) b7
  have HR7 : Hid (w7.heap[w3.heap.size]? = _) := (b7.block _ (by omega)).trans ((old_block (by omega)).trans HR5.out)
  clear x0 x1 y0 y1
  obtain ⟨ao, cap, hu, hrd⟩ := reads_own ocs
  rw [List.length_map] at hu
  subst hu
  go_wp2_with fail
  go_loopw [8, 9] (fun t i wr => ∃ k : Nat, k ≤ cs.length ∧ i = .int .i64 k ∧ t = .string (cat (cs.take k)) ∧ w7 = wr) (fun _ i _ => cs.length - (intOf i).toNat)
  case atStart => exact ⟨0, Nat.zero_le _, rfl, rfl, rfl⟩
  case round =>
    obtain ⟨k, hk, rfl, rfl, rfl⟩ := hrel
    by_cases hlt : k < cs.length
    · obtain ⟨g, off, rfl, hg⟩ := hrd k (.string cs[k]) (by simp [hlt])
      have hlt' : (k : Int) < (cs.length : Int) := by omega
      have htk := cat_take cs k hlt
      have hz1 := cat_take_size cs (k + 1)
      rw [htk, ByteArray.size_append] at hz1
      have HTK : Hid (cat (cs.take (k + 1)) = cat (cs.take k) ++ cs[k]) := htk
      have ks : ¬ 9223372036854775807 < (cat (cs.take k)).size + cs[k].size := by omega
      have ks' : (cat (cs.take k)).size + cs[k].size ≤ 9223372036854775807 := by omega
      clear htk hm1 hm2 hrd
      go_wp2
      go_roundw
      case rel => exact ⟨k + 1, by omega, by go_num, by rw [HTK.out], by trivial⟩
      case measure => simp [intOf]; omega
    · have hkk : k = cs.length := by omega
      subst hkk
      rw [List.take_length]
      generalize cat cs = S at hcat hm1 hm2
      have R8 : Reads (w7.alloc (.cells #[.string S] 9)) (.slice (some ⟨w7.heap.size, 0, none⟩) 1 1) ([S].map .string) :=
        reads_own (World.ownsRow_lit (base := w7.heap.size) (e := 9) (size := 1) w7 #[.string S] 1 (Nat.le_refl _) (by decide) (by simp))
      have s8 : (w7.alloc (.cells #[.string S] 9)).heap.size = w7.heap.size + 1 := by simp
      go_wp2_with fail
      go_at_call 19
      refine (hm1 _ _ R8).mono ?_
      rintro e w9 ⟨v3, rfl, o3, b9⟩
      have s9 := b9.size
      rw [s8] at s9
      have L9 : Below w.heap.size w w9 := (L7.alloc (by omega) _).trans (b9.mono (by omega))
      have o1' := own_kept (o1'.alloc _) b9
      have HR9 : Hid (w9.heap[w3.heap.size]? = _) := (b9.block _ (by omega)).trans ((old_block (by omega)).trans HR7.out)
      have s10 : (w9.alloc (.cells #[.string q, .bool d] 27)).heap.size = w9.heap.size + 1 := by simp
      have L10 : Below w.heap.size w (w9.alloc (.cells #[.string q, .bool d] 27)) := L9.alloc (by omega) _
      go_wp2_with fail
      go_at_call 21
      refine (lawPick bs ((S.size : Int) + 1) (by omega) v _ hbl hr (reads_below hv L10)).mono ?_
      rintro e w11 ⟨k, rfl, hk0, hk1, b11⟩
      have s11 := b11.size
      rw [s10] at s11
      have L11 : Below w.heap.size w w11 := L10.trans (b11.mono (by omega))
      have o1' := own_kept (o1'.alloc _) b11
      have o3' := own_kept (o3.alloc _) b11
      have HR11 : Hid (w11.heap[w3.heap.size]? = _) := (b11.block _ (by omega)).trans ((old_block (by omega)).trans HR9.out)
      have HX11 : Hid (w11.heap[w9.heap.size]? = _) := (b11.block _ (by omega)).trans (heap_alloc_new w9 _)
      have hm3 := hm2 k.toNat (by omega)
      have hsl := slice_to S k hk0 (by omega)
      have hsl2 := slice_from S k hk0 (by omega)
      clear hm1 hm2 R8 hr
      generalize S.extract 0 k.toNat = t1 at hm3 hsl
      generalize S.extract k.toNat S.size = t2 at hm3 hsl2
      go_wp2_with fail
      go_region_with (go_at_call 19; refine (hm3 _ _ ?_).mono ?_; (first | (with_reducible exact reads_A w11 9 t1 t2) | (with_reducible exact reads_B w11 9 _ t1 t2) | (with_reducible exact reads_C w11 9 _ t1 t2)); rintro e w12 ⟨v4, rfl, o4, b12⟩; obtain ⟨hc12, hf12⟩ := bcell b12)
      all_goals
        clear hc12 hf12 hm3
        generalize hd : Oper.dst _ = x
        obtain rfl : x = some 14 := by rw [← hd]; rfl
        clear hd
        first
        | (have hA := chunk_B L11 HR11.out HX11.out o1' o3' b12 o4
           generalize (w12.setCell ⟨w11.heap.size, 0, none⟩ (.string q)).setCell ⟨w11.heap.size, 1, none⟩ (.bool d) = Wf at hA ⊢
           obtain ⟨X, hX⟩ : ∃ X, w11.heap.size = X := ⟨_, rfl⟩
           rw [hX] at hA ⊢
           clear hX)
        | (have hA := chunk_C L11 HR11.out HX11.out o1' o3' b12 o4
           generalize (w12.setCell ⟨w11.heap.size + 1, 0, none⟩ (.string q)).setCell ⟨w11.heap.size + 1, 1, none⟩ (.bool d) = Wf at hA ⊢
           obtain ⟨X, hX⟩ : ∃ X, w11.heap.size + 1 = X := ⟨_, rfl⟩
           rw [hX] at hA ⊢
           clear hX)
        | (have hA := chunk_A L11 HR11.out HX11.out o1' o3' b12 o4
           generalize w12.alloc (.cells #[.string q, .bool d] 27) = Wf at hA ⊢
           generalize w12.heap.size = X at hA ⊢)
        obtain ⟨kX, k3, k9, r1, r3, r4, kb, _⟩ := hA
        obtain ⟨p0, p1, p2, p3⟩ := two_cells kX
        obtain ⟨p4, p5, p6, p7⟩ := two_cells k3
        obtain ⟨p8, p9, p10, p11⟩ := two_cells k9
        clear kX k3 k9 b12 o4 o1' o3' hsl hsl2
        go_wp2_with fail
        go_at_call 14
        refine (likeTexts ts _ _ _ hts r3 r1).mono ?_
        rintro e w14 ⟨rfl, b14⟩
        go_wp2_with fail
        go_at_call 14
        refine (likeTexts ts _ _ _ hts (reads_below r4 b14) (reads_below r1 b14)).mono ?_
        rintro e w15 ⟨rfl, b15⟩
        go_wp2
        go_ret
        exact ⟨rfl, kb.trans ((b14.mono kb.size).trans (b15.mono (Nat.le_trans kb.size b14.size)))⟩

theorem own : ownKnob Try.prog.godebug = none := by kernel_rfl
theorem laidOut : laidOutB Try.prog = true := by kernel_rfl
theorem cellsByte : Try.prog.cellsOf 5 = 1 := by kernel_rfl

/-- A slice of bytes that came in. -/
theorem open_code {H : Type} {enc : TypeId × Value → H} {P : Program} {W : World} {base : Nat} {held : Bool} {t e : TypeId} {r : Reach} {b0 : Nat} {v : Value} {d : DataW H} {p : List MemPlace}
    (ht : P.underlying t = some (.slice e)) (he : P.underlying e = some (.int .u8)) (hc : P.cellsOf e = 1) (hv : Value.okWide P W r b0 t v) (h : DataW.Trod enc P W base (fun _ => true) held t v d p) :
    ∃ bs : List Int, Reads W v (bs.map (Value.int .u8)) ∧ bs.length ≤ maxLen ∧ ∀ x ∈ bs, 0 ≤ x ∧ x ≤ 255 := by
  obtain ⟨a0, len, cap, rfl⟩ := okWide_slice ht hv
  obtain ⟨fuel, hf⟩ := h
  rcases open_ints ht he hc hf with ⟨hcs, _⟩ | ⟨a, len', cap', zs, hcs, _, hl, hm, hz, _, hcell, hwz⟩
  · simp [Value.cells] at hcs
    obtain ⟨rfl, rfl, rfl⟩ := hcs
    exact ⟨[], ⟨none, 0, rfl, fun j x hx => by simp at hx⟩, by simp, by simp⟩
  · simp [Value.cells] at hcs
    obtain ⟨rfl, rfl, rfl⟩ := hcs
    simp only [if_true] at hz
    have hlen : (zs.take len).length = len := by simp; omega
    refine ⟨zs.take len, ⟨some a, cap, by rw [List.length_map, hlen], ?_⟩, by omega, fun x hx => ?_⟩
    · intro j x hx
      have hj : j < len := by
        rcases Nat.lt_or_ge j len with h | h
        · exact h
        · rw [List.getElem?_eq_none (by simp; omega)] at hx; simp at hx
      have hcj := hcell j (by omega)
      obtain ⟨b, off, spot⟩ := a
      have hspot : spot = none := by
        have h0 := hcell 0 (by omega)
        simpa [Addr.add] using World.cell?_spot h0
      subst hspot
      refine ⟨b, off, rfl, ?_⟩
      have hadd : (⟨b, off, none⟩ : Addr).add j = ⟨b, off + j, none⟩ := by unfold Addr.add; split <;> simp_all
      rw [hadd] at hcj
      rw [hcj]
      have hjs : j < zs.length := by omega
      simp [hj, List.getElem?_eq_getElem hjs] at hx
      rw [List.getD_eq_getElem?_getD, List.getElem?_eq_getElem hjs]
      simp [hx]
    · have := hwz x (List.mem_of_mem_take hx)
      simp only [Lit.wf, Bool.and_eq_true, decide_eq_true_eq] at this
      have h1 : IntKind.u8.min = 0 := by decide
      have h2 : IntKind.u8.max = 255 := by decide
      rw [h1, h2] at this
      exact this

set_option maxRecDepth 100000 in
theorem liftedChunks (os : Os) (started : os.Started) (H : Type) (enc : TypeId × Value → H) :
    ReturnsInHanded {} Try.checked os 4 .any (Rows.fnChunksSpec.pre6 enc Try.prog Try.f4 Rows.fnChunksRow.domain false) (Rows.fnChunksSpec.post enc Try.prog Try.f4 false true false false) := by
  refine returnsInHanded_of_change (C := Try.checked) own started (by kernel_rfl) Try.func4
    (ChangeSpec.witness6 (enc := enc) (C := Try.checked) false ⟨#[], #[.slice none 0 0], []⟩ 8 (by kernel_rfl) (by kernel_rfl) (by kernel_rfl) (by kernel_rfl)) ?_
  intro W base args ds gs before hval0 hW hcnd _
  have hval : ∀ (j : Nat) t v, Try.f4.params[j]? = some t → args[j]? = some v → Value.okWide Try.prog W .any base t v := hval0
  have hW' := hW
  obtain ⟨p, q, hA0, hV, rfl, hfz, hnd⟩ := hW
  have hA : DataW.TrodAll enc Try.prog W 0 (fun _ => true) true Try.f4.params.toList args.toList ds p := hA0
  rw [Try.params4] at hA hval
  obtain ⟨v0, vs0, d0, ds0, p0, q0, hargs, rfl, rfl, h0, r0⟩ := trodAll_cons hA
  obtain ⟨rfl, rfl, rfl⟩ := trodAll_nil r0
  obtain rfl : args = #[v0] := by cases args; simp_all
  obtain ⟨rfl, rfl⟩ := trodVars_none hV
  obtain ⟨bs, hr, hl, hs⟩ := open_code Try.underlying22 Try.underlying5 cellsByte (hval 0 22 v0 rfl rfl) h0
  refine (walkChunks bs v0 W hl hs hr).mono fun e W' ⟨he, hb⟩ => ?_
  subst he
  refine ⟨_, rfl, law_post (tb := 4) laidOut ?_ hW' rfl Try.underlying4 rfl rfl hb⟩
  exact all_readable (P := Try.prog) (by kernel_rfl)

theorem overChunks : Rows.fnChunksRow.holds Try.pinned (OpenSpec.ofChange Rows.fnChunksSpec) :=
  OpenClaim.holds_of_wide 4 Try.f4 rfl rfl rfl rfl rfl rfl rfl ⟨rfl, rfl, rfl, rfl, rfl⟩ rfl rfl rfl rfl rfl (by kernel_rfl) Try.func4 (by kernel_rfl)
    (of_decide_eq_true (by kernel_rfl)) (by unfold Func.isWrapper; first | (rw [if_pos (by decide +kernel)]; kernel_rfl) | (rw [if_neg (by decide +kernel)]; exact ⟨rfl, rfl⟩))
    (fun os started H enc _ => liftedChunks os started H enc)

/-- ████ THE STATEMENT ████ -/
theorem chunksHolds : Rows.FnChunksSaid :=
  overChunks
#print axioms chunksHolds

end Go.Proofs.Ytkblcekledbcnaa
