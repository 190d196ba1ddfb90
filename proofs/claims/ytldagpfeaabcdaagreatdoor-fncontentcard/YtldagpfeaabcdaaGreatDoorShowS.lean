/-
 spec.l1Int at small numbers, spec.l13Stmt, spec.ShowProgram.
-/
import Derived.Test.YtldagpfeaabcdaaGreatDoorG32Bld
namespace Go.Proofs.YtldagpfeaabcdaaGreatDoor
open Go.RowKit
set_option linter.unusedVariables false
set_option linter.unusedSimpArgs false
set_option maxHeartbeats 4000000
set_option maxRecDepth 20000
theorem jw1 (w : World) (T : TypeId) (x : Int) :
 (convert 22 9 (Value.slice (some { block := w.heap.size, off := 0 }) 1 1)).run Tryz.prog (w.alloc (Obj.cells #[Value.int IntKind.u8 x] T))
  = .ok (.string (strOfNums [x])) (w.alloc (Obj.cells #[Value.int IntKind.u8 x] T)) := by
 refine run_convert_bytes_arg _ 22 5 Tryz.underlying22 Tryz.underlying5 w.heap.size 0 1 1 [x] rfl ?_ 9 Tryz.underlying9
 intro i hi
 have : i = 0 := by omega
 subst this
 simp
theorem jf0 (a b : List UInt8) : (⟨a.toArray⟩ : ByteArray) ++ ⟨b.toArray⟩ = ⟨(a ++ b).toArray⟩ := by
 apply ByteArray.ext
 simp [ByteArray.data_append]
theorem app_one (c : UInt8) (b : List UInt8) : (⟨#[c]⟩ : ByteArray) ++ ⟨b.toArray⟩ = ⟨(c :: b).toArray⟩ := jf0 [c] b
theorem jn9 (a b : List UInt8) (W : World) (h : a.length + b.length ≤ 1000000) : (binOp .add 9 (.string ⟨a.toArray⟩) (.string ⟨b.toArray⟩)).run Tryz.prog W = .ok (.string ⟨(a ++ b).toArray⟩) W := by
 have h1 : ¬ (⟨a.toArray⟩ : ByteArray).size + (⟨b.toArray⟩ : ByteArray).size > 9223372036854775807 := by
  simp [ByteArray.size]; omega
 rw [← jf0]
 first
  | rw [run_add_string Tryz.underlying9, if_neg h1]
  | (simp [go_sem]; omega)
theorem l1Int_0 (w : World) :
 Calls Tryz.prog 84 #[.int .i64 0] w fun e w' => e = .returned (.string ⟨#[48]⟩) ∧ Below w.heap.size w w' := by
 have hap : ∀ a b : List UInt8, (⟨a.toArray⟩ : ByteArray) ++ ⟨b.toArray⟩ = ⟨(a ++ b).toArray⟩ := jf0
 have hcv := jw1 w 5 48
 have hs : strOfNums [(48 : Int)] = ⟨#[48]⟩ := by decide +kernel
 rw [hs] at hcv
 go_enter Tryz.func84, Tryz.ntmps84
 go_wp2
 refine wp_loop_rounds 2 ?_
 rw [rounds_succ]
 go_wp2
 rw [rounds_succ]
 go_wp2
 go_ret
 exact ⟨rfl, by go_grown⟩
theorem l1Int_1 (w : World) :
 Calls Tryz.prog 84 #[.int .i64 1] w fun e w' => e = .returned (.string ⟨#[49]⟩) ∧ Below w.heap.size w w' := by
 have hap : ∀ a b : List UInt8, (⟨a.toArray⟩ : ByteArray) ++ ⟨b.toArray⟩ = ⟨(a ++ b).toArray⟩ := jf0
 have hcv := jw1 w 5 49
 have hs : strOfNums [(49 : Int)] = ⟨#[49]⟩ := by decide +kernel
 rw [hs] at hcv
 go_enter Tryz.func84, Tryz.ntmps84
 go_wp2
 refine wp_loop_rounds 2 ?_
 rw [rounds_succ]
 go_wp2
 rw [rounds_succ]
 go_wp2
 go_ret
 exact ⟨rfl, by go_grown⟩
theorem l1Int_2 (w : World) :
 Calls Tryz.prog 84 #[.int .i64 2] w fun e w' => e = .returned (.string ⟨#[50]⟩) ∧ Below w.heap.size w w' := by
 have hap : ∀ a b : List UInt8, (⟨a.toArray⟩ : ByteArray) ++ ⟨b.toArray⟩ = ⟨(a ++ b).toArray⟩ := jf0
 have hcv := jw1 w 5 50
 have hs : strOfNums [(50 : Int)] = ⟨#[50]⟩ := by decide +kernel
 rw [hs] at hcv
 go_enter Tryz.func84, Tryz.ntmps84
 go_wp2
 refine wp_loop_rounds 2 ?_
 rw [rounds_succ]
 go_wp2
 rw [rounds_succ]
 go_wp2
 go_ret
 exact ⟨rfl, by go_grown⟩
theorem l1Int_3 (w : World) :
 Calls Tryz.prog 84 #[.int .i64 3] w fun e w' => e = .returned (.string ⟨#[51]⟩) ∧ Below w.heap.size w w' := by
 have hap : ∀ a b : List UInt8, (⟨a.toArray⟩ : ByteArray) ++ ⟨b.toArray⟩ = ⟨(a ++ b).toArray⟩ := jf0
 have hcv := jw1 w 5 51
 have hs : strOfNums [(51 : Int)] = ⟨#[51]⟩ := by decide +kernel
 rw [hs] at hcv
 go_enter Tryz.func84, Tryz.ntmps84
 go_wp2
 refine wp_loop_rounds 2 ?_
 rw [rounds_succ]
 go_wp2
 rw [rounds_succ]
 go_wp2
 go_ret
 exact ⟨rfl, by go_grown⟩
theorem l1Int_4 (w : World) :
 Calls Tryz.prog 84 #[.int .i64 4] w fun e w' => e = .returned (.string ⟨#[52]⟩) ∧ Below w.heap.size w w' := by
 have hap : ∀ a b : List UInt8, (⟨a.toArray⟩ : ByteArray) ++ ⟨b.toArray⟩ = ⟨(a ++ b).toArray⟩ := jf0
 have hcv := jw1 w 5 52
 have hs : strOfNums [(52 : Int)] = ⟨#[52]⟩ := by decide +kernel
 rw [hs] at hcv
 go_enter Tryz.func84, Tryz.ntmps84
 go_wp2
 refine wp_loop_rounds 2 ?_
 rw [rounds_succ]
 go_wp2
 rw [rounds_succ]
 go_wp2
 go_ret
 exact ⟨rfl, by go_grown⟩
theorem l1Int_5 (w : World) :
 Calls Tryz.prog 84 #[.int .i64 5] w fun e w' => e = .returned (.string ⟨#[53]⟩) ∧ Below w.heap.size w w' := by
 have hap : ∀ a b : List UInt8, (⟨a.toArray⟩ : ByteArray) ++ ⟨b.toArray⟩ = ⟨(a ++ b).toArray⟩ := jf0
 have hcv := jw1 w 5 53
 have hs : strOfNums [(53 : Int)] = ⟨#[53]⟩ := by decide +kernel
 rw [hs] at hcv
 go_enter Tryz.func84, Tryz.ntmps84
 go_wp2
 refine wp_loop_rounds 2 ?_
 rw [rounds_succ]
 go_wp2
 rw [rounds_succ]
 go_wp2
 go_ret
 exact ⟨rfl, by go_grown⟩
theorem l1Int_6 (w : World) :
 Calls Tryz.prog 84 #[.int .i64 6] w fun e w' => e = .returned (.string ⟨#[54]⟩) ∧ Below w.heap.size w w' := by
 have hap : ∀ a b : List UInt8, (⟨a.toArray⟩ : ByteArray) ++ ⟨b.toArray⟩ = ⟨(a ++ b).toArray⟩ := jf0
 have hcv := jw1 w 5 54
 have hs : strOfNums [(54 : Int)] = ⟨#[54]⟩ := by decide +kernel
 rw [hs] at hcv
 go_enter Tryz.func84, Tryz.ntmps84
 go_wp2
 refine wp_loop_rounds 2 ?_
 rw [rounds_succ]
 go_wp2
 rw [rounds_succ]
 go_wp2
 go_ret
 exact ⟨rfl, by go_grown⟩
theorem l1Int_7 (w : World) :
 Calls Tryz.prog 84 #[.int .i64 7] w fun e w' => e = .returned (.string ⟨#[55]⟩) ∧ Below w.heap.size w w' := by
 have hap : ∀ a b : List UInt8, (⟨a.toArray⟩ : ByteArray) ++ ⟨b.toArray⟩ = ⟨(a ++ b).toArray⟩ := jf0
 have hcv := jw1 w 5 55
 have hs : strOfNums [(55 : Int)] = ⟨#[55]⟩ := by decide +kernel
 rw [hs] at hcv
 go_enter Tryz.func84, Tryz.ntmps84
 go_wp2
 refine wp_loop_rounds 2 ?_
 rw [rounds_succ]
 go_wp2
 rw [rounds_succ]
 go_wp2
 go_ret
 exact ⟨rfl, by go_grown⟩
theorem l1Int_8 (w : World) :
 Calls Tryz.prog 84 #[.int .i64 8] w fun e w' => e = .returned (.string ⟨#[56]⟩) ∧ Below w.heap.size w w' := by
 have hap : ∀ a b : List UInt8, (⟨a.toArray⟩ : ByteArray) ++ ⟨b.toArray⟩ = ⟨(a ++ b).toArray⟩ := jf0
 have hcv := jw1 w 5 56
 have hs : strOfNums [(56 : Int)] = ⟨#[56]⟩ := by decide +kernel
 rw [hs] at hcv
 go_enter Tryz.func84, Tryz.ntmps84
 go_wp2
 refine wp_loop_rounds 2 ?_
 rw [rounds_succ]
 go_wp2
 rw [rounds_succ]
 go_wp2
 go_ret
 exact ⟨rfl, by go_grown⟩
theorem l1Int_9 (w : World) :
 Calls Tryz.prog 84 #[.int .i64 9] w fun e w' => e = .returned (.string ⟨#[57]⟩) ∧ Below w.heap.size w w' := by
 have hap : ∀ a b : List UInt8, (⟨a.toArray⟩ : ByteArray) ++ ⟨b.toArray⟩ = ⟨(a ++ b).toArray⟩ := jf0
 have hcv := jw1 w 5 57
 have hs : strOfNums [(57 : Int)] = ⟨#[57]⟩ := by decide +kernel
 rw [hs] at hcv
 go_enter Tryz.func84, Tryz.ntmps84
 go_wp2
 refine wp_loop_rounds 2 ?_
 rw [rounds_succ]
 go_wp2
 rw [rounds_succ]
 go_wp2
 go_ret
 exact ⟨rfl, by go_grown⟩
theorem l1Int_10 (w : World) :
 Calls Tryz.prog 84 #[.int .i64 10] w fun e w' => e = .returned (.string ⟨#[49, 48]⟩) ∧ Below w.heap.size w w' := by
 have hap : ∀ a b : List UInt8, (⟨a.toArray⟩ : ByteArray) ++ ⟨b.toArray⟩ = ⟨(a ++ b).toArray⟩ := jf0
 have hcv := jw1 w 5 48
 have hs : strOfNums [(48 : Int)] = ⟨#[48]⟩ := by decide +kernel
 rw [hs] at hcv
 have hcv1 := jw1 (w.alloc (.cells #[.int .u8 48] 5)) 5 49
 have hs1 : strOfNums [(49 : Int)] = ⟨#[49]⟩ := by decide +kernel
 rw [hs1] at hcv1
 simp only [World.size_alloc] at hcv1
 go_enter Tryz.func84, Tryz.ntmps84
 go_wp2
 refine wp_loop_rounds 3 ?_
 rw [rounds_succ]
 go_wp2
 rw [rounds_succ]
 go_wp2
 rw [rounds_succ]
 go_wp2
 go_ret
 exact ⟨rfl, by go_grown⟩
theorem l1Int_11 (w : World) :
 Calls Tryz.prog 84 #[.int .i64 11] w fun e w' => e = .returned (.string ⟨#[49, 49]⟩) ∧ Below w.heap.size w w' := by
 have hap : ∀ a b : List UInt8, (⟨a.toArray⟩ : ByteArray) ++ ⟨b.toArray⟩ = ⟨(a ++ b).toArray⟩ := jf0
 have hcv := jw1 w 5 49
 have hs : strOfNums [(49 : Int)] = ⟨#[49]⟩ := by decide +kernel
 rw [hs] at hcv
 have hcv1 := jw1 (w.alloc (.cells #[.int .u8 49] 5)) 5 49
 have hs1 : strOfNums [(49 : Int)] = ⟨#[49]⟩ := by decide +kernel
 rw [hs1] at hcv1
 simp only [World.size_alloc] at hcv1
 go_enter Tryz.func84, Tryz.ntmps84
 go_wp2
 refine wp_loop_rounds 3 ?_
 rw [rounds_succ]
 go_wp2
 rw [rounds_succ]
 go_wp2
 rw [rounds_succ]
 go_wp2
 go_ret
 exact ⟨rfl, by go_grown⟩
theorem dd_small : dd 0 = [48] ∧ dd 1 = [49] ∧ dd 2 = [50] ∧ dd 3 = [51] ∧ dd 4 = [52] ∧ dd 5 = [53] ∧ dd 6 = [54] ∧ dd 7 = [55] ∧ dd 8 = [56] ∧ dd 9 = [57] ∧ dd 10 = [49, 48] ∧ dd 11 = [49, 49] := by
 have key : ∀ n : Nat, n < 10 → Lib.decDigits n = [UInt8.ofNat (48 + n)] := fun n h => by rw [Lib.decDigits, dif_pos h]
 have key2 : ∀ n : Nat, 10 ≤ n → Lib.decDigits n = Lib.decDigits (n / 10) ++ [UInt8.ofNat (48 + n % 10)] := fun n h => by rw [Lib.decDigits, dif_neg (by omega)]
 unfold dd
 refine ⟨?_, ?_, ?_, ?_, ?_, ?_, ?_, ?_, ?_, ?_, ?_, ?_⟩
 all_goals first
  | (rw [key _ (by decide)]; rfl)
  | (rw [key2 _ (by decide), key _ (by decide)]; rfl)
theorem qf8 (n : Int) (h0 : 0 ≤ n) (h : n ≤ 11) (w : World) :
 Calls Tryz.prog 84 #[.int .i64 n] w fun e w' => e = .returned (.string ⟨(dd n).toArray⟩) ∧ Below w.heap.size w w' := by
 obtain ⟨d0, d1, d2, d3, d4, d5, d6, d7, d8, d9, d10, d11⟩ := dd_small
 obtain rfl | rfl | rfl | rfl | rfl | rfl | rfl | rfl | rfl | rfl | rfl | rfl : n = 0 ∨ n = 1 ∨ n = 2 ∨ n = 3 ∨ n = 4 ∨ n = 5 ∨ n = 6 ∨ n = 7 ∨ n = 8 ∨ n = 9 ∨ n = 10 ∨ n = 11 := by omega
 · rw [d0]; exact l1Int_0 w
 · rw [d1]; exact l1Int_1 w
 · rw [d2]; exact l1Int_2 w
 · rw [d3]; exact l1Int_3 w
 · rw [d4]; exact l1Int_4 w
 · rw [d5]; exact l1Int_5 w
 · rw [d6]; exact l1Int_6 w
 · rw [d7]; exact l1Int_7 w
 · rw [d8]; exact l1Int_8 w
 · rw [d9]; exact l1Int_9 w
 · rw [d10]; exact l1Int_10 w
 · rw [d11]; exact l1Int_11 w
theorem one_cell3s {w : World} {b : Nat} {x0 x1 x2 : Value} {T : TypeId} (h : w.heap[b]? = some (.cells #[x0, x1, x2] T (0, 0))) :
 w.cell? ⟨b, 0, none⟩ = some x0 ∧ w.cell? ⟨b, 1, none⟩ = some x1 ∧ w.cell? ⟨b, 2, none⟩ = some x2 := by
 refine ⟨?_, ?_, ?_⟩ <;> simp [World.cell?, h]
theorem letters (k : Nat) (h1 : 1 ≤ k) (h9 : k ≤ 9) : (⟨#[115, 99, 98, 108, 109, 116, 106, 107, 114]⟩ : ByteArray).extract (k - 1) k = ⟨#[jm7 k]⟩ := by
 obtain rfl | rfl | rfl | rfl | rfl | rfl | rfl | rfl | rfl : k = 1 ∨ k = 2 ∨ k = 3 ∨ k = 4 ∨ k = 5 ∨ k = 6 ∨ k = 7 ∨ k = 8 ∨ k = 9 := by omega
 all_goals decide +kernel
theorem l13Stmt (s : Stm) (w : World) (hok : jd7 s.k s.x s.y = true) :
 Calls Tryz.prog 64 #[.agg #[.int .i64 s.k, .int .i64 s.x, .int .i64 s.y]] w fun e w' => e = .returned (.string ⟨(je9 s).toArray⟩) ∧ Below w.heap.size w w' := by
 obtain ⟨hk1, hk9, hx0, hx5, hy0, hy11⟩ := jo0 hok
 have hdx := dd_len (n := s.x) hx0 (by omega)
 have hdy := dd_len (n := s.y) hy0 (by omega)
 obtain ⟨k, x, y⟩ := s
 simp only at *
 obtain ⟨W0, hW0⟩ : ∃ W0, w.alloc (.cells #[.int .i64 k, .int .i64 x, .int .i64 y] 52) = W0 := ⟨_, rfl⟩
 have b0 : Below w.heap.size w W0 := by rw [← hW0]; go_grown
 have H0 : W0.heap[w.heap.size]? = some (.cells #[.int .i64 k, .int .i64 x, .int .i64 y] 52 (0, 0)) := by rw [← hW0]; exact heap_alloc_new w _
 obtain ⟨c0, c1, c2⟩ := one_cell3s H0
 have hx := fun W => qf8 x hx0 (by omega) W
 have hy := fun W => qf8 y hy0 (by omega) W
 have hlt := letters
 clear hlt
 obtain rfl | rfl | rfl | rfl | rfl | rfl | rfl | rfl | rfl : k = 1 ∨ k = 2 ∨ k = 3 ∨ k = 4 ∨ k = 5 ∨ k = 6 ∨ k = 7 ∨ k = 8 ∨ k = 9 := by omega
 · have hst : je9 ⟨1, x, y⟩ = [115] := by simp [je9, told, jc9, jm7]
   have he : (⟨#[115, 99, 98, 108, 109, 116, 106, 107, 114]⟩ : ByteArray).extract 0 1 = ⟨[115].toArray⟩ := by decide +kernel
   rw [hst]
   clear hst
   clear hx hy
   go_enter Tryz.func64, Tryz.ntmps64
   go_wp2
   go_ret
   exact ⟨rfl, b0⟩
 · have hst : je9 ⟨2, x, y⟩ = 99 :: (dd x ++ 44 :: dd y) := by simp [je9, told, jc9, jm7]
   have he : (⟨#[115, 99, 98, 108, 109, 116, 106, 107, 114]⟩ : ByteArray).extract 1 2 = ⟨[99].toArray⟩ := by decide +kernel
   rw [hst]
   clear hst
   have hx2 : ∀ d os, _ := fun d os => Calls.regrown_of (w := W0) (d := d) (os := os) (hx _)
   have hy2 : ∀ d os, _ := fun d os => Calls.regrown_of (w := W0) (d := d) (os := os) (hy _)
   have g1 := cell_regrown c1
   have g2 := cell_regrown c2
   generalize dd x = D at *
   generalize dd y = E at *
   have had1 := fun W => jn9 [99] D W (by simp; omega)
   have had2 := fun W => jn9 ([99] ++ D) [44] W (by simp; omega)
   have had3 := fun W => jn9 (([99] ++ D) ++ [44]) E W (by simp; omega)
   go_enter Tryz.func64, Tryz.ntmps64
   go_wp2_with fail
   refine wp_region_quiet_below (by kernel_rfl) (by kernel_rfl) ?_
   repeat (go_big_quiet_step (first | (with_reducible exact hx2 _ _) | (with_reducible exact hy2 _ _)))
   refine wpQuiet_nil ?_
   intro _ hw'
   obtain ⟨⟨dq, osq⟩, hw''⟩ := hw'
   subst hw''
   have hb' : Hid (Below w.heap.size w _) := b0.trans ((below_regrown W0 dq osq).mono b0.size)
   clear hx2 hy2 g1 g2 c0 c1 c2 hW0 hx hy
   go_wp2
   go_ret
   refine ⟨?_, hb'.out⟩
   simp
   rw [show (#[44] : Array UInt8) = [44].toArray from rfl]
   simp only [app_one, jf0]
   simp
 · have hst : je9 ⟨3, x, y⟩ = 98 :: (dd x ++ 44 :: dd y) := by simp [je9, told, jc9, jm7]
   have he : (⟨#[115, 99, 98, 108, 109, 116, 106, 107, 114]⟩ : ByteArray).extract 2 3 = ⟨[98].toArray⟩ := by decide +kernel
   rw [hst]
   clear hst
   have hx2 : ∀ d os, _ := fun d os => Calls.regrown_of (w := W0) (d := d) (os := os) (hx _)
   have hy2 : ∀ d os, _ := fun d os => Calls.regrown_of (w := W0) (d := d) (os := os) (hy _)
   have g1 := cell_regrown c1
   have g2 := cell_regrown c2
   generalize dd x = D at *
   generalize dd y = E at *
   have had1 := fun W => jn9 [98] D W (by simp; omega)
   have had2 := fun W => jn9 ([98] ++ D) [44] W (by simp; omega)
   have had3 := fun W => jn9 (([98] ++ D) ++ [44]) E W (by simp; omega)
   go_enter Tryz.func64, Tryz.ntmps64
   go_wp2_with fail
   refine wp_region_quiet_below (by kernel_rfl) (by kernel_rfl) ?_
   repeat (go_big_quiet_step (first | (with_reducible exact hx2 _ _) | (with_reducible exact hy2 _ _)))
   refine wpQuiet_nil ?_
   intro _ hw'
   obtain ⟨⟨dq, osq⟩, hw''⟩ := hw'
   subst hw''
   have hb' : Hid (Below w.heap.size w _) := b0.trans ((below_regrown W0 dq osq).mono b0.size)
   clear hx2 hy2 g1 g2 c0 c1 c2 hW0 hx hy
   go_wp2
   go_ret
   refine ⟨?_, hb'.out⟩
   simp
   rw [show (#[44] : Array UInt8) = [44].toArray from rfl]
   simp only [app_one, jf0]
   simp
 · have hst : je9 ⟨4, x, y⟩ = 108 :: dd x := by simp [je9, told, jc9, jm7]
   have he : (⟨#[115, 99, 98, 108, 109, 116, 106, 107, 114]⟩ : ByteArray).extract 3 4 = ⟨[108].toArray⟩ := by decide +kernel
   rw [hst]
   clear hst
   generalize dd x = D at *
   have hadd := fun W => jn9 [108] D W (by simp; omega)
   go_enter Tryz.func64, Tryz.ntmps64
   go_wp2_with fail
   go_at_call 84
   refine (hx _).mono ?_
   rintro e w1 ⟨rfl, b1⟩
   have L1 : Hid (Below w.heap.size w w1) := b0.trans (b1.mono b0.size)
   clear hx hy c0 c1 c2 H0 hW0 b0 b1
   go_wp2
   go_ret
   exact ⟨rfl, L1.out⟩
 · have hst : je9 ⟨5, x, y⟩ = 109 :: dd x := by simp [je9, told, jc9, jm7]
   have he : (⟨#[115, 99, 98, 108, 109, 116, 106, 107, 114]⟩ : ByteArray).extract 4 5 = ⟨[109].toArray⟩ := by decide +kernel
   rw [hst]
   clear hst
   generalize dd x = D at *
   have hadd := fun W => jn9 [109] D W (by simp; omega)
   go_enter Tryz.func64, Tryz.ntmps64
   go_wp2_with fail
   go_at_call 84
   refine (hx _).mono ?_
   rintro e w1 ⟨rfl, b1⟩
   have L1 : Hid (Below w.heap.size w w1) := b0.trans (b1.mono b0.size)
   clear hx hy c0 c1 c2 H0 hW0 b0 b1
   go_wp2
   go_ret
   exact ⟨rfl, L1.out⟩
 · have hst : je9 ⟨6, x, y⟩ = 116 :: dd x := by simp [je9, told, jc9, jm7]
   have he : (⟨#[115, 99, 98, 108, 109, 116, 106, 107, 114]⟩ : ByteArray).extract 5 6 = ⟨[116].toArray⟩ := by decide +kernel
   rw [hst]
   clear hst
   generalize dd x = D at *
   have hadd := fun W => jn9 [116] D W (by simp; omega)
   go_enter Tryz.func64, Tryz.ntmps64
   go_wp2_with fail
   go_at_call 84
   refine (hx _).mono ?_
   rintro e w1 ⟨rfl, b1⟩
   have L1 : Hid (Below w.heap.size w w1) := b0.trans (b1.mono b0.size)
   clear hx hy c0 c1 c2 H0 hW0 b0 b1
   go_wp2
   go_ret
   exact ⟨rfl, L1.out⟩
 · have hst : je9 ⟨7, x, y⟩ = 106 :: dd y := by simp [je9, told, jc9, jm7]
   have he : (⟨#[115, 99, 98, 108, 109, 116, 106, 107, 114]⟩ : ByteArray).extract 6 7 = ⟨[106].toArray⟩ := by decide +kernel
   rw [hst]
   clear hst
   generalize dd y = D at *
   have hadd := fun W => jn9 [106] D W (by simp; omega)
   go_enter Tryz.func64, Tryz.ntmps64
   go_wp2_with fail
   go_at_call 84
   refine (hy _).mono ?_
   rintro e w1 ⟨rfl, b1⟩
   have L1 : Hid (Below w.heap.size w w1) := b0.trans (b1.mono b0.size)
   clear hx hy c0 c1 c2 H0 hW0 b0 b1
   go_wp2
   go_ret
   exact ⟨rfl, L1.out⟩
 · have hst : je9 ⟨8, x, y⟩ = 107 :: dd y := by simp [je9, told, jc9, jm7]
   have he : (⟨#[115, 99, 98, 108, 109, 116, 106, 107, 114]⟩ : ByteArray).extract 7 8 = ⟨[107].toArray⟩ := by decide +kernel
   rw [hst]
   clear hst
   generalize dd y = D at *
   have hadd := fun W => jn9 [107] D W (by simp; omega)
   go_enter Tryz.func64, Tryz.ntmps64
   go_wp2_with fail
   go_at_call 84
   refine (hy _).mono ?_
   rintro e w1 ⟨rfl, b1⟩
   have L1 : Hid (Below w.heap.size w w1) := b0.trans (b1.mono b0.size)
   clear hx hy c0 c1 c2 H0 hW0 b0 b1
   go_wp2
   go_ret
   exact ⟨rfl, L1.out⟩
 · have hst : je9 ⟨9, x, y⟩ = [114] := by simp [je9, told, jc9, jm7]
   have he : (⟨#[115, 99, 98, 108, 109, 116, 106, 107, 114]⟩ : ByteArray).extract 8 9 = ⟨[114].toArray⟩ := by decide +kernel
   rw [hst]
   clear hst
   clear hx hy
   go_enter Tryz.func64, Tryz.ntmps64
   go_wp2
   go_ret
   exact ⟨rfl, b0⟩
theorem progs_allS {ps : List (List Stm)} (h : ja5 ps = true) : ps.length ≤ 4 ∧ 1 ≤ ps.length ∧ ∀ p ∈ ps, p.length ≤ 12 ∧ ∀ s ∈ p, jd7 s.k s.x s.y = true := by
 obtain ⟨h1, h2, h3⟩ := jc1 h
 exact ⟨h1, h2, fun p hp => ⟨jj5 (h3 p hp).1, fun s hs => ji1 (h3 p hp).1 hs⟩⟩
theorem qd5 (sep : UInt8) {α : Type} (f : α → List UInt8) (p : List α) (j : Nat) (h : j < p.length) : jc9 sep ((p.take (j + 1)).map f) = (if j = 0 then jc9 sep ((p.take j).map f) else jc9 sep ((p.take j).map f) ++ [sep]) ++ f p[j] := by
 have hl : j < (p.map f).length := by simpa using h
 have := js8 sep (p.map f) j hl
 rw [List.map_take, this, List.map_take, List.getElem_map]
 congr 1
 unfold ahead
 have : (List.take j (p.map f)).length = j := by simp; omega
 rw [this]
 split
 · rename_i h0; subst h0; simp [jc9]
 · rfl
theorem join_len (sep : UInt8) {α : Type} (f : α → List UInt8) (p : List α) (n m : Nat) (hl : p.length ≤ n) (h : ∀ x ∈ p, (f x).length ≤ m) (j : Nat) : (jc9 sep ((p.take j).map f)).length ≤ n * (m + 1) := by
 have := jn6 sep m ((p.take j).map f) (fun x hx => by
  obtain ⟨s, hs, rfl⟩ := List.mem_map.1 hx
  exact h s (List.mem_of_mem_take hs))
 simp only [List.length_map, List.length_take] at this
 have h5 : min j p.length ≤ n := by omega
 exact Nat.le_trans this (Nat.mul_le_mul_right _ h5)
theorem specShow (ps : List (List Stm)) (v : Value) (w : World) (hl : ps.length ≤ maxLen) (hp : ∀ p ∈ ps, p.length ≤ maxLen) (hv : jb5 w v ps) :
 Calls Tryz.prog 36 #[.agg #[v]] w fun e w' => e = .returned (.string ⟨(jv4 ps).toArray⟩) ∧ Below w.heap.size w w' := by
 obtain ⟨W0, hW0⟩ : ∃ W0, w.alloc (.cells #[v] 26) = W0 := ⟨_, rfl⟩
 have b0 : Below w.heap.size w W0 := by rw [← hW0]; go_grown
 have s0 : W0.heap.size = w.heap.size + 1 := by rw [← hW0]; simp
 have H0 : W0.heap[w.heap.size]? = some (.cells #[v] 26 (0, 0)) := by rw [← hW0]; exact heap_alloc_new w _
 have hpk := ji0 ps v W0 hl hp (ja0 hv b0)
 have c0 := (ja4 H0).1
 have HW0 : Hid _ := hW0
 cases hok : ja5 ps
 · rw [hok] at hpk
   have hsA : jv4 ps = [] := by unfold jv4; rw [hok]; rfl
   rw [hsA]
   clear hok hsA HW0
   go_enter Tryz.func36, Tryz.ntmps36
   go_wp2_with fail
   go_at_call 32
   refine hpk.mono ?_
   rintro e w1 ⟨rfl, b1⟩
   have L1 : Hid (Below w.heap.size w w1) := b0.trans (b1.mono (by omega))
   clear hW0 hpk c0 H0 b0 b1 s0 hv
   go_wp2
   go_ret
   exact ⟨rfl, L1.out⟩
 rw [hok] at hpk
 have hsA : jv4 ps = showT ps := by unfold jv4; rw [hok]; rfl
 rw [hsA]
 obtain ⟨h4, h1, hpr⟩ := progs_allS hok
 obtain ⟨R, hR⟩ : ∃ R, showT ps = R := ⟨_, rfl⟩
 rw [hR]
 have HR : Hid _ := hR
 obtain ⟨ao, vcap, rfl, hcv⟩ := hv
 clear hok hsA hR
 go_enter Tryz.func36, Tryz.ntmps36
 go_wp2_with fail
 go_at_call 32
 refine hpk.mono ?_
 rintro e w1 ⟨rfl, b1⟩
 have s1 := b1.size
 have H1 := (b1.block w.heap.size (by omega)).trans H0
 have L1 : Below w.heap.size w w1 := b0.trans (b1.mono (by omega))
 clear hW0 HW0 hpk c0 H0 b0 b1
 have hlen : ∀ j, (jc9 59 ((ps.take j).map jl6)).length ≤ 388 := fun j => join_len 59 jl6 ps 4 96 h4 (fun p hp => procT_len (hpr p hp).1 (hpr p hp).2) j
 go_wp2
 go_loopw [3, 4] (fun o q wr => ∃ (j : Nat), j ≤ ps.length ∧ q = .int .i64 j ∧ o = .string ⟨(jc9 59 ((ps.take j).map jl6)).toArray⟩ ∧ Below w.heap.size w wr ∧ wr.heap[w.heap.size]? = some (.cells #[.slice ao ps.length vcap] 26 (0, 0))) (fun _ q _ => ps.length - (intOf q).toNat)
 case atStart => exact ⟨0, Nat.zero_le _, rfl, rfl, L1, H1⟩
 case round =>
  obtain ⟨j, hj, rfl, rfl, hLj, hHj⟩ := hrel
  clear L1 H1
  obtain ⟨cj, _⟩ := ja4 hHj
  by_cases hlt : j < ps.length
  · have hlt' : (j : Int) < (ps.length : Int) := by omega
    obtain ⟨gv, off, u, rfl, q0, r0⟩ := hcv j ps[j] (by simp)
    have hpp := hpr ps[j] (List.getElem_mem hlt)
    have hsp := qd5 59 jl6 ps j hlt
    have hll := hlen j
    obtain ⟨A0, hA0⟩ : ∃ A0, jc9 59 ((ps.take j).map jl6) = A0 := ⟨_, rfl⟩
    rw [hA0] at hll hsp ⊢
    obtain ⟨A, hA⟩ : ∃ A, (if j = 0 then A0 else A0 ++ [59]) = A := ⟨_, rfl⟩
    have hAl : A.length ≤ 389 := by
     rw [← hA]
     split
     · omega
     · simp only [List.length_append, List.length_cons, List.length_nil]; omega
    rw [hA] at hsp
    have HSP : Hid _ := hsp
    clear hsp hA0
    generalize ps[j] = p at *
    obtain ⟨ua, uc, rfl, hcu⟩ := r0
    have hgw : gv < w.heap.size := World.block_lt_of_cell? w _ q0
    have HCU : Hid _ := hcu
    have hplen : ∀ m, (jc9 32 ((p.take m).map je9)).length ≤ 96 := fun m => join_len 32 je9 p 12 7 hpp.1 (fun s hs => jr6 (hpp.2 s hs)) m
    have q1 := (hLj.cell hgw).trans q0
    obtain ⟨N, hN⟩ : ∃ N, p.length = N := ⟨_, rfl⟩
    have HN : Hid _ := hN
    have hN12 : N ≤ 12 := by rw [← hN]; exact hpp.1
    rw [hN] at q0 q1
    clear hN hcu
    have inner : ∀ (P0 : Prop), P0 → P0 := fun _ h => h
    by_cases hj0 : j = 0
    · have hAe : A = A0 := by rw [if_pos hj0] at hA; exact hA.symm
      have hj0' : ¬ (0 : Int) < (j : Int) := by omega
      subst hAe
      clear hA hj0
      go_wp2
      clear inner
      go_loopw [3, 5] (fun o q wr => ∃ (m : Nat), m ≤ N ∧ q = .int .i64 m ∧ o = .string ⟨(A ++ jc9 32 ((p.take m).map je9)).toArray⟩ ∧ Below w.heap.size w wr ∧ wr.heap[w.heap.size]? = some (.cells #[.slice (some ⟨gv, off, none⟩) ps.length vcap] 26 (0, 0))) (fun _ q _ => N - (intOf q).toNat)
      case atStart => exact ⟨0, Nat.zero_le _, rfl, by simp [jc9], hLj, hHj⟩
      case round =>
       obtain ⟨m, hm, rfl, rfl, hLm, hHm⟩ := hrel
       clear cj hLj hHj q1
       obtain ⟨cm, _⟩ := ja4 hHm
       have q1 := (hLm.cell hgw).trans q0
       by_cases hlm : m < N
       · have hlm' : (m : Int) < (N : Int) := by omega
         have hml : m < p.length := by rw [HN.out]; exact hlm
         obtain ⟨gu, ou, rfl, a0, a1, a2⟩ := HCU.out m p[m] (by simp)
         have hBu := World.block_lt_of_cell? w _ a0
         have a0 := (hLm.cell hBu).trans a0
         have a1 := (hLm.cell (p := ⟨gu, ou + m * 3 + 1, none⟩) hBu).trans a1
         have a2 := (hLm.cell (p := ⟨gu, ou + m * 3 + 2, none⟩) hBu).trans a2
         have hpt := qd5 32 je9 p m hml
         have hll2 := hplen m
         have hso := hpp.2 p[m] (List.getElem_mem hml)
         have hst := l13Stmt p[m] wr hso
         have hstl := jr6 hso
         obtain ⟨D0, hD0⟩ : ∃ D0, jc9 32 ((p.take m).map je9) = D0 := ⟨_, rfl⟩
         rw [hD0] at hll2 hpt ⊢
         clear hD0
         generalize je9 p[m] = S at *
         generalize p[m] = s at *
         obtain ⟨sk, sx, sy⟩ := s
         simp only at a0 a1 a2 hst
         have hXl := (Array.getElem?_eq_some_iff.1 hHm).1
         by_cases hm0 : m = 0
         · have hm0' : ¬ (0 : Int) < (m : Int) := by omega
           rw [if_pos hm0] at hpt
           have HPT : Hid _ := hpt
           have happ2 : (⟨(A ++ D0).toArray⟩ : ByteArray) ++ ⟨S.toArray⟩ = ⟨(A ++ (D0 ++ S)).toArray⟩ := by rw [jf0, List.append_assoc]
           clear hpt hm0
           go_wp2_with fail
           go_at_call 64
           refine hst.mono ?_
           rintro e w5 ⟨rfl, b5⟩
           have L5 : Below w.heap.size w w5 := hLm.trans (b5.mono hLm.size)
           have H5 := (b5.block _ hXl).trans hHm
           clear hst hLm hHm cm q1 a0 a1 a2 b5
           go_wp2
           go_roundw
           case rel => exact ⟨m + 1, by omega, by go_num, by rw [HPT.out] <;> simp, L5, H5⟩
           case measure => simp [intOf]; omega
         · have hm0' : (0 : Int) < (m : Int) := by omega
           rw [if_neg hm0] at hpt
           have HPT : Hid _ := hpt
           have happ2 : (⟨(A ++ D0).toArray⟩ : ByteArray) ++ ⟨#[32]⟩ = ⟨(A ++ (D0 ++ [32])).toArray⟩ := (jf0 (A ++ D0) [32]).trans (by rw [List.append_assoc])
           have happ3 : (⟨(A ++ (D0 ++ [32])).toArray⟩ : ByteArray) ++ ⟨S.toArray⟩ = ⟨(A ++ (D0 ++ [32] ++ S)).toArray⟩ := by rw [jf0, List.append_assoc]
           clear hpt hm0
           go_wp2_with fail
           go_at_call 64
           refine hst.mono ?_
           rintro e w5 ⟨rfl, b5⟩
           have L5 : Below w.heap.size w w5 := hLm.trans (b5.mono hLm.size)
           have H5 := (b5.block _ hXl).trans hHm
           clear hst hLm hHm cm q1 a0 a1 a2 b5
           go_wp2
           go_roundw
           case rel => exact ⟨m + 1, by omega, by go_num, by rw [HPT.out] <;> simp, L5, H5⟩
           case measure => simp [intOf]; omega
       · have hmm : m = p.length := by rw [HN.out]; omega
         have HE : Hid (A ++ jc9 32 ((p.take m).map je9) = jc9 59 ((ps.take (j + 1)).map jl6)) := by
          show _ = _
          rw [HSP.out, hmm, List.take_length]
          rfl
         clear hmm
         have HHM : Hid _ := hHm
         clear hHm
         go_wp2
         go_roundw
         case rel => exact ⟨j + 1, by omega, by go_num, by rw [HE.out], hLm, HHM.out⟩
         case measure => simp [intOf]; omega
    · have hAe : A0 ++ [59] = A := by rw [if_neg hj0] at hA; exact hA
      have hj0' : (0 : Int) < (j : Int) := by omega
      have hjN : 0 < j := by omega
      have happ : (⟨A0.toArray⟩ : ByteArray) ++ ⟨#[59]⟩ = ⟨A.toArray⟩ := by rw [← hAe]; exact jf0 A0 [59]
      clear hA hj0 hAe
      go_wp2
      clear inner
      go_loopw [3, 5] (fun o q wr => ∃ (m : Nat), m ≤ N ∧ q = .int .i64 m ∧ o = .string ⟨(A ++ jc9 32 ((p.take m).map je9)).toArray⟩ ∧ Below w.heap.size w wr ∧ wr.heap[w.heap.size]? = some (.cells #[.slice (some ⟨gv, off, none⟩) ps.length vcap] 26 (0, 0))) (fun _ q _ => N - (intOf q).toNat)
      case atStart => exact ⟨0, Nat.zero_le _, rfl, by simp [jc9], hLj, hHj⟩
      case round =>
       obtain ⟨m, hm, rfl, rfl, hLm, hHm⟩ := hrel
       clear cj hLj hHj q1
       obtain ⟨cm, _⟩ := ja4 hHm
       have q1 := (hLm.cell hgw).trans q0
       by_cases hlm : m < N
       · have hlm' : (m : Int) < (N : Int) := by omega
         have hml : m < p.length := by rw [HN.out]; exact hlm
         obtain ⟨gu, ou, rfl, a0, a1, a2⟩ := HCU.out m p[m] (by simp)
         have hBu := World.block_lt_of_cell? w _ a0
         have a0 := (hLm.cell hBu).trans a0
         have a1 := (hLm.cell (p := ⟨gu, ou + m * 3 + 1, none⟩) hBu).trans a1
         have a2 := (hLm.cell (p := ⟨gu, ou + m * 3 + 2, none⟩) hBu).trans a2
         have hpt := qd5 32 je9 p m hml
         have hll2 := hplen m
         have hso := hpp.2 p[m] (List.getElem_mem hml)
         have hst := l13Stmt p[m] wr hso
         have hstl := jr6 hso
         obtain ⟨D0, hD0⟩ : ∃ D0, jc9 32 ((p.take m).map je9) = D0 := ⟨_, rfl⟩
         rw [hD0] at hll2 hpt ⊢
         clear hD0
         generalize je9 p[m] = S at *
         generalize p[m] = s at *
         obtain ⟨sk, sx, sy⟩ := s
         simp only at a0 a1 a2 hst
         have hXl := (Array.getElem?_eq_some_iff.1 hHm).1
         by_cases hm0 : m = 0
         · have hm0' : ¬ (0 : Int) < (m : Int) := by omega
           rw [if_pos hm0] at hpt
           have HPT : Hid _ := hpt
           have happ2 : (⟨(A ++ D0).toArray⟩ : ByteArray) ++ ⟨S.toArray⟩ = ⟨(A ++ (D0 ++ S)).toArray⟩ := by rw [jf0, List.append_assoc]
           clear hpt hm0
           go_wp2_with fail
           go_at_call 64
           refine hst.mono ?_
           rintro e w5 ⟨rfl, b5⟩
           have L5 : Below w.heap.size w w5 := hLm.trans (b5.mono hLm.size)
           have H5 := (b5.block _ hXl).trans hHm
           clear hst hLm hHm cm q1 a0 a1 a2 b5
           go_wp2
           go_roundw
           case rel => exact ⟨m + 1, by omega, by go_num, by rw [HPT.out] <;> simp, L5, H5⟩
           case measure => simp [intOf]; omega
         · have hm0' : (0 : Int) < (m : Int) := by omega
           rw [if_neg hm0] at hpt
           have HPT : Hid _ := hpt
           have happ2 : (⟨(A ++ D0).toArray⟩ : ByteArray) ++ ⟨#[32]⟩ = ⟨(A ++ (D0 ++ [32])).toArray⟩ := (jf0 (A ++ D0) [32]).trans (by rw [List.append_assoc])
           have happ3 : (⟨(A ++ (D0 ++ [32])).toArray⟩ : ByteArray) ++ ⟨S.toArray⟩ = ⟨(A ++ (D0 ++ [32] ++ S)).toArray⟩ := by rw [jf0, List.append_assoc]
           clear hpt hm0
           go_wp2_with fail
           go_at_call 64
           refine hst.mono ?_
           rintro e w5 ⟨rfl, b5⟩
           have L5 : Below w.heap.size w w5 := hLm.trans (b5.mono hLm.size)
           have H5 := (b5.block _ hXl).trans hHm
           clear hst hLm hHm cm q1 a0 a1 a2 b5
           go_wp2
           go_roundw
           case rel => exact ⟨m + 1, by omega, by go_num, by rw [HPT.out] <;> simp, L5, H5⟩
           case measure => simp [intOf]; omega
       · have hmm : m = p.length := by rw [HN.out]; omega
         have HE : Hid (A ++ jc9 32 ((p.take m).map je9) = jc9 59 ((ps.take (j + 1)).map jl6)) := by
          show _ = _
          rw [HSP.out, hmm, List.take_length]
          rfl
         clear hmm
         have HHM : Hid _ := hHm
         clear hHm
         go_wp2
         go_roundw
         case rel => exact ⟨j + 1, by omega, by go_num, by rw [HE.out], hLm, HHM.out⟩
         case measure => simp [intOf]; omega
  · have hjj : j = ps.length := by omega
    have HE : Hid (jc9 59 ((ps.take j).map jl6) = R) := by
     show _ = _
     rw [hjj, List.take_length, ← HR.out]
     rfl
    clear hjj
    have hLe : Hid (Below w.heap.size w wr) := hLj
    clear hLj
    go_wp2
    go_ret
    exact ⟨by rw [HE.out]; rfl, hLe.out⟩
end Go.Proofs.YtldagpfeaabcdaaGreatDoor
