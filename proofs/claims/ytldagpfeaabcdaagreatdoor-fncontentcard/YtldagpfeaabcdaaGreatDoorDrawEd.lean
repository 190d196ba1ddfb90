/-
 spec.l13Draw: some Edit.
-/
import Derived.Test.YtldagpfeaabcdaaGreatDoorLikeProg
import Derived.Test.YtldagpfeaabcdaaGreatDoorG26DrawStmtOk
namespace Go.Proofs.YtldagpfeaabcdaaGreatDoor
open Go.RowKit
set_option linter.unusedVariables false
set_option linter.unusedSimpArgs false
set_option maxHeartbeats 4000000
set_option maxRecDepth 20000
def qf3 (e : Edt) : Obj := .cells #[.int .i64 e.k, .int .i64 e.pr, .int .i64 e.a, .int .i64 e.s.k, .int .i64 e.s.x, .int .i64 e.s.y] 54 (0, 0)
structure DE (w : World) (g : Nat) (bs : List Int) (E : Nat) (e : Edt) (W : World) : Prop where
 box : W.heap[E]? = some (qf3 e)
 res : W.heap[w.heap.size + 1]? = some (qf3 zeroE)
 cur : Cur W g bs
 gr : w.grownBy W (some g)
theorem DE.draw {w : World} {g : Nat} {bs : List Int} {E : Nat} {e : Edt} {W W' : World} (h : DE w g bs E e W) (hg0 : g < w.heap.size) (hE : w.heap.size + 1 < E) (hc : Cur W' g bs) (hg : W.grownBy W' (some g)) : DE w g bs E e W' :=
 ⟨jb4 h.box hg (by omega), jb4 h.res hg (by omega), hc, ja8 h.gr hg⟩
theorem DE.put {w : World} {g : Nat} {bs : List Int} {E : Nat} {e : Edt} {W : World} (h : DE w g bs E e W) (hg0 : g < w.heap.size) (hE : w.heap.size + 1 < E) (o : Nat) (v : Value) (e' : Edt) (hs : (W.setCell ⟨E, o, none⟩ v).heap[E]? = some (qf3 e')) : DE w g bs E e' (W.setCell ⟨E, o, none⟩ v) :=
 ⟨hs, by rw [heap_setCell_other W ⟨E, o, none⟩ (w.heap.size + 1) v (by simp; omega)]; exact h.res, jc6 h.cur (by omega) _, jb6 h.gr (by omega) _⟩
theorem DE.set {w : World} {g : Nat} {bs : List Int} {E : Nat} {e : Edt} {W : World} (h : DE w g bs E e W) (hg0 : g < w.heap.size) (hE : w.heap.size + 1 < E) (z : Int) :
 DE w g bs E ⟨z, e.pr, e.a, e.s⟩ (W.setCell ⟨E, 0, none⟩ (.int .i64 z)) ∧ DE w g bs E ⟨e.k, z, e.a, e.s⟩ (W.setCell ⟨E, 1, none⟩ (.int .i64 z)) ∧ DE w g bs E ⟨e.k, e.pr, z, e.s⟩ (W.setCell ⟨E, 2, none⟩ (.int .i64 z)) ∧ DE w g bs E ⟨e.k, e.pr, e.a, ⟨z, e.s.x, e.s.y⟩⟩ (W.setCell ⟨E, 3, none⟩ (.int .i64 z)) ∧
  DE w g bs E ⟨e.k, e.pr, e.a, ⟨e.s.k, z, e.s.y⟩⟩ (W.setCell ⟨E, 4, none⟩ (.int .i64 z)) ∧ DE w g bs E ⟨e.k, e.pr, e.a, ⟨e.s.k, e.s.x, z⟩⟩ (W.setCell ⟨E, 5, none⟩ (.int .i64 z)) := by
 have key : ∀ (o : Nat), (W.setCell ⟨E, o, none⟩ (.int .i64 z)).heap[E]? = _ := fun o => heap_setCell_same W E o _ _ (.int .i64 z) h.box
 refine ⟨h.put hg0 hE 0 _ _ ?_, h.put hg0 hE 1 _ _ ?_, h.put hg0 hE 2 _ _ ?_, h.put hg0 hE 3 _ _ ?_, h.put hg0 hE 4 _ _ ?_, h.put hg0 hE 5 _ _ ?_⟩ <;> (rw [key]; simp [qf3])
theorem DE.ends {w : World} {g : Nat} {bs : List Int} {E : Nat} {e : Edt} {W : World} (h : DE w g bs E e W) (hg0 : g < w.heap.size) (e' : Edt) (W' : World)
 (hW : ((((((W.setCell ⟨w.heap.size + 1, 0, none⟩ (.int .i64 e'.k)).setCell ⟨w.heap.size + 1, 1, none⟩ (.int .i64 e'.pr)).setCell ⟨w.heap.size + 1, 2, none⟩ (.int .i64 e'.a)).setCell ⟨w.heap.size + 1, 3, none⟩ (.int .i64 e'.s.k)).setCell ⟨w.heap.size + 1, 4, none⟩ (.int .i64 e'.s.x)).setCell ⟨w.heap.size + 1, 5, none⟩ (.int .i64 e'.s.y)) = W') :
 W'.heap[w.heap.size + 1]? = some (qf3 e') ∧ Cur W' g bs ∧ w.grownBy W' (some g) := by
 subst hW
 refine ⟨six_set _ _ _ _ _ _ h.res, ?_, ?_⟩
 · exact jc6 (jc6 (jc6 (jc6 (jc6 (jc6 h.cur (by omega) _) (by omega) _) (by omega) _) (by omega) _) (by omega) _) (by omega) _
 · exact jb6 (jb6 (jb6 (jb6 (jb6 (jb6 h.gr (by omega) _) (by omega) _) (by omega) _) (by omega) _) (by omega) _) (by omega) _
theorem l13Draw (g : Nat) (bs : List Int) (ao : Option Addr) (n vc : Nat) (w : World) (hn : n ≤ 100) (hl : bs.length ≤ 1048576) (hc : Cur w g bs) :
 Calls Tryz.prog 23 #[.pointer (some ⟨g, 0, none⟩), .agg #[.slice ao n vc]] w fun r w' => ∃ e : Edt, r = .returned (edV e) ∧ Cur w' g bs ∧ w.grownBy w' (some g) := by
 have hgw := jv8 hc
 have hcA := jg6 (jg6 hc (.cells #[.slice ao n vc] 26)) (.cells #[.int .i64 0, .int .i64 0, .int .i64 0, .int .i64 0, .int .i64 0, .int .i64 0] 54)
 have gA := jf3 (World.grownBy_alloc w (.cells #[.slice ao n vc] 26) (some g)) (.cells #[.int .i64 0, .int .i64 0, .int .i64 0, .int .i64 0, .int .i64 0, .int .i64 0] 54)
 have RA : ((w.alloc (.cells #[.slice ao n vc] 26)).alloc (.cells #[.int .i64 0, .int .i64 0, .int .i64 0, .int .i64 0, .int .i64 0, .int .i64 0] 54)).heap[w.heap.size + 1]? = some (qf3 zeroE) := by
  have h9 := heap_alloc_new (w.alloc (.cells #[.slice ao n vc] 26)) (.cells #[.int .i64 0, .int .i64 0, .int .i64 0, .int .i64 0, .int .i64 0, .int .i64 0] 54)
  have hz : (w.alloc (.cells #[.slice ao n vc] 26)).heap.size = w.heap.size + 1 := by simp
  rw [hz] at h9
  exact h9
 obtain ⟨W0, hW0⟩ : ∃ W0, (w.alloc (.cells #[.slice ao n vc] 26)).alloc (.cells #[.int .i64 0, .int .i64 0, .int .i64 0, .int .i64 0, .int .i64 0, .int .i64 0] 54) = W0 := ⟨_, rfl⟩
 have HW0 : Hid _ := hW0
 rw [hW0] at hcA gA RA
 clear hW0
 go_enter Tryz.func23, Tryz.ntmps23
 go_wp2_with fail
 go_at_call 51
 refine (l1MaxB 1 (n : Int) _).mono ?_
 rintro r w0 ⟨⟨m, rfl, hm⟩, hw0⟩
 rw [HW0.out] at hw0
 subst hw0
 have hm1 : m ≤ 100 := by omega
 have hm0 : 0 ≤ m := by omega
 clear HW0 hm
 go_wp2_with fail
 go_at_call 47
 refine (jf4 g bs 4 (by omega) _ hl hcA).mono ?_
 rintro r w1 ⟨z, rfl, z0, z1, _, hc1, hg1⟩
 have z1 := z1 (by omega)
 have R1 := jb4 RA hg1 (by omega)
 have G1 := ja8 gA hg1
 clear hcA gA RA hg1
 have hwz : IntKind.i64.wrap (1 + z) = 1 + z := IntWalk.i64_in _ (by omega)
 go_wp2_with fail
 go_at_call 47
 refine (jf4 g bs m (by omega) _ hl hc1).mono ?_
 rintro r w2 ⟨pr, rfl, _, _, _, hc2, hg2⟩
 have R2 := jb4 R1 hg2 (by omega)
 have G2 := ja8 G1 hg2
 clear hc1 R1 G1 hg2
 go_wp2_with fail
 go_at_call 47
 refine (jf4 g bs 7 (by omega) _ hl hc2).mono ?_
 rintro r w3 ⟨a, rfl, _, _, _, hc3, hg3⟩
 have R3 := jb4 R2 hg3 (by omega)
 have G3 := ja8 G2 hg3
 clear hc2 R2 G2 hg3
 go_wp2_with fail
 go_at_call 52
 refine (qh6 g bs 5 m (by omega) (by omega) _ hl hc3).mono ?_
 rintro r w4 ⟨sk, sx, sy, rfl, hc4, hg4⟩
 have R4 := jb4 R3 hg4 (by omega)
 have G4 := ja8 G3 hg4
 clear hc3 R3 G3 hg4
 obtain ⟨k, hk⟩ : ∃ k : Int, 1 + z = k := ⟨_, rfl⟩
 have z4 : w.heap.size + 1 < w4.heap.size := (Array.getElem?_eq_some_iff.1 R4).1
 have D5 : DE w g bs w4.heap.size ⟨k, pr, a, ⟨sk, sx, sy⟩⟩ (w4.alloc (.cells #[.int .i64 k, .int .i64 pr, .int .i64 a, .int .i64 sk, .int .i64 sx, .int .i64 sy] 54)) := ⟨heap_alloc_new w4 _, (ja2 z4).trans R4, jg6 hc4 _, jf3 G4 _⟩
 obtain ⟨w5, hw5⟩ : ∃ w5, w4.alloc (.cells #[.int .i64 k, .int .i64 pr, .int .i64 a, .int .i64 sk, .int .i64 sx, .int .i64 sy] 54) = w5 := ⟨_, rfl⟩
 obtain ⟨E, hE⟩ : ∃ E, w4.heap.size = E := ⟨_, rfl⟩
 rw [hw5, hE] at D5
 rw [hE] at z4
 have HD5 : Hid (DE w g bs E ⟨k, pr, a, ⟨sk, sx, sy⟩⟩ w5) := D5
 have HK : Hid (1 ≤ k ∧ k ≤ 4) := ⟨by omega, by omega⟩
 clear D5 R4 G4 hc4
 by_cases h4 : k = 4
 · subst h4
   obtain ⟨⟨b0, b1, b2, b3, b4, b5⟩, -⟩ := jb9 HD5.out.box
   obtain ⟨⟨d0, d1, d2, d3, d4, d5⟩, fd⟩ := jb9 HD5.out.res
   have fd0 := fd 0
   have fd1 := fd 1
   have fd2 := fd 2
   have fd3 := fd 3
   have fd4 := fd 4
   have fd5 := fd 5
   clear fd
   go_wp2_with fail
   obtain ⟨Wf, hWf⟩ : ∃ z, ((((((w5.setCell ⟨w.heap.size + 1, 0, none⟩ (.int .i64 (4))).setCell ⟨w.heap.size + 1, 1, none⟩ (.int .i64 (0))).setCell ⟨w.heap.size + 1, 2, none⟩ (.int .i64 (0))).setCell ⟨w.heap.size + 1, 3, none⟩ (.int .i64 (0))).setCell ⟨w.heap.size + 1, 4, none⟩ (.int .i64 (0))).setCell ⟨w.heap.size + 1, 5, none⟩ (.int .i64 (0))) = z := ⟨_, rfl⟩
   obtain ⟨q1, q2, q3⟩ := HD5.out.ends hgw ⟨4, 0, 0, ⟨0, 0, 0⟩⟩ Wf hWf
   rw [hWf]
   obtain ⟨⟨x0, x1, x2, x3, x4, x5⟩, -⟩ := jb9 q1
   refine bodyPost_ret (v := .agg #[.int .i64 (4), .int .i64 (0), .int .i64 (0), .int .i64 (0), .int .i64 (0), .int .i64 (0)]) (by simp [results, Tryz.results23, go_sem, x0, x1, x2, x3, x4, x5]) rfl ?_
   exact ⟨⟨4, 0, 0, ⟨0, 0, 0⟩⟩, rfl, q2, q3⟩
 have h4b : (k == 4) = false := by simpa using h4
 by_cases h3 : k = 3
 · subst h3
   have D6a := (HD5.out.set hgw z4 0).2.2.2.1
   have D6b := (D6a.set hgw z4 0).2.2.2.2.1
   have D6c := (D6b.set hgw z4 0).2.2.2.2.2
   simp only at D6c
   obtain ⟨w6, hw6⟩ : ∃ w6, ((w5.setCell ⟨E, 3, none⟩ (.int .i64 0)).setCell ⟨E, 4, none⟩ (.int .i64 0)).setCell ⟨E, 5, none⟩ (.int .i64 0) = w6 := ⟨_, rfl⟩
   rw [hw6] at D6c
   have HD6 : Hid (DE w g bs E ⟨3, pr, a, ⟨0, 0, 0⟩⟩ w6) := D6c
   obtain ⟨⟨u0, u1, u2, u3, u4, u5⟩, fu⟩ := jb9 HD5.out.box
   have fu3 := fu 3
   have fu4 := fu 4
   have fu5 := fu 5
   clear D6a D6b D6c fu
   obtain ⟨⟨b0, b1, b2, b3, b4, b5⟩, fb⟩ := jb9 HD6.out.box
   clear fb
   go_wp2_with fail
   go_at_call 21
   refine (l1Once g bs 14 (by omega) _ hl HD6.out.cur).mono ?_
   rintro r w7 ⟨b, rfl, hc7, hg7⟩
   have D7 : Hid (DE w g bs E ⟨3, pr, a, ⟨0, 0, 0⟩⟩ w7) := HD6.out.draw hgw z4 hc7 hg7
   clear hc7 hg7 b0 b1 b2 b3 b4 b5
   cases b
   · skip
     obtain ⟨⟨b0, b1, b2, b3, b4, b5⟩, -⟩ := jb9 D7.out.box
     obtain ⟨⟨d0, d1, d2, d3, d4, d5⟩, fd⟩ := jb9 D7.out.res
     have fd0 := fd 0
     have fd1 := fd 1
     have fd2 := fd 2
     have fd3 := fd 3
     have fd4 := fd 4
     have fd5 := fd 5
     clear fd
     go_wp2_with fail
     obtain ⟨Wf, hWf⟩ : ∃ z, ((((((w7.setCell ⟨w.heap.size + 1, 0, none⟩ (.int .i64 (3))).setCell ⟨w.heap.size + 1, 1, none⟩ (.int .i64 (pr))).setCell ⟨w.heap.size + 1, 2, none⟩ (.int .i64 (a))).setCell ⟨w.heap.size + 1, 3, none⟩ (.int .i64 (0))).setCell ⟨w.heap.size + 1, 4, none⟩ (.int .i64 (0))).setCell ⟨w.heap.size + 1, 5, none⟩ (.int .i64 (0))) = z := ⟨_, rfl⟩
     obtain ⟨q1, q2, q3⟩ := D7.out.ends hgw ⟨3, pr, a, ⟨0, 0, 0⟩⟩ Wf hWf
     rw [hWf]
     obtain ⟨⟨x0, x1, x2, x3, x4, x5⟩, -⟩ := jb9 q1
     refine bodyPost_ret (v := .agg #[.int .i64 (3), .int .i64 (pr), .int .i64 (a), .int .i64 (0), .int .i64 (0), .int .i64 (0)]) (by simp [results, Tryz.results23, go_sem, x0, x1, x2, x3, x4, x5]) rfl ?_
     exact ⟨⟨3, pr, a, ⟨0, 0, 0⟩⟩, rfl, q2, q3⟩
   · skip
     go_wp2_with fail
     go_at_call 47
     refine (jf4 g bs 4 (by omega) _ hl D7.out.cur).mono ?_
     rintro r w8 ⟨q, rfl, q0, q1, _, hc8, hg8⟩
     have q1 := q1 (by omega)
     have D8 : Hid (DE w g bs E ⟨3, pr, a, ⟨0, 0, 0⟩⟩ w8) := D7.out.draw hgw z4 hc8 hg8
     clear hc8 hg8
     rcases (by omega : q = 0 ∨ q = 1 ∨ q = 2 ∨ q = 3) with rfl | rfl | rfl | rfl
     · skip
       go_wp2_with fail
       go_at_call 48
       refine (js9 g bs 0 6 (by omega) (by omega) (by omega) _ hl D8.out.cur).mono ?_
       rintro r w9 ⟨x9, rfl, _, _, hc9, hg9⟩
       have D9 : Hid (DE w g bs E ⟨3, pr, a, ⟨0, 0, 0⟩⟩ w9) := D8.out.draw hgw z4 hc9 hg9
       have D10 : DE w g bs E ⟨x9, pr, a, ⟨0, 0, 0⟩⟩ (w9.setCell ⟨E, 0, none⟩ (.int .i64 x9)) := (D9.out.set hgw z4 x9).1
       obtain ⟨w10, hw10⟩ : ∃ w10, w9.setCell ⟨E, 0, none⟩ (.int .i64 x9) = w10 := ⟨_, rfl⟩
       rw [hw10] at D10
       have HD10 : Hid (DE w g bs E ⟨x9, pr, a, ⟨0, 0, 0⟩⟩ w10) := D10
       obtain ⟨⟨r0, r1, r2, r3, r4, r5⟩, fr⟩ := jb9 D9.out.box
       have frx := fr 0
       clear D10 hc9 hg9 fr
       obtain ⟨⟨b0, b1, b2, b3, b4, b5⟩, -⟩ := jb9 HD10.out.box
       obtain ⟨⟨d0, d1, d2, d3, d4, d5⟩, fd⟩ := jb9 HD10.out.res
       have fd0 := fd 0
       have fd1 := fd 1
       have fd2 := fd 2
       have fd3 := fd 3
       have fd4 := fd 4
       have fd5 := fd 5
       clear fd
       go_wp2_with fail
       obtain ⟨Wf, hWf⟩ : ∃ z, ((((((w10.setCell ⟨w.heap.size + 1, 0, none⟩ (.int .i64 (x9))).setCell ⟨w.heap.size + 1, 1, none⟩ (.int .i64 (pr))).setCell ⟨w.heap.size + 1, 2, none⟩ (.int .i64 (a))).setCell ⟨w.heap.size + 1, 3, none⟩ (.int .i64 (0))).setCell ⟨w.heap.size + 1, 4, none⟩ (.int .i64 (0))).setCell ⟨w.heap.size + 1, 5, none⟩ (.int .i64 (0))) = z := ⟨_, rfl⟩
       obtain ⟨q1, q2, q3⟩ := HD10.out.ends hgw ⟨x9, pr, a, ⟨0, 0, 0⟩⟩ Wf hWf
       rw [hWf]
       obtain ⟨⟨x0, x1, x2, x3, x4, x5⟩, -⟩ := jb9 q1
       refine bodyPost_ret (v := .agg #[.int .i64 (x9), .int .i64 (pr), .int .i64 (a), .int .i64 (0), .int .i64 (0), .int .i64 (0)]) (by simp [results, Tryz.results23, go_sem, x0, x1, x2, x3, x4, x5]) rfl ?_
       exact ⟨⟨x9, pr, a, ⟨0, 0, 0⟩⟩, rfl, q2, q3⟩
     · skip
       go_wp2_with fail
       go_at_call 48
       refine (js9 g bs (-1) 6 (by omega) (by omega) (by omega) _ hl D8.out.cur).mono ?_
       rintro r w9 ⟨x9, rfl, _, _, hc9, hg9⟩
       have D9 : Hid (DE w g bs E ⟨3, pr, a, ⟨0, 0, 0⟩⟩ w9) := D8.out.draw hgw z4 hc9 hg9
       have D10 : DE w g bs E ⟨3, x9, a, ⟨0, 0, 0⟩⟩ (w9.setCell ⟨E, 1, none⟩ (.int .i64 x9)) := (D9.out.set hgw z4 x9).2.1
       obtain ⟨w10, hw10⟩ : ∃ w10, w9.setCell ⟨E, 1, none⟩ (.int .i64 x9) = w10 := ⟨_, rfl⟩
       rw [hw10] at D10
       have HD10 : Hid (DE w g bs E ⟨3, x9, a, ⟨0, 0, 0⟩⟩ w10) := D10
       obtain ⟨⟨r0, r1, r2, r3, r4, r5⟩, fr⟩ := jb9 D9.out.box
       have frx := fr 1
       clear D10 hc9 hg9 fr
       obtain ⟨⟨b0, b1, b2, b3, b4, b5⟩, -⟩ := jb9 HD10.out.box
       obtain ⟨⟨d0, d1, d2, d3, d4, d5⟩, fd⟩ := jb9 HD10.out.res
       have fd0 := fd 0
       have fd1 := fd 1
       have fd2 := fd 2
       have fd3 := fd 3
       have fd4 := fd 4
       have fd5 := fd 5
       clear fd
       go_wp2_with fail
       obtain ⟨Wf, hWf⟩ : ∃ z, ((((((w10.setCell ⟨w.heap.size + 1, 0, none⟩ (.int .i64 (3))).setCell ⟨w.heap.size + 1, 1, none⟩ (.int .i64 (x9))).setCell ⟨w.heap.size + 1, 2, none⟩ (.int .i64 (a))).setCell ⟨w.heap.size + 1, 3, none⟩ (.int .i64 (0))).setCell ⟨w.heap.size + 1, 4, none⟩ (.int .i64 (0))).setCell ⟨w.heap.size + 1, 5, none⟩ (.int .i64 (0))) = z := ⟨_, rfl⟩
       obtain ⟨q1, q2, q3⟩ := HD10.out.ends hgw ⟨3, x9, a, ⟨0, 0, 0⟩⟩ Wf hWf
       rw [hWf]
       obtain ⟨⟨x0, x1, x2, x3, x4, x5⟩, -⟩ := jb9 q1
       refine bodyPost_ret (v := .agg #[.int .i64 (3), .int .i64 (x9), .int .i64 (a), .int .i64 (0), .int .i64 (0), .int .i64 (0)]) (by simp [results, Tryz.results23, go_sem, x0, x1, x2, x3, x4, x5]) rfl ?_
       exact ⟨⟨3, x9, a, ⟨0, 0, 0⟩⟩, rfl, q2, q3⟩
     · skip
       have D8b : Hid (DE w g bs E ⟨3, pr, a, ⟨0, 0, 0⟩⟩ (w8.alloc (.cells #[.int .i64 (-1), .int .i64 12, .int .i64 4611686018427387904] 2))) := ⟨(ja2 (Array.getElem?_eq_some_iff.1 D8.out.box).1).trans D8.out.box, (ja2 (Array.getElem?_eq_some_iff.1 D8.out.res).1).trans D8.out.res, jg6 D8.out.cur _, jf3 D8.out.gr _⟩
       have S8 := heap_alloc_new w8 (.cells #[.int .i64 (-1), .int .i64 12, .int .i64 4611686018427387904] 2)
       have gE8 : g < w8.heap.size := jv8 D8.out.cur
       go_wp2_with fail
       go_at_call 47
       refine (jf4 g bs 3 (by omega) _ hl D8b.out.cur).mono ?_
       rintro r w9 ⟨ix, rfl, i0, i1, _, hc9, hg9⟩
       have i1 := i1 (by omega)
       have S9 := jb4 S8 hg9 gE8
       have D9 : Hid (DE w g bs E ⟨3, pr, a, ⟨0, 0, 0⟩⟩ w9) := D8b.out.draw hgw z4 hc9 hg9
       obtain ⟨x9, i9, hix, hx9⟩ : ∃ (x9 : Int) (i9 : Nat), ix = i9 ∧ w9.cell? ⟨w8.heap.size, i9, none⟩ = some (.int .i64 x9) := by
        rcases (by omega : ix = 0 ∨ ix = 1 ∨ ix = 2) with rfl | rfl | rfl
        · exact ⟨-1, 0, rfl, by simp [World.cell?, S9]⟩
        · exact ⟨12, 1, rfl, by simp [World.cell?, S9]⟩
        · exact ⟨4611686018427387904, 2, rfl, by simp [World.cell?, S9]⟩
       subst hix
       have hi3 : (i9 : Int) < 3 := i1
       have hi0 : 0 ≤ (i9 : Int) := i0
       clear S8 S9
       have D10 : DE w g bs E ⟨3, pr, x9, ⟨0, 0, 0⟩⟩ (w9.setCell ⟨E, 2, none⟩ (.int .i64 x9)) := (D9.out.set hgw z4 x9).2.2.1
       obtain ⟨w10, hw10⟩ : ∃ w10, w9.setCell ⟨E, 2, none⟩ (.int .i64 x9) = w10 := ⟨_, rfl⟩
       rw [hw10] at D10
       have HD10 : Hid (DE w g bs E ⟨3, pr, x9, ⟨0, 0, 0⟩⟩ w10) := D10
       obtain ⟨⟨r0, r1, r2, r3, r4, r5⟩, fr⟩ := jb9 D9.out.box
       have frx := fr 2
       clear D10 hc9 hg9 fr
       obtain ⟨⟨b0, b1, b2, b3, b4, b5⟩, -⟩ := jb9 HD10.out.box
       obtain ⟨⟨d0, d1, d2, d3, d4, d5⟩, fd⟩ := jb9 HD10.out.res
       have fd0 := fd 0
       have fd1 := fd 1
       have fd2 := fd 2
       have fd3 := fd 3
       have fd4 := fd 4
       have fd5 := fd 5
       clear fd
       go_wp2_with fail
       obtain ⟨Wf, hWf⟩ : ∃ z, ((((((w10.setCell ⟨w.heap.size + 1, 0, none⟩ (.int .i64 (3))).setCell ⟨w.heap.size + 1, 1, none⟩ (.int .i64 (pr))).setCell ⟨w.heap.size + 1, 2, none⟩ (.int .i64 (x9))).setCell ⟨w.heap.size + 1, 3, none⟩ (.int .i64 (0))).setCell ⟨w.heap.size + 1, 4, none⟩ (.int .i64 (0))).setCell ⟨w.heap.size + 1, 5, none⟩ (.int .i64 (0))) = z := ⟨_, rfl⟩
       obtain ⟨q1, q2, q3⟩ := HD10.out.ends hgw ⟨3, pr, x9, ⟨0, 0, 0⟩⟩ Wf hWf
       rw [hWf]
       obtain ⟨⟨x0, x1, x2, x3, x4, x5⟩, -⟩ := jb9 q1
       refine bodyPost_ret (v := .agg #[.int .i64 (3), .int .i64 (pr), .int .i64 (x9), .int .i64 (0), .int .i64 (0), .int .i64 (0)]) (by simp [results, Tryz.results23, go_sem, x0, x1, x2, x3, x4, x5]) rfl ?_
       exact ⟨⟨3, pr, x9, ⟨0, 0, 0⟩⟩, rfl, q2, q3⟩
     · skip
       go_wp2_with fail
       go_at_call 48
       refine (js9 g bs (-1) 8 (by omega) (by omega) (by omega) _ hl D8.out.cur).mono ?_
       rintro r w9 ⟨x9, rfl, _, _, hc9, hg9⟩
       have D9 : Hid (DE w g bs E ⟨3, pr, a, ⟨0, 0, 0⟩⟩ w9) := D8.out.draw hgw z4 hc9 hg9
       have D10 : DE w g bs E ⟨3, pr, a, ⟨0, x9, 0⟩⟩ (w9.setCell ⟨E, 4, none⟩ (.int .i64 x9)) := (D9.out.set hgw z4 x9).2.2.2.2.1
       obtain ⟨w10, hw10⟩ : ∃ w10, w9.setCell ⟨E, 4, none⟩ (.int .i64 x9) = w10 := ⟨_, rfl⟩
       rw [hw10] at D10
       have HD10 : Hid (DE w g bs E ⟨3, pr, a, ⟨0, x9, 0⟩⟩ w10) := D10
       obtain ⟨⟨r0, r1, r2, r3, r4, r5⟩, fr⟩ := jb9 D9.out.box
       have frx := fr 4
       clear D10 hc9 hg9 fr
       obtain ⟨⟨b0, b1, b2, b3, b4, b5⟩, -⟩ := jb9 HD10.out.box
       obtain ⟨⟨d0, d1, d2, d3, d4, d5⟩, fd⟩ := jb9 HD10.out.res
       have fd0 := fd 0
       have fd1 := fd 1
       have fd2 := fd 2
       have fd3 := fd 3
       have fd4 := fd 4
       have fd5 := fd 5
       clear fd
       go_wp2_with fail
       obtain ⟨Wf, hWf⟩ : ∃ z, ((((((w10.setCell ⟨w.heap.size + 1, 0, none⟩ (.int .i64 (3))).setCell ⟨w.heap.size + 1, 1, none⟩ (.int .i64 (pr))).setCell ⟨w.heap.size + 1, 2, none⟩ (.int .i64 (a))).setCell ⟨w.heap.size + 1, 3, none⟩ (.int .i64 (0))).setCell ⟨w.heap.size + 1, 4, none⟩ (.int .i64 (x9))).setCell ⟨w.heap.size + 1, 5, none⟩ (.int .i64 (0))) = z := ⟨_, rfl⟩
       obtain ⟨q1, q2, q3⟩ := HD10.out.ends hgw ⟨3, pr, a, ⟨0, x9, 0⟩⟩ Wf hWf
       rw [hWf]
       obtain ⟨⟨x0, x1, x2, x3, x4, x5⟩, -⟩ := jb9 q1
       refine bodyPost_ret (v := .agg #[.int .i64 (3), .int .i64 (pr), .int .i64 (a), .int .i64 (0), .int .i64 (x9), .int .i64 (0)]) (by simp [results, Tryz.results23, go_sem, x0, x1, x2, x3, x4, x5]) rfl ?_
       exact ⟨⟨3, pr, a, ⟨0, x9, 0⟩⟩, rfl, q2, q3⟩
 have h3b : (k == 3) = false := by simpa using h3
 obtain ⟨⟨b0, b1, b2, b3, b4, b5⟩, fb⟩ := jb9 HD5.out.box
 clear fb
 go_wp2_with fail
 go_at_call 21
 refine (l1Once g bs 14 (by omega) _ hl HD5.out.cur).mono ?_
 rintro r w7 ⟨b, rfl, hc7, hg7⟩
 have D7 : Hid (DE w g bs E ⟨k, pr, a, ⟨sk, sx, sy⟩⟩ w7) := HD5.out.draw hgw z4 hc7 hg7
 clear hc7 hg7 b0 b1 b2 b3 b4 b5
 cases b
 · skip
   obtain ⟨⟨b0, b1, b2, b3, b4, b5⟩, -⟩ := jb9 D7.out.box
   obtain ⟨⟨d0, d1, d2, d3, d4, d5⟩, fd⟩ := jb9 D7.out.res
   have fd0 := fd 0
   have fd1 := fd 1
   have fd2 := fd 2
   have fd3 := fd 3
   have fd4 := fd 4
   have fd5 := fd 5
   clear fd
   go_wp2_with fail
   obtain ⟨Wf, hWf⟩ : ∃ z, ((((((w7.setCell ⟨w.heap.size + 1, 0, none⟩ (.int .i64 (k))).setCell ⟨w.heap.size + 1, 1, none⟩ (.int .i64 (pr))).setCell ⟨w.heap.size + 1, 2, none⟩ (.int .i64 (a))).setCell ⟨w.heap.size + 1, 3, none⟩ (.int .i64 (sk))).setCell ⟨w.heap.size + 1, 4, none⟩ (.int .i64 (sx))).setCell ⟨w.heap.size + 1, 5, none⟩ (.int .i64 (sy))) = z := ⟨_, rfl⟩
   obtain ⟨q1, q2, q3⟩ := D7.out.ends hgw ⟨k, pr, a, ⟨sk, sx, sy⟩⟩ Wf hWf
   rw [hWf]
   obtain ⟨⟨x0, x1, x2, x3, x4, x5⟩, -⟩ := jb9 q1
   refine bodyPost_ret (v := .agg #[.int .i64 (k), .int .i64 (pr), .int .i64 (a), .int .i64 (sk), .int .i64 (sx), .int .i64 (sy)]) (by simp [results, Tryz.results23, go_sem, x0, x1, x2, x3, x4, x5]) rfl ?_
   exact ⟨⟨k, pr, a, ⟨sk, sx, sy⟩⟩, rfl, q2, q3⟩
 · skip
   go_wp2_with fail
   go_at_call 47
   refine (jf4 g bs 4 (by omega) _ hl D7.out.cur).mono ?_
   rintro r w8 ⟨q, rfl, q0, q1, _, hc8, hg8⟩
   have q1 := q1 (by omega)
   have D8 : Hid (DE w g bs E ⟨k, pr, a, ⟨sk, sx, sy⟩⟩ w8) := D7.out.draw hgw z4 hc8 hg8
   clear hc8 hg8
   rcases (by omega : q = 0 ∨ q = 1 ∨ q = 2 ∨ q = 3) with rfl | rfl | rfl | rfl
   · skip
     go_wp2_with fail
     go_at_call 48
     refine (js9 g bs 0 6 (by omega) (by omega) (by omega) _ hl D8.out.cur).mono ?_
     rintro r w9 ⟨x9, rfl, _, _, hc9, hg9⟩
     have D9 : Hid (DE w g bs E ⟨k, pr, a, ⟨sk, sx, sy⟩⟩ w9) := D8.out.draw hgw z4 hc9 hg9
     have D10 : DE w g bs E ⟨x9, pr, a, ⟨sk, sx, sy⟩⟩ (w9.setCell ⟨E, 0, none⟩ (.int .i64 x9)) := (D9.out.set hgw z4 x9).1
     obtain ⟨w10, hw10⟩ : ∃ w10, w9.setCell ⟨E, 0, none⟩ (.int .i64 x9) = w10 := ⟨_, rfl⟩
     rw [hw10] at D10
     have HD10 : Hid (DE w g bs E ⟨x9, pr, a, ⟨sk, sx, sy⟩⟩ w10) := D10
     obtain ⟨⟨r0, r1, r2, r3, r4, r5⟩, fr⟩ := jb9 D9.out.box
     have frx := fr 0
     clear D10 hc9 hg9 fr
     obtain ⟨⟨b0, b1, b2, b3, b4, b5⟩, -⟩ := jb9 HD10.out.box
     obtain ⟨⟨d0, d1, d2, d3, d4, d5⟩, fd⟩ := jb9 HD10.out.res
     have fd0 := fd 0
     have fd1 := fd 1
     have fd2 := fd 2
     have fd3 := fd 3
     have fd4 := fd 4
     have fd5 := fd 5
     clear fd
     go_wp2_with fail
     obtain ⟨Wf, hWf⟩ : ∃ z, ((((((w10.setCell ⟨w.heap.size + 1, 0, none⟩ (.int .i64 (x9))).setCell ⟨w.heap.size + 1, 1, none⟩ (.int .i64 (pr))).setCell ⟨w.heap.size + 1, 2, none⟩ (.int .i64 (a))).setCell ⟨w.heap.size + 1, 3, none⟩ (.int .i64 (sk))).setCell ⟨w.heap.size + 1, 4, none⟩ (.int .i64 (sx))).setCell ⟨w.heap.size + 1, 5, none⟩ (.int .i64 (sy))) = z := ⟨_, rfl⟩
     obtain ⟨q1, q2, q3⟩ := HD10.out.ends hgw ⟨x9, pr, a, ⟨sk, sx, sy⟩⟩ Wf hWf
     rw [hWf]
     obtain ⟨⟨x0, x1, x2, x3, x4, x5⟩, -⟩ := jb9 q1
     refine bodyPost_ret (v := .agg #[.int .i64 (x9), .int .i64 (pr), .int .i64 (a), .int .i64 (sk), .int .i64 (sx), .int .i64 (sy)]) (by simp [results, Tryz.results23, go_sem, x0, x1, x2, x3, x4, x5]) rfl ?_
     exact ⟨⟨x9, pr, a, ⟨sk, sx, sy⟩⟩, rfl, q2, q3⟩
   · skip
     go_wp2_with fail
     go_at_call 48
     refine (js9 g bs (-1) 6 (by omega) (by omega) (by omega) _ hl D8.out.cur).mono ?_
     rintro r w9 ⟨x9, rfl, _, _, hc9, hg9⟩
     have D9 : Hid (DE w g bs E ⟨k, pr, a, ⟨sk, sx, sy⟩⟩ w9) := D8.out.draw hgw z4 hc9 hg9
     have D10 : DE w g bs E ⟨k, x9, a, ⟨sk, sx, sy⟩⟩ (w9.setCell ⟨E, 1, none⟩ (.int .i64 x9)) := (D9.out.set hgw z4 x9).2.1
     obtain ⟨w10, hw10⟩ : ∃ w10, w9.setCell ⟨E, 1, none⟩ (.int .i64 x9) = w10 := ⟨_, rfl⟩
     rw [hw10] at D10
     have HD10 : Hid (DE w g bs E ⟨k, x9, a, ⟨sk, sx, sy⟩⟩ w10) := D10
     obtain ⟨⟨r0, r1, r2, r3, r4, r5⟩, fr⟩ := jb9 D9.out.box
     have frx := fr 1
     clear D10 hc9 hg9 fr
     obtain ⟨⟨b0, b1, b2, b3, b4, b5⟩, -⟩ := jb9 HD10.out.box
     obtain ⟨⟨d0, d1, d2, d3, d4, d5⟩, fd⟩ := jb9 HD10.out.res
     have fd0 := fd 0
     have fd1 := fd 1
     have fd2 := fd 2
     have fd3 := fd 3
     have fd4 := fd 4
     have fd5 := fd 5
     clear fd
     go_wp2_with fail
     obtain ⟨Wf, hWf⟩ : ∃ z, ((((((w10.setCell ⟨w.heap.size + 1, 0, none⟩ (.int .i64 (k))).setCell ⟨w.heap.size + 1, 1, none⟩ (.int .i64 (x9))).setCell ⟨w.heap.size + 1, 2, none⟩ (.int .i64 (a))).setCell ⟨w.heap.size + 1, 3, none⟩ (.int .i64 (sk))).setCell ⟨w.heap.size + 1, 4, none⟩ (.int .i64 (sx))).setCell ⟨w.heap.size + 1, 5, none⟩ (.int .i64 (sy))) = z := ⟨_, rfl⟩
     obtain ⟨q1, q2, q3⟩ := HD10.out.ends hgw ⟨k, x9, a, ⟨sk, sx, sy⟩⟩ Wf hWf
     rw [hWf]
     obtain ⟨⟨x0, x1, x2, x3, x4, x5⟩, -⟩ := jb9 q1
     refine bodyPost_ret (v := .agg #[.int .i64 (k), .int .i64 (x9), .int .i64 (a), .int .i64 (sk), .int .i64 (sx), .int .i64 (sy)]) (by simp [results, Tryz.results23, go_sem, x0, x1, x2, x3, x4, x5]) rfl ?_
     exact ⟨⟨k, x9, a, ⟨sk, sx, sy⟩⟩, rfl, q2, q3⟩
   · skip
     have D8b : Hid (DE w g bs E ⟨k, pr, a, ⟨sk, sx, sy⟩⟩ (w8.alloc (.cells #[.int .i64 (-1), .int .i64 12, .int .i64 4611686018427387904] 2))) := ⟨(ja2 (Array.getElem?_eq_some_iff.1 D8.out.box).1).trans D8.out.box, (ja2 (Array.getElem?_eq_some_iff.1 D8.out.res).1).trans D8.out.res, jg6 D8.out.cur _, jf3 D8.out.gr _⟩
     have S8 := heap_alloc_new w8 (.cells #[.int .i64 (-1), .int .i64 12, .int .i64 4611686018427387904] 2)
     have gE8 : g < w8.heap.size := jv8 D8.out.cur
     go_wp2_with fail
     go_at_call 47
     refine (jf4 g bs 3 (by omega) _ hl D8b.out.cur).mono ?_
     rintro r w9 ⟨ix, rfl, i0, i1, _, hc9, hg9⟩
     have i1 := i1 (by omega)
     have S9 := jb4 S8 hg9 gE8
     have D9 : Hid (DE w g bs E ⟨k, pr, a, ⟨sk, sx, sy⟩⟩ w9) := D8b.out.draw hgw z4 hc9 hg9
     obtain ⟨x9, i9, hix, hx9⟩ : ∃ (x9 : Int) (i9 : Nat), ix = i9 ∧ w9.cell? ⟨w8.heap.size, i9, none⟩ = some (.int .i64 x9) := by
      rcases (by omega : ix = 0 ∨ ix = 1 ∨ ix = 2) with rfl | rfl | rfl
      · exact ⟨-1, 0, rfl, by simp [World.cell?, S9]⟩
      · exact ⟨12, 1, rfl, by simp [World.cell?, S9]⟩
      · exact ⟨4611686018427387904, 2, rfl, by simp [World.cell?, S9]⟩
     subst hix
     have hi3 : (i9 : Int) < 3 := i1
     have hi0 : 0 ≤ (i9 : Int) := i0
     clear S8 S9
     have D10 : DE w g bs E ⟨k, pr, x9, ⟨sk, sx, sy⟩⟩ (w9.setCell ⟨E, 2, none⟩ (.int .i64 x9)) := (D9.out.set hgw z4 x9).2.2.1
     obtain ⟨w10, hw10⟩ : ∃ w10, w9.setCell ⟨E, 2, none⟩ (.int .i64 x9) = w10 := ⟨_, rfl⟩
     rw [hw10] at D10
     have HD10 : Hid (DE w g bs E ⟨k, pr, x9, ⟨sk, sx, sy⟩⟩ w10) := D10
     obtain ⟨⟨r0, r1, r2, r3, r4, r5⟩, fr⟩ := jb9 D9.out.box
     have frx := fr 2
     clear D10 hc9 hg9 fr
     obtain ⟨⟨b0, b1, b2, b3, b4, b5⟩, -⟩ := jb9 HD10.out.box
     obtain ⟨⟨d0, d1, d2, d3, d4, d5⟩, fd⟩ := jb9 HD10.out.res
     have fd0 := fd 0
     have fd1 := fd 1
     have fd2 := fd 2
     have fd3 := fd 3
     have fd4 := fd 4
     have fd5 := fd 5
     clear fd
     go_wp2_with fail
     obtain ⟨Wf, hWf⟩ : ∃ z, ((((((w10.setCell ⟨w.heap.size + 1, 0, none⟩ (.int .i64 (k))).setCell ⟨w.heap.size + 1, 1, none⟩ (.int .i64 (pr))).setCell ⟨w.heap.size + 1, 2, none⟩ (.int .i64 (x9))).setCell ⟨w.heap.size + 1, 3, none⟩ (.int .i64 (sk))).setCell ⟨w.heap.size + 1, 4, none⟩ (.int .i64 (sx))).setCell ⟨w.heap.size + 1, 5, none⟩ (.int .i64 (sy))) = z := ⟨_, rfl⟩
     obtain ⟨q1, q2, q3⟩ := HD10.out.ends hgw ⟨k, pr, x9, ⟨sk, sx, sy⟩⟩ Wf hWf
     rw [hWf]
     obtain ⟨⟨x0, x1, x2, x3, x4, x5⟩, -⟩ := jb9 q1
     refine bodyPost_ret (v := .agg #[.int .i64 (k), .int .i64 (pr), .int .i64 (x9), .int .i64 (sk), .int .i64 (sx), .int .i64 (sy)]) (by simp [results, Tryz.results23, go_sem, x0, x1, x2, x3, x4, x5]) rfl ?_
     exact ⟨⟨k, pr, x9, ⟨sk, sx, sy⟩⟩, rfl, q2, q3⟩
   · skip
     go_wp2_with fail
     go_at_call 48
     refine (js9 g bs (-1) 8 (by omega) (by omega) (by omega) _ hl D8.out.cur).mono ?_
     rintro r w9 ⟨x9, rfl, _, _, hc9, hg9⟩
     have D9 : Hid (DE w g bs E ⟨k, pr, a, ⟨sk, sx, sy⟩⟩ w9) := D8.out.draw hgw z4 hc9 hg9
     have D10 : DE w g bs E ⟨k, pr, a, ⟨sk, x9, sy⟩⟩ (w9.setCell ⟨E, 4, none⟩ (.int .i64 x9)) := (D9.out.set hgw z4 x9).2.2.2.2.1
     obtain ⟨w10, hw10⟩ : ∃ w10, w9.setCell ⟨E, 4, none⟩ (.int .i64 x9) = w10 := ⟨_, rfl⟩
     rw [hw10] at D10
     have HD10 : Hid (DE w g bs E ⟨k, pr, a, ⟨sk, x9, sy⟩⟩ w10) := D10
     obtain ⟨⟨r0, r1, r2, r3, r4, r5⟩, fr⟩ := jb9 D9.out.box
     have frx := fr 4
     clear D10 hc9 hg9 fr
     obtain ⟨⟨b0, b1, b2, b3, b4, b5⟩, -⟩ := jb9 HD10.out.box
     obtain ⟨⟨d0, d1, d2, d3, d4, d5⟩, fd⟩ := jb9 HD10.out.res
     have fd0 := fd 0
     have fd1 := fd 1
     have fd2 := fd 2
     have fd3 := fd 3
     have fd4 := fd 4
     have fd5 := fd 5
     clear fd
     go_wp2_with fail
     obtain ⟨Wf, hWf⟩ : ∃ z, ((((((w10.setCell ⟨w.heap.size + 1, 0, none⟩ (.int .i64 (k))).setCell ⟨w.heap.size + 1, 1, none⟩ (.int .i64 (pr))).setCell ⟨w.heap.size + 1, 2, none⟩ (.int .i64 (a))).setCell ⟨w.heap.size + 1, 3, none⟩ (.int .i64 (sk))).setCell ⟨w.heap.size + 1, 4, none⟩ (.int .i64 (x9))).setCell ⟨w.heap.size + 1, 5, none⟩ (.int .i64 (sy))) = z := ⟨_, rfl⟩
     obtain ⟨q1, q2, q3⟩ := HD10.out.ends hgw ⟨k, pr, a, ⟨sk, x9, sy⟩⟩ Wf hWf
     rw [hWf]
     obtain ⟨⟨x0, x1, x2, x3, x4, x5⟩, -⟩ := jb9 q1
     refine bodyPost_ret (v := .agg #[.int .i64 (k), .int .i64 (pr), .int .i64 (a), .int .i64 (sk), .int .i64 (x9), .int .i64 (sy)]) (by simp [results, Tryz.results23, go_sem, x0, x1, x2, x3, x4, x5]) rfl ?_
     exact ⟨⟨k, pr, a, ⟨sk, x9, sy⟩⟩, rfl, q2, q3⟩
end Go.Proofs.YtldagpfeaabcdaaGreatDoor
