/-
 Chapter 11, the program's side: Entries.
-/
import Derived.Test.YtdkdhjhhbkcciaaGreatImplFind
import Derived.Test.YtdkdhjhhbkcciaaGreatG21PlOwn
namespace Go.Proofs.YtdkdhjhhbkcciaaGreat
open Go.RowKit
set_option linter.unusedVariables false
set_option linter.unusedSimpArgs false
set_option maxHeartbeats 4000000
set_option maxRecDepth 20000
theorem FB.entRange {w : World} {G : Nat} {v : Value} {gs : List (List Int)} {E : List Int} {A W : Nat} (h : FB w G v gs E A W) (hr : Rows7 48 gs) (hE : E.length = 4) : w.rangeAt G 337 (ints E) := fun j x hx => by
 have hj : j < 4 := by
  have := (List.getElem?_eq_some_iff.1 hx).1
  rw [ints_length, hE] at this; exact this
 rw [h.ent hr hE hj]
 rw [← hx]
 simp [ints, List.getD, hE, hj]
theorem Ent4.own {w : World} {B base n : Nat} {E A : List Int} (h : Ent4 w B E) (hl : E.length = 4) (hb : base ≤ B) (hn : n ≤ 4) (hA : A = E.take n) : w.ownsRow base 59 1 (.slice (some ⟨B, 0, none⟩) n 4) n (ints A) := by
 subst hA
 refine ⟨by simp [ints, hl]; omega, .inr ⟨B, 4, (ints E).toArray, rfl, hb, h, hn, by unfold maxLen; omega, by simp [ints, hl], ?_⟩⟩
 rw [List.toList_toArray, Nat.mul_one]
 simp [ints, List.map_take]
theorem implEntries (ps : List (List Stm)) (c : Int) (A : List Int) (hA : EntA ps c A) (v : Value) (w : World) (hl : ps.length ≤ maxLen) (hp : ∀ p ∈ ps, p.length ≤ maxLen) (hv : ReadsP w v ps) :
 Calls Tryz.prog 16 #[.agg #[v], .int .i64 c] w fun e w' => ∃ u, e = .returned u ∧ w'.ownsRow w.heap.size 59 1 u A.length (ints A) ∧ Below w.heap.size w w' := by
 have b0 : Below w.heap.size w (w.alloc (.cells #[v] 26)) := by go_grown
 have hP0 := heap_alloc_new w (.cells #[v] 26)
 have s0 : (w.alloc (.cells #[v] 26)).heap.size = w.heap.size + 1 := by simp
 have hcs := canSum ps c v (w.alloc (.cells #[v] 26)) hl hp (readsP_below hv b0)
 cases ho : okB ps c with
 | false =>
  rw [hA.2 ho]
  rw [ho] at hcs
  go_enter Tryz.func16, Tryz.ntmps16
  go_wp2_with (go_at_call 23; refine hcs.mono ?_; rintro e w1 ⟨rfl, b1⟩)
  go_ret
  exact ⟨_, rfl, World.ownsRow_nil _ _ _ _, b0.trans (b1.mono (by omega))⟩
 | true =>
  rw [ho] at hcs
  obtain ⟨I, hI⟩ := hA.1 ho
  obtain ⟨_, hc, hcp, h4⟩ := okB_parts ho
  have h1 := ok_one ho
  obtain ⟨ao, cap, rfl, _⟩ := id hv
  have hff := fun W (hW : Below w.heap.size w W) => findingsOf ps c _ W hc hcp h1 h4 (readsP_below hv hW)
  have h4' : (ps.length : Int) ≤ 4 := by omega
  go_enter Tryz.func16, Tryz.ntmps16
  go_wp2_with fail
  go_at_call 23
  refine hcs.mono ?_
  rintro e w1 ⟨rfl, b1⟩
  have L1 := b0.trans (b1.mono (by omega))
  have P1 := (b1.block w.heap.size (by omega)).trans hP0
  obtain ⟨c1, f1⟩ := one_cell P1
  have z1 : w.heap.size < w1.heap.size := (Array.getElem?_eq_some_iff.1 P1).1
  go_wp2_with fail
  go_at_call 24
  refine (hff w1 L1).mono ?_
  rintro e w2 ⟨gs, G, AA, WW, nA, nW, E, f, g, rfl, hgs, hin, hent, hE4, hF, hap, _, _⟩
  have hz4 := (zero_of_info (P := Tryz.prog) (t := 59) (v := .agg #[.int .i64 0, .int .i64 0, .int .i64 0, .int .i64 0]) (n := 4) (by kernel_rfl)).1
  have L2 := L1.trans (hF.bl.mono L1.size)
  have P2 := (hF.bl.block w.heap.size z1).trans P1
  obtain ⟨c2, f2⟩ := one_cell P2
  have hR2 := hF.fb.entRange hgs hE4
  have hX3 : Ent4 (w2.alloc (.cells #[.int .i64 0, .int .i64 0, .int .i64 0, .int .i64 0] 59)) w2.heap.size [0, 0, 0, 0] := heap_alloc_new w2 _
  have hEs : ∃ e0 e1 e2 e3, E = [e0, e1, e2, e3] := by
   match E, hE4 with
   | [a, b, c, d], _ => exact ⟨a, b, c, d, rfl⟩
  obtain ⟨e0, e1, e2, e3, rfl⟩ := hEs
  have q0 := hF.fb.ent hgs hE4 (i := 0) (by omega)
  have q1 := hF.fb.ent hgs hE4 (i := 1) (by omega)
  have q2 := hF.fb.ent hgs hE4 (i := 2) (by omega)
  have q3 := hF.fb.ent hgs hE4 (i := 3) (by omega)
  simp at q0 q1 q2 q3
  have HF : Hid _ := hF
  have z2 : w.heap.size < w2.heap.size := (Array.getElem?_eq_some_iff.1 P2).1
  have c3 : ∀ o, (w2.alloc o).cell? ⟨w.heap.size, 0, none⟩ = some (.slice ao ps.length cap) := fun o => (one_cell ((old_block z2).trans P2)).1
  clear hF hX3 hR2 hcs hff c1 f1
  go_wp2_with fail
  go_ret
  have hX4 : Ent4 (w2.alloc (.cells #[.int .i64 e0, .int .i64 e1, .int .i64 e2, .int .i64 e3] 59)) w2.heap.size [e0, e1, e2, e3] := heap_alloc_new w2 _
  refine ⟨_, rfl, ?_, L2.alloc L2.size _⟩
  rw [hI.len]
  refine hX4.own rfl L2.size h4 ?_
  refine List.ext_getElem (by simp [hI.len]; omega) (fun i h1' h2' => ?_)
  have hi : i < ps.length := by rw [hI.len] at h1'; exact h1'
  have e := hI.eq hcp hin hent hi
  have e' : A.getD i 0 = A[i] := by simp [List.getD, h1']
  rw [e'] at e
  rw [← e]
  have hi4 : i < 4 := by omega
  simp [List.getD, hi4]
end Go.Proofs.YtdkdhjhhbkcciaaGreat
