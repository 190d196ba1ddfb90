/-
  spec.l2DrawBytes, spec.l1Min, spec.DrawFedAll: some bytes, cut into some chunks.
-/
import Derived.Test.YtnfgdaejfeiabaaDrawText
import Derived.Test.YtnfgdaejfeiabaaFrameFn
import Derived.Test.YtnfgdaejfeiabaaChunksB
namespace Go.Proofs.Ytnfgdaejfeiabaa
open Go.RowKit
set_option linter.unusedVariables false
set_option maxHeartbeats 4000000

theorem l2DrawBytes (g : Nat) (bs : List Int) (w : World) (hl : bs.length ≤ 1048576) (hc : Cur w g bs) :
    Calls Try.prog 19 #[.pointer (some ⟨g, 0, none⟩)] w fun e w' => ∃ s : ByteArray, e = .returned (.string s) ∧ s.size ≤ 322 ∧ Cur w' g bs ∧ w.grownBy w' (some g) := by
  go_enter Try.func19, Try.ntmps19
  go_wp2_with fail
  go_at_call 17
  refine (l1Below g bs 4 (by omega) _ hl hc).mono ?_
  rintro e w1 ⟨x, rfl, hx0, hx1, hx2, hc1, hg1⟩
  have hx1 := hx1 (by omega)
  clear hx2
  go_wp2_with fail
  go_loopw [3, 4] (fun q i wr => ∃ (s : ByteArray) (n : Int), q = .string s ∧ i = .int .i64 n ∧ 0 ≤ n ∧ (s.size : Int) + 106 * n ≤ 318 ∧ Cur wr g bs ∧ w.grownBy wr (some g)) (fun _ i _ => (intOf i).toNat)
  case atStart => exact ⟨⟨#[]⟩, x, rfl, rfl, hx0, by show (0 : Int) + 106 * x ≤ 318; omega, hc1, hg1⟩
  case round =>
    obtain ⟨s, n, rfl, rfl, hn0, hsn, hcr, hgr⟩ := hrel
    have hglt := cur_lt hcr
    by_cases hn : 0 < n
    · go_wp2_with fail
      go_at_call 18
      refine (l1DrawText g bs _ hl hcr).mono ?_
      rintro e w2 ⟨t, rfl, ht, hc2, hg2⟩
      have hfs := frameOf_size t
      have hsf := specFrame t
      generalize frameOf t = f at hfs hsf
      have ks : ¬ 9223372036854775807 < s.size + f.size := by omega
      have ks' : s.size + f.size ≤ 9223372036854775807 := by omega
      have HZ : Hid ((s ++ f).size = s.size + f.size) := ByteArray.size_append
      go_wp2_with fail
      go_at_call 12
      refine (hsf _).mono ?_
      rintro e w3 ⟨rfl, b3⟩
      go_wp2
      go_roundw
      case rel => exact ⟨_, n - 1, rfl, by go_num, by omega, by rw [HZ.out]; omega, cur_below hc2 b3, grown_trans hgr (grown_trans hg2 (grown_of_below b3 _))⟩
      case measure => simp [intOf]; omega
    · have hn' : n = 0 := by omega
      subst hn'
      go_wp2_with fail
      go_at_call 16
      refine (l1Once g bs 6 (by omega) _ hl hcr).mono ?_
      rintro e w2 ⟨b, rfl, hc2, hg2⟩
      have hgr2 := grown_trans hgr hg2
      have hglt2 := cur_lt hc2
      cases b with
      | false =>
        go_wp2
        go_ret
        exact ⟨s, rfl, by omega, hc2, hgr2⟩
      | true =>
        go_wp2_with fail
        go_at_call 17
        refine (l1Below g bs 5 (by omega) _ hl (cur_alloc hc2 _)).mono ?_
        rintro e w3 ⟨y, rfl, hy0, hy1, hy2, hc3, hg3⟩
        have hy1 := hy1 (by omega)
        clear hy2
        have hgr3 := grown_trans (grown_alloc hgr2 _) hg3
        have hrow := (hg3.block w2.heap.size (by simp) (by simp; omega)).trans (heap_alloc_new w2 _)
        have hcell : ∃ t : ByteArray, t.size ≤ 4 ∧ w3.cell? ⟨w2.heap.size, y.toNat, none⟩ = some (.string t) := by
          have hcase : y = 0 ∨ y = 1 ∨ y = 2 ∨ y = 3 ∨ y = 4 := by omega
          rcases hcase with rfl | rfl | rfl | rfl | rfl
          · exact ⟨⟨#[7, 209]⟩, by decide, by simp [World.cell?, hrow]⟩
          · exact ⟨⟨#[7, 208, 97, 98]⟩, by decide, by simp [World.cell?, hrow]⟩
          · exact ⟨⟨#[255]⟩, by decide, by simp [World.cell?, hrow]⟩
          · exact ⟨⟨#[0]⟩, by decide, by simp [World.cell?, hrow]⟩
          · exact ⟨⟨#[0, 3, 97]⟩, by decide, by simp [World.cell?, hrow]⟩
        obtain ⟨t, ht, hcell⟩ := hcell
        have HADD : Hid ((s ++ t).size = s.size + t.size) := ByteArray.size_append
        have ks : ¬ 9223372036854775807 < s.size + t.size := by omega
        have ks' : s.size + t.size ≤ 9223372036854775807 := by omega
        clear hrow
        go_wp2
        go_ret
        exact ⟨_, rfl, by rw [HADD.out]; omega, hc3, hgr3⟩

theorem slice_to (s : ByteArray) (k : Int) (h0 : 0 ≤ k) (h : k ≤ s.size) (w : World) :
    (Instr.slice 9 (.string s) none (some (.int .i64 k)) none).run Try.prog w = .ok (.string (s.extract 0 k.toNat)) w :=
  run_slice_string_h (P := Try.prog) w 9 s Try.underlying9 .i64 k h0 h

theorem slice_from (s : ByteArray) (k : Int) (h0 : 0 ≤ k) (h : k ≤ s.size) (w : World) :
    (Instr.slice 9 (.string s) (some (.int .i64 k)) none none).run Try.prog w = .ok (.string (s.extract k.toNat s.size)) w :=
  run_slice_string_l (P := Try.prog) w 9 s Try.underlying9 .i64 k h0 h


end Go.Proofs.Ytnfgdaejfeiabaa
