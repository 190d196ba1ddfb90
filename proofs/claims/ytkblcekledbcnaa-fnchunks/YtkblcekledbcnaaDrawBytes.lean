/-
  spec.l2DrawBytes, spec.l1Min, spec.DrawFedAll: some bytes, cut into some chunks.
-/
import Derived.Test.YtkblcekledbcnaaDrawText
import Derived.Test.YtkblcekledbcnaaFrameFn
import Derived.Test.YtkblcekledbcnaaChunks
namespace Go.Proofs.Ytkblcekledbcnaa
open Go.RowKit
set_option linter.unusedVariables false
set_option maxHeartbeats 4000000

theorem l1Min (a b : Int) (w : World) : Calls Try.prog 37 #[.int .i64 a, .int .i64 b] w fun e w' => e = .returned (.int .i64 (if a < b then a else b)) ∧ w' = w := by
  by_cases h : a < b
  · rw [if_pos h]
    go_enter Try.func37, Try.ntmps37
    go_wp2
    go_ret
    exact ⟨rfl, rfl⟩
  · rw [if_neg h]
    go_enter Try.func37, Try.ntmps37
    go_wp2
    go_ret
    exact ⟨rfl, rfl⟩

theorem l2DrawBytes (g : Nat) (bs : List Int) (w : World) (hl : bs.length ≤ 1048576) (hc : Cur w g bs) :
    Calls Try.prog 34 #[.pointer (some ⟨g, 0, none⟩)] w fun e w' => ∃ s : ByteArray, e = .returned (.string s) ∧ s.size ≤ 322 ∧ Cur w' g bs ∧ w.grownBy w' (some g) := by
  go_enter Try.func34, Try.ntmps34
  go_wp2_with fail
  go_at_call 32
  refine (l1Below g bs 4 (by omega) _ hl hc).mono ?_
  rintro e w1 ⟨x, rfl, hx0, hx1, hx2, hc1, hg1⟩
  have hx1 := hx1 (by omega)
  clear hx2
  go_wp2_with fail
  go_loopw [3, 4] (fun q i wr => ∃ (s : ByteArray) (n : Int), q = .string s ∧ i = .int .i64 n ∧ 0 ≤ n ∧ (s.size : Int) + 106 * n ≤ 318 ∧ Cur wr g bs ∧ w.grownBy wr (some g)) (fun _ i _ => (intOf i).toNat)
  case atStart => exact ⟨⟨#[]⟩, x, rfl, rfl, hx0, by show (0 : Int) + 106 * x ≤ 318; omega, hc1, hg1⟩
  case round =>
    obtain ⟨s, n, rfl, rfl, hn0, hsn, hcr, hgr⟩ := hrel
    have hglt := cur_lt hcr
    by_cases hn : 0 < n
    · go_wp2_with fail
      go_at_call 33
      refine (l1DrawText g bs _ hl hcr).mono ?_
      rintro e w2 ⟨t, rfl, ht, hc2, hg2⟩
      have hfs := frameOf_size t
      have hsf := specFrame t
      generalize frameOf t = f at hfs hsf
      have ks : ¬ 9223372036854775807 < s.size + f.size := by omega
      have ks' : s.size + f.size ≤ 9223372036854775807 := by omega
      have HZ : Hid ((s ++ f).size = s.size + f.size) := ByteArray.size_append
      go_wp2_with fail
      go_at_call 15
      refine (hsf _).mono ?_
      rintro e w3 ⟨rfl, b3⟩
      go_wp2
      go_roundw
      case rel => exact ⟨_, n - 1, rfl, by go_num, by omega, by rw [HZ.out]; omega, cur_below hc2 b3, grown_trans hgr (grown_trans hg2 (grown_of_below b3 _))⟩
      case measure => simp [intOf]; omega
    · have hn' : n = 0 := by omega
      subst hn'
      go_wp2_with fail
      go_at_call 31
      refine (l1Once g bs 6 (by omega) _ hl hcr).mono ?_
      rintro e w2 ⟨b, rfl, hc2, hg2⟩
      have hgr2 := grown_trans hgr hg2
      have hglt2 := cur_lt hc2
      cases b with
      | false =>
        go_wp2
        go_ret
        exact ⟨s, rfl, by omega, hc2, hgr2⟩
      | true =>
        go_wp2_with fail
        go_at_call 32
        refine (l1Below g bs 5 (by omega) _ hl (cur_alloc hc2 _)).mono ?_
        rintro e w3 ⟨y, rfl, hy0, hy1, hy2, hc3, hg3⟩
        have hy1 := hy1 (by omega)
        clear hy2
        have hgr3 := grown_trans (grown_alloc hgr2 _) hg3
        have hrow := (hg3.block w2.heap.size (by simp) (by simp; omega)).trans (heap_alloc_new w2 _)
        have hcell : ∃ t : ByteArray, t.size ≤ 4 ∧ w3.cell? ⟨w2.heap.size, y.toNat, none⟩ = some (.string t) := by
          have hcase : y = 0 ∨ y = 1 ∨ y = 2 ∨ y = 3 ∨ y = 4 := by omega
          rcases hcase with rfl | rfl | rfl | rfl | rfl
          · exact ⟨⟨#[7, 209]⟩, by decide, by simp [World.cell?, hrow]⟩
          · exact ⟨⟨#[7, 208, 97, 98]⟩, by decide, by simp [World.cell?, hrow]⟩
          · exact ⟨⟨#[255]⟩, by decide, by simp [World.cell?, hrow]⟩
          · exact ⟨⟨#[0]⟩, by decide, by simp [World.cell?, hrow]⟩
          · exact ⟨⟨#[0, 3, 97]⟩, by decide, by simp [World.cell?, hrow]⟩
        obtain ⟨t, ht, hcell⟩ := hcell
        have HADD : Hid ((s ++ t).size = s.size + t.size) := ByteArray.size_append
        have ks : ¬ 9223372036854775807 < s.size + t.size := by omega
        have ks' : s.size + t.size ≤ 9223372036854775807 := by omega
        clear hrow
        go_wp2
        go_ret
        exact ⟨_, rfl, by rw [HADD.out]; omega, hc3, hgr3⟩

theorem cat_snoc : ∀ (cs : List ByteArray) (c : ByteArray), (cat (cs ++ [c])).size = (cat cs).size + c.size
  | [], c => by
    show (c ++ ⟨#[]⟩).size = 0 + c.size
    rw [app_nil]; omega
  | x :: cs, c => by
    show (x ++ cat (cs ++ [c])).size = (x ++ cat cs).size + c.size
    rw [ByteArray.size_append, ByteArray.size_append, cat_snoc cs c]
    omega

theorem slice_to (s : ByteArray) (k : Int) (h0 : 0 ≤ k) (h : k ≤ s.size) (w : World) :
    (Instr.slice 9 (.string s) none (some (.int .i64 k)) none).run Try.prog w = .ok (.string (s.extract 0 k.toNat)) w :=
  run_slice_string_h (P := Try.prog) w 9 s Try.underlying9 .i64 k h0 h

theorem slice_from (s : ByteArray) (k : Int) (h0 : 0 ≤ k) (h : k ≤ s.size) (w : World) :
    (Instr.slice 9 (.string s) (some (.int .i64 k)) none none).run Try.prog w = .ok (.string (s.extract k.toNat s.size)) w :=
  run_slice_string_l (P := Try.prog) w 9 s Try.underlying9 .i64 k h0 h

theorem drawFedAll (bs : List Int) (v : Value) (w : World) (hl : bs.length ≤ 1048576) (hv : Reads w v (bs.map (Value.int .u8))) :
    Calls Try.prog 18 #[v] w fun e w' => ∃ (u : Value) (cs : List ByteArray), e = .returned u ∧ (cat cs).size ≤ 644 ∧ cs.length ≤ 644 ∧
      w'.ownsRow w.heap.size 9 1 u cs.length (cs.map .string) ∧ Below w.heap.size w w' := by
  obtain ⟨i0, hi, hz0, hz1, hz2⟩ := info_parts info_string
  go_enter Try.func18, Try.ntmps18
  go_wp2_with fail
  go_at_call 30
  refine (l1New bs _ w hl hv).mono ?_
  rintro e w1 ⟨g, rfl, hg0, hc1, b1⟩
  go_wp2_with fail
  go_at_call 34
  refine (l2DrawBytes g bs _ hl hc1).mono ?_
  rintro e w2 ⟨s1, rfl, hs1, hc2, g2⟩
  go_wp2_with fail
  go_at_call 34
  refine (l2DrawBytes g bs _ hl hc2).mono ?_
  rintro e w3 ⟨s2, rfl, hs2, hc3, g3⟩
  have ks : ¬ 9223372036854775807 < s1.size + s2.size := by omega
  have ks' : s1.size + s2.size ≤ 9223372036854775807 := by omega
  have hsz : (s1 ++ s2).size ≤ 644 := by rw [ByteArray.size_append]; omega
  obtain ⟨S, hS⟩ : ∃ S, s1 ++ s2 = S := ⟨_, rfl⟩
  rw [hS] at hsz
  have b3 : Below w.heap.size w w3 := (b1.grown g2 b1.size (fun k hk => by cases hk; exact hg0)).trans ((Below.refl _ _).grown g3 (Nat.le_trans b1.size g2.size) (fun k hk => by cases hk; exact hg0))
  have hg3 := cur_lt hc3
  have hw3 := b3.size
  clear b1 g2 g3 hc1 hc2
  go_wp2_with fail
  go_loopw [4, 5] (fun q o wr => ∃ (cs : List ByteArray) (left : ByteArray), q = .string left ∧ (cat cs).size + left.size ≤ 644 ∧ cs.length ≤ (cat cs).size ∧ Cur wr g bs ∧
      wr.ownsRow w3.heap.size 9 1 o cs.length (cs.map .string) ∧ Below w.heap.size w wr ∧ w3.heap.size ≤ wr.heap.size) (fun q _ _ => match q with | .string x => x.size | _ => 0)
  case atStart => exact ⟨[], S, rfl, by show 0 + S.size ≤ 644; omega, by simp, cur_alloc hc3 _, by simpa using World.ownsRow_made (e := 9) (size := 1) (base := w3.heap.size) w3 #[] 0 (Nat.le_refl _) (by decide) (by simp), b3.alloc hw3 _, by simp⟩
  case round =>
    obtain ⟨cs, left, rfl, hcl, hcn, hcr, hown, hb, hsize⟩ := hrel
    have hmin := l1Min 7 (left.size : Int)
    by_cases hz : 0 < left.size
    · have hz' : (0 : Int) < (left.size : Int) := by omega
      obtain ⟨m, hm⟩ : ∃ m : Int, (if (7 : Int) < (left.size : Int) then (7 : Int) else (left.size : Int)) = m := ⟨_, rfl⟩
      have hm1 : 1 ≤ m ∧ m ≤ left.size := by rw [← hm]; split <;> omega
      rw [hm] at hmin
      clear hm
      go_wp2_with fail
      go_at_call 37
      refine (hmin _).mono ?_
      rintro e w4 ⟨rfl, rfl⟩
      go_wp2_with fail
      go_at_call 32
      refine (l1Below g bs m (by omega) _ hl hcr).mono ?_
      rintro e w5 ⟨x, rfl, hx0, hx1, hx2, hc5, g5⟩
      have hx1 := hx1 (by omega)
      have s5 := g5.size
      have own5 := own_grown hown g5 (fun k hk e => by have h1 := (hown.lt k hk).1; cases e; omega)
      have b5 : Below w.heap.size w w5 := hb.grown g5 hb.size (fun k hk => by cases hk; exact hg0)
      have hsl := slice_to left (1 + x) (by omega) (by omega)
      have hsl2 := slice_from left (1 + x) (by omega) (by omega)
      have HT : Hid ((left.extract 0 (1 + x).toNat).size = (1 + x).toNat) := by show _ = _; simp; omega
      have HR : Hid ((left.extract (1 + x).toNat left.size).size = left.size - (1 + x).toNat) := by show _ = _; simp
      clear hx2 hmin
      generalize left.extract 0 (1 + x).toNat = t at hsl HT
      go_wp2_with (first
        | (at_builtin; refine wpList_append_own _ rfl (.tmp 24) (.tmp 28) 30 rfl w3.heap.size 9 i0 (.string ⟨#[]⟩) 1 16 Try.underlying30 hi hz0 hz1 hz2 rfl (by decide) _ _ _ rfl (World.ownsRow.alloc (w := w5) own5 _) ⟨w5.heap.size, 0, none⟩ 1 1 [.string t] rfl rfl ?c1 ?c2 ?c3 ?c4 ?c5 ?_)
        | go_in)
      case c1 =>
        intro j u hj
        match j, hj with
        | 0, hj =>
          simp at hj
          subst hj
          simp [Addr.add]
      case c2 => intro u hu; simp at hu; subst hu; rfl
      case c3 => unfold maxLen; omega
      case c4 => omega
      case c5 => simp; omega
      · intro v' w6 hown' hgrow _
        obtain ⟨ho, hbl⟩ := appended (n := 0) own5 (by omega) hown' hgrow
        have hc6 := cur_grown (cur_alloc hc5 _) hgrow (fun k hk => by have h1 := (own5.lt k hk).1; omega)
        clear hown' hgrow
        go_wp2
        go_roundw
        case rel => exact ⟨_, _, rfl, by rw [cat_snoc, HT.out, HR.out]; omega, by rw [cat_snoc, HT.out]; simp; omega, hc6, ho, b5.trans (hbl.mono (by omega)), Nat.le_trans (by omega) hbl.size⟩
        case measure =>
          have := HR.out
          simp
          omega
    · have hz' : ¬ (0 : Int) < (left.size : Int) := by omega
      go_wp2
      go_ret
      exact ⟨_, rfl, cs, by omega, by omega, own_mono hown (by omega), hb⟩

end Go.Proofs.Ytkblcekledbcnaa
