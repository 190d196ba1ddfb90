/-
  Chapter 13, texts: impl.stmtIn.
-/
import Derived.Test.YtjdmmpdcafbneaaDoorReadIm
namespace Go.Proofs.YtjdmmpdcafbneaaDoor
open Go.RowKit
set_option linter.unusedVariables false
set_option linter.unusedSimpArgs false
set_option maxHeartbeats 4000000
set_option maxRecDepth 20000

def lettersL : List UInt8 := [115, 99, 98, 108, 109, 116, 106, 107, 114]
theorem letters_idx : (List.range 256).all (fun n => decide (-1 ≤ Lib.indexByte lettersL (UInt8.ofNat n)) && decide (Lib.indexByte lettersL (UInt8.ofNat n) ≤ 8)) = true := by decide +kernel
theorem letters_idx1 (c : UInt8) : -1 ≤ Lib.indexByte lettersL c ∧ Lib.indexByte lettersL c ≤ 8 := by
  have h := List.all_eq_true.1 letters_idx c.toNat (List.mem_range.2 (by have := UInt8.toNat_lt c; omega))
  have e : UInt8.ofNat c.toNat = c := by simp
  rw [e] at h
  simpa using h
theorem letters_of : (List.range 10).all (fun n => decide (n = 0) || decide (Lib.indexByte lettersL (letter (n : Int)) + 1 = (n : Int))) = true := by decide +kernel
theorem letters_of1 {k : Int} (h1 : 1 ≤ k) (h9 : k ≤ 9) : Lib.indexByte lettersL (letter k) + 1 = k := by
  have h := List.all_eq_true.1 letters_of k.toNat (List.mem_range.2 (by omega))
  have ek : ((k.toNat : Nat) : Int) = k := by omega
  rw [ek] at h
  simp only [Bool.or_eq_true, decide_eq_true_eq] at h
  rcases h with h | h
  · omega
  · exact h

/-- What is cut off at a comma. -/
theorem cut_one {D p : List UInt8} (h : splitT 44 D = [p]) : (Lib.cut D [44]).1 = p ∧ (Lib.cut D [44]).2.1 = [] := by
  have hj := join_splitT 44 D
  rw [h] at hj
  have hD : p = D := hj
  rcases index_one 44 D with ⟨hi, hn⟩ | ⟨i, hi, hl, hn, he⟩
  · unfold Lib.cut
    rw [hi, if_neg (by omega)]
    exact ⟨hD.symm, rfl⟩
  · have := splitT_index hn he
    rw [h] at this
    injection this with _ h2
    exact absurd h2.symm (splitT_ne 44 _)

theorem cut_two {D p q : List UInt8} (h : splitT 44 D = [p, q]) : (Lib.cut D [44]).1 = p ∧ (Lib.cut D [44]).2.1 = q := by
  rcases index_one 44 D with ⟨hi, hn⟩ | ⟨i, hi, hl, hn, he⟩
  · rw [splitT_free 44 D hn] at h
    simp at h
  · have h1 := splitT_index hn he
    rw [h] at h1
    injection h1 with h2 h3
    have hj := join_splitT 44 (D.drop (i + 1))
    rw [← h3] at hj
    unfold Lib.cut
    rw [hi, if_pos (by omega)]
    simp only [Int.toNat_natCast, List.length_singleton]
    exact ⟨h2.symm, hj.symm⟩

theorem parts_le {u : Stm} (hu : stmtOk u.k u.x u.y = true) {k : UInt8} {D : List UInt8} (hD : stmtT u = k :: D) : (splitT 44 D).length ≤ 2 := by
  obtain ⟨h1, h2⟩ := word_split hu
  rw [h1] at hD
  injection hD with _ hD2
  rw [← hD2, h2]
  split
  · simp
  · rw [List.length_map]; exact (told_nums hu).1

def StP (s : ByteArray) (w : World) (r : Ending) (w' : World) : Prop := ∃ t : Stm, r = .returned (.agg #[.int .i64 t.k, .int .i64 t.x, .int .i64 t.y]) ∧ Below w.heap.size w w' ∧ (∀ u : Stm, stmtOk u.k u.x u.y = true → stmtT u = toL s → u = t)

/-- What the program reads of a right word. -/
theorem read_same {u : Stm} (hu : stmtOk u.k u.x u.y = true) {s : ByteArray} {c : UInt8} {D : List UInt8} (hs : toL s = c :: D) (e : stmtT u = toL s) {x y : Int} (hx : ∀ m : Nat, m < 100 → (Lib.cut D [44]).1 = dd2 m → x = m) (hxe : (Lib.cut D [44]).1 = [] → x = 0)
    (hy : ∀ m : Nat, m < 100 → (Lib.cut D [44]).2.1 = dd2 m → y = m) (hye : (Lib.cut D [44]).2.1 = [] → y = 0) :
    u = if Lib.indexByte lettersL c + 1 = 7 ∨ Lib.indexByte lettersL c + 1 = 8 then ⟨Lib.indexByte lettersL c + 1, 0, x⟩ else ⟨Lib.indexByte lettersL c + 1, x, y⟩ := by
  obtain ⟨n1, n9, _⟩ := stmtOk_nums hu
  have e2 := e.trans hs
  have hc : c = letter u.k := by
    have h9 := e2
    unfold stmtT at h9
    injection h9 with h9 _
    exact h9.symm
  subst hc
  have hk := letters_of1 n1 n9
  rw [hk]
  have hle := parts_le hu e2
  cases hp : splitT 44 D with
  | nil => exact absurd hp (splitT_ne 44 D)
  | cons p l =>
    cases l with
    | nil =>
      obtain ⟨c1, c2⟩ := cut_one hp
      rw [c1] at hx hxe
      exact read_back hu n1 n9 e2 hp.symm (fun m hm h => hx m hm h) (fun h => hxe h) (fun h => by simp at h) (fun _ => hye c2)
    | cons q l2 =>
      cases l2 with
      | nil =>
        obtain ⟨c1, c2⟩ := cut_two hp
        rw [c1] at hx hxe
        rw [c2] at hy hye
        exact read_back hu n1 n9 e2 hp.symm (fun m hm h => hx m hm h) (fun h => hxe h) (fun _ m hm h => hy m hm h) (fun h => by simp at h)
      | cons r l3 => rw [hp] at hle; simp at hle

theorem cut_sizes (D : List UInt8) : (Lib.cut D [44]).1.length ≤ D.length ∧ (Lib.cut D [44]).2.1.length ≤ D.length := by
  unfold Lib.cut
  split
  · simp; omega
  · simp

theorem stmtIn (s : ByteArray) (w : World) (hl : Laid w) (hs : s.size ≤ 100000) : Calls Tryd.prog 36 #[.string s] w (StP s w) := by
  have hsz := toL_len s
  by_cases h0 : s.size = 0
  · have he : s = ⟨#[]⟩ := by
      cases s with
      | mk d => simp at h0; rw [h0]; rfl
    subst he
    have HNO9 : Hid (∀ u : Stm, stmtOk u.k u.x u.y = true → stmtT u = toL ⟨#[]⟩ → u = ⟨0, 0, 0⟩) := fun u _ e => by
      unfold stmtT at e
      cases e
    have d := threeC (heap_alloc_new w (.cells #[.int .i64 0, .int .i64 0, .int .i64 0] 42))
    obtain ⟨⟨d0, d1, d2⟩, -⟩ := d
    have HB : Hid (Below w.heap.size w (w.alloc (.cells #[.int .i64 0, .int .i64 0, .int .i64 0] 42))) := by show Below _ _ _; go_grown
    clear hsz h0
    go_enter Tryd.func36, Tryd.ntmps36
    go_wp2
    refine bodyPost_ret (v := .agg #[.int .i64 0, .int .i64 0, .int .i64 0]) (by simp [results, Tryd.results36, go_sem, d0, d1, d2]) rfl ?_
    exact ⟨⟨0, 0, 0⟩, rfl, HB.out, HNO9.out⟩
  have p0 : 0 < s.size := by omega
  have p0i : (0 : Int) < (s.size : Int) := by omega
  have hem : s.toList.isEmpty = false := by
    cases hq : s.toList with
    | nil =>
      have h9 := congrArg List.length hq
      rw [ByteArray.toList_eq] at h9
      exact absurd (hsz.symm.trans h9) h0
    | cons _ _ => rfl
  have HH : Hid (toL s = s[0] :: toL (s.extract 1 s.size)) := by
    show toL s = _
    rw [toL_extract]
    have e : (toL s).take s.size = toL s := List.take_of_length_le (by rw [hsz]; exact Nat.le_refl _)
    rw [e]
    have := List.drop_eq_getElem_cons (l := toL s) (i := 0) (by rw [hsz]; exact p0)
    rw [List.drop_zero] at this
    exact this
  have hq0 := UInt8.toNat_lt s[0]
  have hsl := slice_from1 s p0
  have hib : ∀ W, Calls Tryd.prog 48 #[.string ⟨#[115, 99, 98, 108, 109, 116, 106, 107, 114]⟩, .int .u8 ((s[0].toNat : Nat) : Int)] W fun e w' => e = .returned (.int .i64 (Lib.indexByte lettersL s[0])) ∧ w' = W := fun W => by
    have := rd_strings_IndexByte ⟨#[115, 99, 98, 108, 109, 116, 106, 107, 114]⟩ ((s[0].toNat : Nat) : Int) W
    have e : (((s[0].toNat : Nat) : Int).toNat).toUInt8 = s[0] := by simp
    rw [e] at this
    exact this
  obtain ⟨hk0, hk8⟩ := letters_idx1 s[0]
  obtain ⟨kx, hkx⟩ : ∃ kx, Lib.indexByte lettersL s[0] = kx := ⟨_, rfl⟩
  obtain ⟨D, hD⟩ : ∃ D, toL (s.extract 1 s.size) = D := ⟨_, rfl⟩
  have hDl : D.length ≤ 100000 := by rw [← hD, toL_len]; simp; omega
  have HRS : Hid (∀ u : Stm, stmtOk u.k u.x u.y = true → stmtT u = toL s → ∀ x y : Int, (∀ m : Nat, m < 100 → (Lib.cut D [44]).1 = dd2 m → x = m) → ((Lib.cut D [44]).1 = [] → x = 0) → (∀ m : Nat, m < 100 → (Lib.cut D [44]).2.1 = dd2 m → y = m) → ((Lib.cut D [44]).2.1 = [] → y = 0) → u = if kx + 1 = 7 ∨ kx + 1 = 8 then ⟨kx + 1, 0, x⟩ else ⟨kx + 1, x, y⟩) := fun u hu e x y h1 h2 h3 h4 => by
    have h9 := HH.out
    rw [hD] at h9
    have := read_same hu h9 e h1 h2 h3 h4
    rwa [hkx] at this
  have hcut : ∀ W, Laid W → Calls Tryd.prog 49 #[.string (s.extract 1 s.size), .string ⟨#[44]⟩] W fun e w' => e = .returned (.tuple #[.string ⟨(Lib.cut D [44]).1.toArray⟩, .string ⟨(Lib.cut D [44]).2.1.toArray⟩, .bool (Lib.cut D [44]).2.2]) ∧ Below W.heap.size W w' := fun W hW => by
    obtain ⟨m, hm⟩ := hW.max
    refine (rd_strings_Cut (s.extract 1 s.size) ⟨#[44]⟩ m W (by simp; omega) hm).mono ?_
    rintro e w' ⟨h1, n, rfl⟩
    have hD2 : (s.extract 1 s.size).data.toList = D := hD
    rw [hD2] at h1
    exact ⟨h1, below_drewN (Below.refl _ _) n⟩
  obtain ⟨hc1, hc2⟩ := cut_sizes D
  obtain ⟨A, hA⟩ : ∃ A, (Lib.cut D [44]).1 = A := ⟨_, rfl⟩
  obtain ⟨B, hB⟩ : ∃ B, (Lib.cut D [44]).2.1 = B := ⟨_, rfl⟩
  obtain ⟨cb, hcb⟩ : ∃ cb, (Lib.cut D [44]).2.2 = cb := ⟨_, rfl⟩
  simp only [hA, hB, hcb] at HRS hcut hc1 hc2
  rw [hkx] at hib hk0 hk8
  have hwk : IntKind.i64.wrap (kx + 1) = kx + 1 := IntWalk.i64_in _ (by omega)
  have hnA := fun W hW => numberOf ⟨A.toArray⟩ W hW (by show A.toArray.size ≤ _; simp; omega)
  have hnB := fun W hW => numberOf ⟨B.toArray⟩ W hW (by show B.toArray.size ≤ _; simp; omega)
  obtain ⟨W0, hW0⟩ : ∃ W0, w.alloc (.cells #[.int .i64 0, .int .i64 0, .int .i64 0] 42) = W0 := ⟨_, rfl⟩
  have b0 : Below w.heap.size w W0 := by rw [← hW0]; go_grown
  have R0 : W0.heap[w.heap.size]? = some (.cells #[.int .i64 0, .int .i64 0, .int .i64 0] 42 (0, 0)) := by rw [← hW0]; exact heap_alloc_new w _
  have HW0 : Hid _ := hW0
  clear hW0 h0 hsz hkx hD HH hA hB hcb
  go_enter Tryd.func36, Tryd.ntmps36
  go_wp2_with fail
  rw [HW0.out]
  go_at_call 48
  refine (hib _).mono ?_
  rintro e w1 ⟨rfl, hw1⟩
  obtain rfl : W0 = w1 := hw1.symm
  clear hib hw1
  go_wp2_with fail
  go_at_call 49
  refine (hcut _ (hl.below b0)).mono ?_
  rintro e w2 ⟨rfl, c2⟩
  have b2 : Below w.heap.size w w2 := b0.trans (c2.mono b0.size)
  have R2 := (c2.block _ (Array.getElem?_eq_some_iff.1 R0).1).trans R0
  clear c2 b0 R0 hcut
  go_wp2_with fail
  go_at_call 50
  refine (hnA _ (hl.below b2)).mono ?_
  rintro e w3 ⟨xn, xb, rfl, c3, hx1, hx2⟩
  have b3 : Below w.heap.size w w3 := b2.trans (c3.mono b2.size)
  have R3 := (c3.block _ (Array.getElem?_eq_some_iff.1 R2).1).trans R2
  clear c3 b2 R2 hnA
  go_wp2_with fail
  go_at_call 50
  refine (hnB _ (hl.below b3)).mono ?_
  rintro e w4 ⟨yn, yb, rfl, c4, hy1, hy2⟩
  have b4 : Below w.heap.size w w4 := b3.trans (c4.mono b3.size)
  have R4 := (c4.block _ (Array.getElem?_eq_some_iff.1 R3).1).trans R3
  have HRT : Hid (∀ u : Stm, stmtOk u.k u.x u.y = true → stmtT u = toL s → u = if kx + 1 = 7 ∨ kx + 1 = 8 then ⟨kx + 1, 0, xn⟩ else ⟨kx + 1, xn, yn⟩) := fun u hu e => HRS.out u hu e xn yn hx1 hx2 hy1 hy2
  obtain ⟨⟨q0, q1, q2⟩, fr⟩ := threeC R4
  have f0 := fr 0
  have f1 := fr 1
  have f2 := fr 2
  clear c4 b3 R3 hnB hx1 hx2 hy1 hy2 HRS fr HW0
  by_cases h7 : kx + 1 = 7
  · have h7b : ((kx + 1) == (7 : Int)) = true := by rw [beq_iff_eq]; exact h7
    have HF : Hid (∀ u : Stm, stmtOk u.k u.x u.y = true → stmtT u = toL s → u = ⟨kx + 1, 0, xn⟩) := fun u hu e => by have := HRT.out u hu e; rwa [if_pos (.inl h7)] at this
    have R5 := threeS (.int .i64 (kx + 1)) (.int .i64 0) (.int .i64 xn) R4
    have HBF : Hid (Below w.heap.size w (((w4.setCell ⟨w.heap.size, 0, none⟩ (.int .i64 (kx + 1))).setCell ⟨w.heap.size, 1, none⟩ (.int .i64 0)).setCell ⟨w.heap.size, 2, none⟩ (.int .i64 xn))) := below_three b4 (Nat.le_refl _) _ _ _
    obtain ⟨⟨r0, r1, r2⟩, -⟩ := threeC R5
    clear R5 HRT h7
    go_wp2
    generalize (((w4.setCell ⟨w.heap.size, 0, none⟩ (.int .i64 (kx + 1))).setCell ⟨w.heap.size, 1, none⟩ (.int .i64 0)).setCell ⟨w.heap.size, 2, none⟩ (.int .i64 xn)) = wf at *
    refine bodyPost_ret (v := .agg #[.int .i64 (kx + 1), .int .i64 0, .int .i64 xn]) (by simp [results, Tryd.results36, go_sem, r0, r1, r2]) rfl ?_
    exact ⟨⟨kx + 1, 0, xn⟩, rfl, HBF.out, HF.out⟩
  by_cases h8 : kx + 1 = 8
  · have h7b : ((kx + 1) == (7 : Int)) = false := by rw [beq_eq_false_iff_ne]; exact h7
    have h8b : ((kx + 1) == (8 : Int)) = true := by rw [beq_iff_eq]; exact h8
    have HF : Hid (∀ u : Stm, stmtOk u.k u.x u.y = true → stmtT u = toL s → u = ⟨kx + 1, 0, xn⟩) := fun u hu e => by have := HRT.out u hu e; rwa [if_pos (.inr h8)] at this
    have R5 := threeS (.int .i64 (kx + 1)) (.int .i64 0) (.int .i64 xn) R4
    have HBF : Hid (Below w.heap.size w (((w4.setCell ⟨w.heap.size, 0, none⟩ (.int .i64 (kx + 1))).setCell ⟨w.heap.size, 1, none⟩ (.int .i64 0)).setCell ⟨w.heap.size, 2, none⟩ (.int .i64 xn))) := below_three b4 (Nat.le_refl _) _ _ _
    obtain ⟨⟨r0, r1, r2⟩, -⟩ := threeC R5
    clear R5 HRT h7 h8
    go_wp2
    generalize (((w4.setCell ⟨w.heap.size, 0, none⟩ (.int .i64 (kx + 1))).setCell ⟨w.heap.size, 1, none⟩ (.int .i64 0)).setCell ⟨w.heap.size, 2, none⟩ (.int .i64 xn)) = wf at *
    refine bodyPost_ret (v := .agg #[.int .i64 (kx + 1), .int .i64 0, .int .i64 xn]) (by simp [results, Tryd.results36, go_sem, r0, r1, r2]) rfl ?_
    exact ⟨⟨kx + 1, 0, xn⟩, rfl, HBF.out, HF.out⟩
  · have h7b : ((kx + 1) == (7 : Int)) = false := by rw [beq_eq_false_iff_ne]; exact h7
    have h8b : ((kx + 1) == (8 : Int)) = false := by rw [beq_eq_false_iff_ne]; exact h8
    have HF : Hid (∀ u : Stm, stmtOk u.k u.x u.y = true → stmtT u = toL s → u = ⟨kx + 1, xn, yn⟩) := fun u hu e => by have := HRT.out u hu e; rwa [if_neg (by omega)] at this
    have R5 := threeS (.int .i64 (kx + 1)) (.int .i64 xn) (.int .i64 yn) R4
    have HBF : Hid (Below w.heap.size w (((w4.setCell ⟨w.heap.size, 0, none⟩ (.int .i64 (kx + 1))).setCell ⟨w.heap.size, 1, none⟩ (.int .i64 xn)).setCell ⟨w.heap.size, 2, none⟩ (.int .i64 yn))) := below_three b4 (Nat.le_refl _) _ _ _
    obtain ⟨⟨r0, r1, r2⟩, -⟩ := threeC R5
    clear R5 HRT h7 h8
    go_wp2
    generalize (((w4.setCell ⟨w.heap.size, 0, none⟩ (.int .i64 (kx + 1))).setCell ⟨w.heap.size, 1, none⟩ (.int .i64 xn)).setCell ⟨w.heap.size, 2, none⟩ (.int .i64 yn)) = wf at *
    refine bodyPost_ret (v := .agg #[.int .i64 (kx + 1), .int .i64 xn, .int .i64 yn]) (by simp [results, Tryd.results36, go_sem, r0, r1, r2]) rfl ?_
    exact ⟨⟨kx + 1, xn, yn⟩, rfl, HBF.out, HF.out⟩

end Go.Proofs.YtjdmmpdcafbneaaDoor
