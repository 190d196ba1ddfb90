/-
  Put together out of: ReadSp, ReadW.
-/
import Derived.Test.YtjdmmpdcafbneaaDoorReadN
/-
  Chapter 13, texts: spec.l1Split.
-/
namespace Go.Proofs.YtjdmmpdcafbneaaDoor
open Go.RowKit
set_option linter.unusedVariables false
set_option linter.unusedSimpArgs false
set_option linter.unnecessarySimpa false
set_option maxHeartbeats 4000000
set_option maxRecDepth 20000

def toL (s : ByteArray) : List UInt8 := s.data.toList
theorem toL_len (s : ByteArray) : (toL s).length = s.size := by unfold toL; simp
theorem toL_extract (s : ByteArray) (f i : Nat) : toL (s.extract f i) = ((toL s).take i).drop f := by
  unfold toL
  rw [ByteArray.data_extract, Array.toList_extract, List.extract_eq_take_drop, List.drop_take]

/-- What is cut off after i rounds; f: where the next part begins. -/
def SP (D : List UInt8) (b : UInt8) (ps : List (List UInt8)) (f i : Nat) : Prop :=
  (i ≤ D.length ∧ f ≤ i ∧ ps ++ splitT b (D.drop f) = splitT b D ∧ b ∉ (D.take i).drop f ∧ ps.length ≤ i) ∨ (i = D.length + 1 ∧ ps = splitT b D ∧ ps.length ≤ i)

theorem SP.zero (D : List UInt8) (b : UInt8) : SP D b [] 0 0 := .inl ⟨by omega, by omega, by simp, by simp, by simp⟩
theorem SP.len {D : List UInt8} {b : UInt8} {ps : List (List UInt8)} {f i : Nat} (h : SP D b ps f i) : ps.length ≤ i := by
  rcases h with ⟨_, _, _, _, h⟩ | ⟨_, _, h⟩ <;> exact h
theorem SP.from {D : List UInt8} {b : UInt8} {ps : List (List UInt8)} {f i : Nat} (h : SP D b ps f i) (hi : i ≤ D.length) : f ≤ i := by
  rcases h with ⟨_, h, _, _, _⟩ | ⟨h, _, _⟩ <;> omega
theorem SP.more {D : List UInt8} {b : UInt8} {ps : List (List UInt8)} {f i : Nat} (h : SP D b ps f i) (hi : i < D.length) (hne : D[i] ≠ b) : SP D b ps f (i + 1) := by
  rcases h with ⟨h1, h2, h3, h4, h5⟩ | ⟨h, _, _⟩
  · refine .inl ⟨by omega, by omega, h3, ?_, by omega⟩
    rw [List.take_succ_eq_append_getElem hi, List.drop_append_of_le_length (by simp; omega)]
    simp only [List.mem_append, List.mem_singleton, not_or]
    exact ⟨h4, fun e => hne e.symm⟩
  · omega
theorem SP.part {D : List UInt8} {b : UInt8} {ps : List (List UInt8)} {f i : Nat} (h : SP D b ps f i) (hi : i < D.length) (he : D[i] = b) : SP D b (ps ++ [(D.take i).drop f]) (i + 1) (i + 1) := by
  rcases h with ⟨h1, h2, h3, h4, h5⟩ | ⟨h, _, _⟩
  · refine .inl ⟨by omega, by omega, ?_, by simp, by simp; omega⟩
    have e1 : D.drop f = (D.take i).drop f ++ b :: D.drop (i + 1) := by
      have e2 : D = D.take i ++ D[i] :: D.drop (i + 1) := by rw [← List.drop_eq_getElem_cons hi, List.take_append_drop]
      rw [he] at e2
      have e3 := congrArg (List.drop f) e2
      rw [List.drop_append_of_le_length (by simp; omega)] at e3
      exact e3
    rw [← h3, e1, splitT_ahead b _ _ h4]
    simp
  · omega
theorem SP.last {D : List UInt8} {b : UInt8} {ps : List (List UInt8)} {f i : Nat} (h : SP D b ps f i) (hi : i = D.length) : SP D b (ps ++ [(D.take i).drop f]) (i + 1) (i + 1) := by
  rcases h with ⟨h1, h2, h3, h4, h5⟩ | ⟨h, _, _⟩
  · refine .inr ⟨by omega, ?_, by simp; omega⟩
    rw [← h3]
    subst hi
    rw [List.take_length] at h4 ⊢
    rw [splitT_free b _ h4]
  · omega
theorem SP.done {D : List UInt8} {b : UInt8} {ps : List (List UInt8)} {f i : Nat} (h : SP D b ps f i) (hi : D.length < i) : ps = splitT b D := by
  rcases h with ⟨h1, _⟩ | ⟨_, h, _⟩
  · omega
  · exact h

theorem info_stringR : (Tryd.prog.info? 9).map (fun i => (i.zero, i.size, i.bytes)) = some (some (.string ⟨#[]⟩), 1, 16) := by kernel_rfl

theorem slice_part (s : ByteArray) (f i : Nat) (h1 : f ≤ i) (h2 : i ≤ s.size) (w : World) :
    (Instr.slice 9 (.string s) (some (.int .i64 (f : Int))) (some (.int .i64 (i : Int))) none).run Tryd.prog w = .ok (.string (s.extract f i)) w := by
  have := run_slice_string (P := Tryd.prog) w 9 s .i64 .i64 (f : Int) (i : Int) Tryd.underlying9 (by omega) (by omega) (by omega)
  rw [this]
  congr 3

theorem appendedR {B : Nat} {e : TypeId} {v v' : Value} {ts : List ByteArray} {t : ByteArray} {wr w1 : World} {x : Obj}
    (hown : wr.ownsRow B e 1 v ts.length (ts.map .string)) (hB : B ≤ wr.heap.size) (hown' : w1.ownsRow B e 1 v' (ts.length + 1) (ts.map .string ++ [.string t]))
    (hgrow : (wr.alloc x).grownBy w1 v.ownBlock) :
    w1.ownsRow B e 1 v' (ts ++ [t]).length ((ts ++ [t]).map .string) ∧ Below B wr w1 := by
  refine ⟨by simpa using hown', ?_⟩
  have h1 : Below B wr (wr.alloc x) := Below.alloc (Below.refl _ _) hB x
  refine h1.grown hgrow (Nat.le_trans hB ?_) (fun k hk => (hown.lt k hk).1)
  show wr.heap.size ≤ (wr.heap.push x).size
  simp

def SplP (s : ByteArray) (b : UInt8) (w : World) (r : Ending) (w' : World) : Prop := ∃ (v : Value) (ts : List ByteArray), r = .returned v ∧ w'.ownsRow w.heap.size 9 1 v ts.length (ts.map .string) ∧ Below w.heap.size w w' ∧ ts.map toL = splitT b (toL s)

theorem l1Split (s : ByteArray) (b : UInt8) (w : World) (hl : s.size ≤ 1000000) :
    Calls Tryd.prog 22 #[.string s, .int .u8 (b.toNat : Int)] w (SplP s b w) := by
  obtain ⟨i0, hi0, hz0, hz1, hz2⟩ := info_parts info_stringR
  have hsz := toL_len s
  go_enter Tryd.func22, Tryd.ntmps22
  go_wp2
  go_loopw [5, 6, 7] (fun o q r wr => ∃ (ts : List ByteArray) (f i : Nat), q = .int .i64 f ∧ r = .int .i64 i ∧ i ≤ s.size + 1 ∧ f ≤ s.size + 1 ∧ Hid (SP (toL s) b (ts.map toL) f i) ∧ Hid (wr.ownsRow w.heap.size 9 1 o ts.length (ts.map .string)) ∧ Hid (Below w.heap.size w wr)) (fun _ _ q _ => s.size + 1 - (intOf q).toNat)
  case atStart =>
    refine ⟨[], 0, 0, rfl, rfl, by omega, by omega, SP.zero _ _, ?_, ?_⟩
    · show World.ownsRow _ _ _ _ _ _ _
      have := World.ownsRow_made (e := 9) (size := 1) (base := w.heap.size) w #[] 0 (by simp) (by decide) (by simp)
      simpa using this
    · show Below _ _ _
      go_grown
  case round =>
    obtain ⟨ts, f, i, rfl, rfl, hi, hf, HS, HO, HB⟩ := hrel
    by_cases hlt : i ≤ s.size
    · have hlt9 : (i : Int) ≤ (s.size : Int) := by omega
      have hfi := HS.out.from (by rw [hsz]; exact hlt)
      have hlen := HS.out.len
      rw [List.length_map] at hlen
      have hsl := slice_part s f i hfi hlt
      by_cases hlast : i = s.size
      · have hl9 : ((i : Int) == (s.size : Int)) = true := by simp [hlast]
        have HN : Hid (SP (toL s) b ((ts ++ [s.extract f i]).map toL) (i + 1) (i + 1)) := by
          have h9 := HS.out.last (by rw [hsz]; exact hlast)
          rw [← toL_extract] at h9
          show SP _ _ _ _ _
          simpa using h9
        clear HS hlast
        go_wp2_with (first
          | (at_builtin; refine wpList_append_own _ rfl (.tmp 26) (.tmp 31) 51 rfl w.heap.size 9 i0 (.string ⟨#[]⟩) 1 16 Tryd.underlying51 hi0 hz0 hz1 hz2 rfl (by decide) _ _ _ rfl (World.ownsRow.alloc HO.out _) ⟨wr.heap.size, 0, none⟩ 1 1 [.string (s.extract f i)] rfl rfl ?c1 ?c2 ?c3 ?c4 ?c5 ?_)
          | go_in)
        case c1 =>
          intro j u hj
          match j, hj with
          | 0, hj =>
            simp at hj
            subst hj
            have := World.cell?_alloc_new wr #[Value.string (s.extract f i)] 9 0
            simpa [Addr.add] using this
        case c2 => intro u hu; simp at hu; subst hu; rfl
        case c3 => unfold maxLen; omega
        case c4 => omega
        case c5 => have := HB.out.size; show _ ≤ (wr.heap.push _).size; simp; omega
        · intro v' w1 hown' hgrow _
          obtain ⟨ho, hbl⟩ := appendedR HO.out HB.out.size hown' hgrow
          have HO2 : Hid _ := ho
          have HB2 : Hid (Below w.heap.size w w1) := HB.out.trans (hbl.mono (by omega))
          clear hown' hgrow ho hbl
          go_wp2
          go_roundw
          case rel => exact ⟨ts ++ [s.extract f i], i + 1, i + 1, by go_num, by go_num, by omega, by omega, HN.out, HO2.out, HB2.out⟩
          case measure => simp [intOf]; omega
      · have hl9 : ((i : Int) == (s.size : Int)) = false := by simp; omega
        have hlt2 : i < s.size := by omega
        have hlt3 : (i : Int) < (s.size : Int) := by omega
        have hek : (toL s)[i]'(by rw [hsz]; exact hlt2) = s[i]'hlt2 := rfl
        have hqi := UInt8.toNat_lt (s[i]'hlt2)
        have hqb := UInt8.toNat_lt b
        by_cases hx : s[i]'hlt2 = b
        · have hx9 : ((((s[i]'hlt2).toNat : Nat) : Int) == ((b.toNat : Nat) : Int)) = true := by rw [hx]; simp
          have HN : Hid (SP (toL s) b ((ts ++ [s.extract f i]).map toL) (i + 1) (i + 1)) := by
            have h9 := HS.out.part (by rw [hsz]; exact hlt2) (hek.trans hx)
            rw [← toL_extract] at h9
            show SP _ _ _ _ _
            simpa using h9
          clear HS hek hx
          go_wp2_with (first
            | (at_builtin; refine wpList_append_own _ rfl (.tmp 26) (.tmp 31) 51 rfl w.heap.size 9 i0 (.string ⟨#[]⟩) 1 16 Tryd.underlying51 hi0 hz0 hz1 hz2 rfl (by decide) _ _ _ rfl (World.ownsRow.alloc HO.out _) ⟨wr.heap.size, 0, none⟩ 1 1 [.string (s.extract f i)] rfl rfl ?c1 ?c2 ?c3 ?c4 ?c5 ?_)
            | go_in)
          case c1 =>
            intro j u hj
            match j, hj with
            | 0, hj =>
              simp at hj
              subst hj
              have := World.cell?_alloc_new wr #[Value.string (s.extract f i)] 9 0
              simpa [Addr.add] using this
          case c2 => intro u hu; simp at hu; subst hu; rfl
          case c3 => unfold maxLen; omega
          case c4 => omega
          case c5 => have := HB.out.size; show _ ≤ (wr.heap.push _).size; simp; omega
          · intro v' w1 hown' hgrow _
            obtain ⟨ho, hbl⟩ := appendedR HO.out HB.out.size hown' hgrow
            have HO2 : Hid _ := ho
            have HB2 : Hid (Below w.heap.size w w1) := HB.out.trans (hbl.mono (by omega))
            clear hown' hgrow ho hbl
            go_wp2
            go_roundw
            case rel => exact ⟨ts ++ [s.extract f i], i + 1, i + 1, by go_num, by go_num, by omega, by omega, HN.out, HO2.out, HB2.out⟩
            case measure => simp [intOf]; omega
        · have hx9 : ((((s[i]'hlt2).toNat : Nat) : Int) == ((b.toNat : Nat) : Int)) = false := by
            rw [beq_eq_false_iff_ne]
            intro e
            exact hx (UInt8.toNat_inj.1 (by omega))
          have HN : Hid (SP (toL s) b (ts.map toL) f (i + 1)) := HS.out.more (by rw [hsz]; exact hlt2) (fun e => hx (hek.symm.trans e))
          clear HS hek hx hsl
          go_wp2
          go_roundw
          case rel => exact ⟨ts, f, i + 1, rfl, by go_num, by omega, by omega, HN.out, HO.out, HB.out⟩
          case measure => simp [intOf]; omega
    · have hlt9 : ¬ (i : Int) ≤ (s.size : Int) := by omega
      have HD : Hid _ := HS.out.done (by rw [hsz]; omega)
      clear HS
      go_wp2
      go_ret
      exact ⟨_, ts, rfl, HO.out, HB.out, HD.out⟩

end Go.Proofs.YtjdmmpdcafbneaaDoor

/-
  Chapter 13, texts: the parts of a right statement's word (for spec.l13Read and impl.stmtIn).
-/
namespace Go.Proofs.YtjdmmpdcafbneaaDoor
open Go.RowKit
set_option linter.unusedVariables false
set_option linter.unusedSimpArgs false

theorem dd2_no_comma {m : Nat} (h : m < 100) : (44 : UInt8) ∉ dd2 m := fun hm => by
  have := ((dd2_facts h).2.1 _ hm).1
  exact absurd this (by decide)

/-- What stands behind the letter, cut at the commas. -/
theorem word_split {t : Stm} (h : stmtOk t.k t.x t.y = true) : stmtT t = letter t.k :: joinT 44 ((told t).map (fun n => dd2 n.toNat)) ∧
    splitT 44 (joinT 44 ((told t).map (fun n => dd2 n.toNat))) = if told t = [] then [[]] else (told t).map (fun n => dd2 n.toNat) := by
  refine ⟨stmtT_two h, ?_⟩
  split
  · next e => rw [e]; rfl
  · next e =>
    refine splitT_join 44 _ (by simpa using e) (fun x hx => ?_)
    obtain ⟨n, hn, rfl⟩ := List.mem_map.1 hx
    have := (told_nums h).2 n hn
    exact dd2_no_comma (by omega)

/-- What a right statement's numbers are, by its Kind. -/
theorem told_kind {t : Stm} (h : stmtOk t.k t.x t.y = true) :
    (told t = [] ∧ t.x = 0 ∧ t.y = 0 ∧ t.k ≠ 7 ∧ t.k ≠ 8) ∨ (told t = [t.x] ∧ t.y = 0 ∧ t.k ≠ 7 ∧ t.k ≠ 8) ∨ (told t = [t.x, t.y] ∧ t.k ≠ 7 ∧ t.k ≠ 8) ∨ (told t = [t.y] ∧ t.x = 0 ∧ (t.k = 7 ∨ t.k = 8)) := by
  obtain ⟨k, x, y⟩ := t
  unfold stmtOk at h
  simp only [inB_wi, wiB] at h
  unfold told
  simp only
  by_cases h1 : k = 1 ∨ k = 9
  · rw [if_pos h1] at h
    simp at h
    refine .inl ⟨by rw [if_neg (by omega), if_neg (by omega), if_neg (by omega)], by omega, by omega, by omega, by omega⟩
  rw [if_neg h1] at h
  by_cases h2 : k = 2 ∨ k = 3
  · exact .inr (.inr (.inl ⟨by rw [if_pos h2], by omega, by omega⟩))
  rw [if_neg h2] at h
  by_cases h3 : k = 4 ∨ k = 5 ∨ k = 6
  · rw [if_pos h3] at h
    simp at h
    exact .inr (.inl ⟨by rw [if_neg h2, if_pos h3], by omega, by omega, by omega⟩)
  rw [if_neg h3] at h
  by_cases h4 : k = 7
  · rw [if_pos h4] at h
    simp at h
    exact .inr (.inr (.inr ⟨by rw [if_neg h2, if_neg h3, if_pos (.inl h4)], by omega, .inl h4⟩))
  rw [if_neg h4] at h
  by_cases h5 : k = 8
  · rw [if_pos h5] at h
    simp at h
    exact .inr (.inr (.inr ⟨by rw [if_neg h2, if_neg h3, if_pos (.inr h5)], by omega, .inr h5⟩))
  rw [if_neg h5] at h
  cases h

/-- The letter tells the Kind. -/
theorem letter_kind {k : Int} (h1 : 1 ≤ k) (h9 : k ≤ 9) : letter k = ([115, 99, 98, 108, 109, 116, 106, 107, 114] : List UInt8).getD (k.toNat - 1) 0 ∧ ∀ j : Int, 1 ≤ j → j ≤ 9 → letter j = letter k → j = k := by
  have e : ∀ n : Nat, n < 10 → 1 ≤ n → letter (n : Int) = ([115, 99, 98, 108, 109, 116, 106, 107, 114] : List UInt8).getD (n - 1) 0 := by decide
  have d : ∀ n : Nat, n < 10 → 1 ≤ n → ∀ m : Nat, m < 10 → 1 ≤ m → letter (n : Int) = letter (m : Int) → n = m := by decide
  have ek : ((k.toNat : Nat) : Int) = k := by omega
  refine ⟨by have := e k.toNat (by omega) (by omega); rw [ek] at this; exact this, fun j hj1 hj9 hjk => ?_⟩
  have ej : ((j.toNat : Nat) : Int) = j := by omega
  have := d j.toNat (by omega) (by omega) k.toNat (by omega) (by omega) (by rw [ek, ej]; exact hjk)
  omega

end Go.Proofs.YtjdmmpdcafbneaaDoor
