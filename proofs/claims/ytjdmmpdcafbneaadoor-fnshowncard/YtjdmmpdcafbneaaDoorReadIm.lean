/-
  Chapter 13, texts: what the program cuts and reads (impl.numberOf, strings.Split, strings.Cut).
-/
import Derived.Test.YtjdmmpdcafbneaaDoorRdShelf
import Derived.Lib.AppendIntMem
namespace Go.Proofs.YtjdmmpdcafbneaaDoor
open Go.RowKit
set_option linter.unusedVariables false
set_option linter.unusedSimpArgs false
set_option maxHeartbeats 4000000
set_option maxRecDepth 20000

/-- Where one byte is, or that it is nowhere. -/
theorem index_one (c : UInt8) : ∀ (L : List UInt8), (Lib.index L [c] = -1 ∧ c ∉ L) ∨ ∃ i : Nat, Lib.index L [c] = i ∧ i < L.length ∧ c ∉ L.take i ∧ L = L.take i ++ c :: L.drop (i + 1)
  | [] => .inl ⟨rfl, by simp⟩
  | x :: l => by
    by_cases hx : c = x
    · subst hx
      exact .inr ⟨0, by simp [Lib.index], by simp, by simp, by simp⟩
    · have hp : ([c] : List UInt8).isPrefixOf (x :: l) = false := by simp [List.isPrefixOf, hx]
      rcases index_one c l with ⟨h, hn⟩ | ⟨i, h, hi, hn, he⟩
      · refine .inl ⟨by simp [Lib.index, hp, h, hx], ?_⟩
        simp only [List.mem_cons, not_or]
        exact ⟨hx, hn⟩
      · refine .inr ⟨i + 1, ?_, by simp; omega, ?_, ?_⟩
        · have h9 : ((i : Int) == -1) = false := by rw [beq_eq_false_iff_ne]; omega
          simp [Lib.index, hp, h, hx]
        · simp only [List.take_succ_cons, List.mem_cons, not_or]
          exact ⟨hx, hn⟩
        · simp only [List.take_succ_cons, List.drop_succ_cons, List.cons_append]
          rw [← he]

theorem splitT_index {c : UInt8} {L : List UInt8} {i : Nat} (hn : c ∉ L.take i) (he : L = L.take i ++ c :: L.drop (i + 1)) : splitT c L = L.take i :: splitT c (L.drop (i + 1)) := by
  have := splitT_ahead c (L.take i) (L.drop (i + 1)) hn
  rw [← he] at this
  exact this

def one1 (c : UInt8) : ByteArray := ⟨#[c]⟩
theorem one1_le (c : UInt8) : 1 ≤ (one1 c).size := Nat.le_refl 1
theorem splitB_one (c : UInt8) : ∀ (k : Nat) (s : ByteArray), Lib.countB s (one1 c) = k → (Lib.splitB (one1 c) 0 k s).map toL = splitT c (toL s) ∧ (Lib.splitB (one1 c) 0 k s).length = k + 1 := by
  intro k s hk
  refine ⟨?_, Lib.splitB_all (one1 c) (one1_le c) 0 k s hk⟩
  induction k generalizing s with
  | zero =>
    rcases index_one c (toL s) with ⟨h, hn⟩ | ⟨i, h, hi, hn, he⟩
    · rw [Lib.splitB_zero, splitT_free c _ hn]; rfl
    · have h9 : Lib.indexB s (one1 c) = i := h
      have := Lib.countB_hit s (one1 c) i (one1_le c) h9
      omega
  | succ k ih =>
    rcases index_one c (toL s) with ⟨h, hn⟩ | ⟨i, h, hi, hn, he⟩
    · have h9 : Lib.indexB s (one1 c) = -1 := h
      have := Lib.countB_miss s (one1 c) h9
      omega
    · have h9 : Lib.indexB s (one1 c) = i := h
      have hc := Lib.countB_hit s (one1 c) i (one1_le c) h9
      have h1 : (one1 c).size = 1 := rfl
      rw [h1] at hc
      rw [Lib.splitB_hit _ _ _ _ i h9, List.map_cons, h1, ih _ (by omega), splitT_index hn he]
      rw [toL_extract, toL_extract, List.drop_zero, Nat.add_zero]
      have e : (toL s).take s.size = toL s := List.take_of_length_le (by rw [toL_len]; exact Nat.le_refl _)
      rw [e]

/-- What a start lays for strconv and strings. -/
structure Laid (w : World) : Prop where
  max : ∃ m, w.cell? ⟨1, 0, none⟩ = some (.int .i64 m)
  syn : ∃ ev, w.cell? ⟨6, 0, none⟩ = some ev ∧ (ev = .nilIface ∨ ∃ te pe, ev = .iface te pe)
  ran : ∃ ev, w.cell? ⟨7, 0, none⟩ = some ev ∧ (ev = .nilIface ∨ ∃ te pe, ev = .iface te pe)
  tab : Lib.TabIs Tryd.prog w "internal/strconv.uint64pow10" .u64 Lib.pow10Tab

theorem Laid.below {w w' : World} (h : Laid w) (hb : Below w.heap.size w w') : Laid w' := by
  obtain ⟨⟨m, h1⟩, ⟨e1, h2, h2'⟩, ⟨e2, h3, h3'⟩, h4⟩ := h
  exact ⟨⟨m, cell_step3 h1 hb⟩, ⟨e1, cell_step3 h2 hb, h2'⟩, ⟨e2, cell_step3 h3 hb, h3'⟩, (Lib.tabBelow_of_tabIs h4) _ hb⟩

theorem implSplit (s : ByteArray) (c : UInt8) (w : World) (hl : Laid w) (hs : s.size ≤ 1000000) : Calls Tryd.prog 35 #[.string s, .string (one1 c)] w (SplP s c w) := by
  obtain ⟨m, hm⟩ := hl.max
  refine (rd_strings_Split s (one1 c) m w (by omega) hm (one1_le c)).mono ?_
  rintro e w' ⟨rfl, rfl⟩
  obtain ⟨h1, h2⟩ := splitB_one c _ s rfl
  refine ⟨_, _, rfl, ?_, ?_, h1⟩
  · have hc : Lib.countB s (one1 c) ≤ s.size := Lib.countB_le (one1 c) (one1_le c) _ s (Nat.le_refl _)
    rw [h2]
    exact ⟨by simp [h2], .inr ⟨w.heap.size, _, _, rfl, Nat.le_refl _, heap_alloc_new w _, Nat.le_refl _, by unfold maxLen; omega, by simp [h2], by rw [List.take_of_length_le (by simp [h2])]⟩⟩
  · go_grown

theorem dd2_parse : (List.range 100).all (fun m => decide (Lib.parseIntB 64 (dd2 m) = .ok (m : Int)) && decide (Lib.itoa (m : Int) = dd2 m)) = true := by decide +kernel

theorem dd2_parse1 {m : Nat} (h : m < 100) : Lib.parseIntB 64 (dd2 m) = .ok (m : Int) ∧ Lib.itoa (m : Int) = dd2 m := by
  have := List.all_eq_true.1 dd2_parse m (List.mem_range.2 h)
  simpa using this

theorem parse_bounds {L : List UInt8} {v : Int} (h : Lib.parseIntB 64 L = .ok v) : -9223372036854775808 ≤ v ∧ v ≤ 9223372036854775807 := by
  unfold Lib.parseIntB at h
  split at h
  · cases h
  · next c r =>
    simp only at h
    split at h
    · cases h
    · cases h
    · next u hu =>
      split at h
      · cases h
      · next h1 =>
        split at h
        · cases h
        · next h2 =>
          injection h with h
          subst h
          by_cases hn : c.toNat = 45
          · simp only [hn, not_true, false_and, true_and, if_true] at h1 h2 ⊢
            omega
          · simp only [hn, not_false_iff, false_and, true_and, if_false] at h1 h2 ⊢
            omega

def NoP (s : ByteArray) (w : World) (r : Ending) (w' : World) : Prop := ∃ (n : Int) (b : Bool), r = .returned (.tuple #[.int .i64 n, .bool b]) ∧ Below w.heap.size w w' ∧ (∀ m : Nat, m < 100 → toL s = dd2 m → n = m) ∧ (toL s = [] → n = 0)

theorem below_growN (w : World) (k : Nat) (os : Array Obj) : Below w.heap.size w (Go.Sort.grow (w.drewN k) os) :=
  ⟨rfl, rfl, rfl, by show w.heap.size ≤ (w.heap ++ os).size; simp, fun b hb => by show (w.heap ++ os)[b]? = _; rw [Array.getElem?_append_left hb]⟩

theorem trim_len (L : List UInt8) : (Lib.trimPrefix L [45]).length ≤ L.length := by
  unfold Lib.trimPrefix
  split
  · simp
  · exact Nat.le_refl _

theorem numberOf (s : ByteArray) (w : World) (hl : Laid w) (hs : s.size ≤ 1000000) : Calls Tryd.prog 50 #[.string s] w (NoP s w) := by
  have htr := fun W => rd_strings_TrimPrefix s ⟨#[45]⟩ W
  have htl := trim_len (toL s)
  have hsz := toL_len s
  obtain ⟨T, hT⟩ : ∃ T, Lib.trimPrefix (toL s) [45] = T := ⟨_, rfl⟩
  have hT2 : Lib.trimPrefix s.data.toList [45] = T := hT
  rw [hT] at htl
  simp only [hT2] at htr
  by_cases h9 : 9 < T.length
  · have h9i : (9 : Int) < (T.length : Int) := by omega
    have HN : Hid ((∀ m : Nat, m < 100 → toL s = dd2 m → (0 : Int) = m) ∧ (toL s = [] → (0 : Int) = 0)) := ⟨fun m hm e => by have h8 := (dd2_facts hm).2.2.2.1; rw [← e] at h8; omega, fun _ => rfl⟩
    clear hT hT2 htl hsz
    go_enter Tryd.func50, Tryd.ntmps50
    go_wp2_with (go_at_call 63; refine (htr _).mono ?_; rintro e w1 ⟨rfl, rfl⟩)
    refine bodyPost_ret (v := .tuple #[.int .i64 0, .bool false]) (by simp [results, Tryd.results50, go_sem]) rfl ?_
    exact ⟨0, false, rfl, Below.refl _ _, HN.out.1, fun _ => rfl⟩
  · have h9i : ¬ (9 : Int) < (T.length : Int) := by omega
    clear hT hT2 htl
    cases hp : Lib.parseIntB 64 s.data.toList with
    | «syntax» =>
      obtain ⟨ev, hv, hev⟩ := hl.syn
      have hpa := rd_strconv_ParseInt_10_at64_syntax s (by omega) hp ev w hv hev
      have HN : Hid ((∀ m : Nat, m < 100 → toL s = dd2 m → (0 : Int) = m) ∧ (toL s = [] → (0 : Int) = 0)) := ⟨fun m hm e => by have h8 := (dd2_parse1 hm).1; rw [← e] at h8; exact absurd (hp.symm.trans h8) (by simp), fun _ => rfl⟩
      clear hp hv hev
      go_enter Tryd.func50, Tryd.ntmps50
      go_wp2_with (first
        | (go_at_call 63; refine (htr _).mono ?_; rintro e w1 ⟨rfl, rfl⟩)
        | (go_at_call 64; refine hpa.mono ?_; rintro e w2 ⟨N, rfl, _, _, b2⟩))
      refine bodyPost_ret (v := .tuple #[.int .i64 0, .bool false]) (by simp [results, Tryd.results50, go_sem]) rfl ?_
      exact ⟨0, false, rfl, b2, HN.out.1, fun _ => rfl⟩
    | range =>
      obtain ⟨ev, hv, hev⟩ := hl.ran
      have hpa := rd_strconv_ParseInt_10_at64_range s (by omega) hp ev w hv hev
      have HN : Hid ((∀ m : Nat, m < 100 → toL s = dd2 m → (0 : Int) = m) ∧ (toL s = [] → (0 : Int) = 0)) := ⟨fun m hm e => by have h8 := (dd2_parse1 hm).1; rw [← e] at h8; exact absurd (hp.symm.trans h8) (by simp), fun _ => rfl⟩
      clear hp hv hev
      go_enter Tryd.func50, Tryd.ntmps50
      go_wp2_with (first
        | (go_at_call 63; refine (htr _).mono ?_; rintro e w1 ⟨rfl, rfl⟩)
        | (go_at_call 64; refine hpa.mono ?_; rintro e w2 ⟨N, rfl, _, _, b2⟩))
      refine bodyPost_ret (v := .tuple #[.int .i64 0, .bool false]) (by simp [results, Tryd.results50, go_sem]) rfl ?_
      exact ⟨0, false, rfl, b2, HN.out.1, fun _ => rfl⟩
    | ok v =>
      obtain ⟨hv0, hv1⟩ := parse_bounds hp
      have hpa := rd_strconv_ParseInt_10_at64_ok s (by omega) v hp w
      have HV : Hid (∀ m : Nat, m < 100 → toL s = dd2 m → v = m ∧ Lib.itoa v = toL s) := fun m hm e => by
        obtain ⟨h7, h8⟩ := dd2_parse1 hm
        rw [← e] at h7
        have h6 : v = m := by have := hp.symm.trans h7; injection this
        exact ⟨h6, by rw [h6, h8, e]⟩
      have HE : Hid (toL s ≠ []) := fun e => by
        have h7 : s.data.toList = [] := e
        rw [h7] at hp
        cases hp
      clear hp
      by_cases hEq : Lib.itoa v = toL s
      · have hbN : (Lib.itoa v == s.toList) = true := by rw [beq_iff_eq, ByteArray.toList_eq]; exact hEq
        have hbM : Lib.itoa v = s.toList := by rw [ByteArray.toList_eq]; exact hEq
        clear hEq
        go_enter Tryd.func50, Tryd.ntmps50
        go_wp2_with (first
          | (go_at_call 63; refine (htr _).mono ?_; rintro e w1 ⟨rfl, hw1⟩; obtain rfl : w = w1 := hw1.symm)
          | (go_at_call 64; refine hpa.mono ?_; rintro e w2 ⟨rfl, h2⟩; have b2 : Below w.heap.size w w2 := (by rcases h2 with rfl | ⟨t, rfl⟩; exact Below.refl _ _; exact Lib.bytesWorld_below _ _ _))
          | (go_at_call 31; refine (rd_strconv_FormatInt_10 v hv0 hv1 _ (hl.below b2).tab).mono ?_; rintro e w3 ⟨rfl, k3, o3, h3⟩; have b3 : Below w.heap.size w w3 := b2.trans ((h3 ▸ below_growN _ _ _ : Below w2.heap.size w2 w3).mono b2.size); clear h3))
        refine bodyPost_ret (v := .tuple #[.int .i64 v, .bool true]) (by simp [results, Tryd.results50, go_sem]) rfl ?_
        exact ⟨v, true, rfl, b3, fun m hm e => (HV.out m hm e).1, fun e => absurd e HE.out⟩
      · have hbN : (Lib.itoa v == s.toList) = false := by rw [beq_eq_false_iff_ne, ByteArray.toList_eq]; exact hEq
        have HNO : Hid (∀ m : Nat, m < 100 → toL s = dd2 m → (0 : Int) = m) := fun m hm e => absurd (HV.out m hm e).2 hEq
        have hbM : ¬ Lib.itoa v = s.toList := by rw [ByteArray.toList_eq]; exact hEq
        clear hEq
        go_enter Tryd.func50, Tryd.ntmps50
        go_wp2_with (first
          | (go_at_call 63; refine (htr _).mono ?_; rintro e w1 ⟨rfl, hw1⟩; obtain rfl : w = w1 := hw1.symm)
          | (go_at_call 64; refine hpa.mono ?_; rintro e w2 ⟨rfl, h2⟩; have b2 : Below w.heap.size w w2 := (by rcases h2 with rfl | ⟨t, rfl⟩; exact Below.refl _ _; exact Lib.bytesWorld_below _ _ _))
          | (go_at_call 31; refine (rd_strconv_FormatInt_10 v hv0 hv1 _ (hl.below b2).tab).mono ?_; rintro e w3 ⟨rfl, k3, o3, h3⟩; have b3 : Below w.heap.size w w3 := b2.trans ((h3 ▸ below_growN _ _ _ : Below w2.heap.size w2 w3).mono b2.size); clear h3))
        refine bodyPost_ret (v := .tuple #[.int .i64 0, .bool false]) (by simp [results, Tryd.results50, go_sem]) rfl ?_
        exact ⟨0, false, rfl, b3, HNO.out, fun _ => rfl⟩

end Go.Proofs.YtjdmmpdcafbneaaDoor
