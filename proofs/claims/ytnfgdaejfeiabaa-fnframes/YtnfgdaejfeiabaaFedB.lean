/-
  ReaderOk and Fed, of the specification and of the program: what they answer; the laws' helpers over Readers.
-/
import Derived.Test.YtnfgdaejfeiabaaFramesOffB
namespace Go.Proofs.Ytnfgdaejfeiabaa
open Go.RowKit
set_option linter.unusedVariables false
set_option maxHeartbeats 4000000

def readerOk (a : ByteArray) (b : Bool) : Bool := decide ((a.size : Int) ≤ 2001) && (!b || a.toList.isEmpty)

theorem specReaderOk (a : ByteArray) (b : Bool) (w : World) :
    Calls Try.prog 14 #[.agg #[.string a, .bool b]] w fun e w' => e = .returned (.bool (readerOk a b)) ∧ Below w.heap.size w w' := by
  by_cases h1 : (a.size : Int) ≤ 2001
  · rw [readerOk, decide_eq_true h1]
    cases b
    · go_enter Try.func14, Try.ntmps14
      go_wp2
      go_ret
      exact ⟨rfl, by go_grown⟩
    · go_enter Try.func14, Try.ntmps14
      go_wp2
      go_ret
      exact ⟨by simp, by go_grown⟩
  · rw [readerOk, decide_eq_false h1]
    go_enter Try.func14, Try.ntmps14
    go_wp2
    go_ret
    exact ⟨rfl, by go_grown⟩

theorem implReaderOk (a : ByteArray) (b : Bool) (w : World) :
    Calls Try.prog 13 #[.agg #[.string a, .bool b]] w fun e w' => e = .returned (.bool (readerOk a b)) ∧ Below w.heap.size w w' := by
  by_cases h1 : (a.size : Int) ≤ 2001
  · rw [readerOk, decide_eq_true h1]
    cases b
    · go_enter Try.func13, Try.ntmps13
      go_wp2
      go_ret
      exact ⟨rfl, by go_grown⟩
    · go_enter Try.func13, Try.ntmps13
      go_wp2
      go_ret
      exact ⟨by simp, by go_grown⟩
  · rw [readerOk, decide_eq_false h1]
    go_enter Try.func13, Try.ntmps13
    go_wp2
    go_ret
    exact ⟨rfl, by go_grown⟩

/-- What both Feds answer: the texts, what is left, whether it is bad. -/
def fed (r : ByteArray) (b : Bool) (c : ByteArray) : List ByteArray × ByteArray × Bool :=
  if readerOk r b = true ∧ (c.size : Int) ≤ 20000 then (if b then ([], ⟨#[]⟩, true) else offs 1000001 (r ++ c)) else ([], ⟨#[]⟩, false)

theorem readerOk_size {a : ByteArray} {b : Bool} (h : readerOk a b = true) : (a.size : Int) ≤ 2001 := by
  unfold readerOk at h; simp at h; omega
theorem readerOk_bad {a : ByteArray} (h : readerOk a true = true) : a = ⟨#[]⟩ := by
  unfold readerOk at h
  simp only [Bool.not_true, Bool.false_or, Bool.and_eq_true, List.isEmpty_iff] at h
  have h2 := h.2
  rw [Go.ByteArray.toList_eq] at h2
  have h3 := congrArg List.length h2
  exact ByteArray.ext (Array.eq_empty_of_size_eq_zero (by simpa using h3))

/-- Behind a call made when two blocks had been laid: both are there still. -/
theorem made_two {w w1 : World} {c d : Array Value} {t u : TypeId} (hb : Below ((w.alloc (.cells c t)).alloc (.cells d u)).heap.size ((w.alloc (.cells c t)).alloc (.cells d u)) w1) :
    w1.heap[w.heap.size]? = some (.cells c t (0, 0)) ∧ w1.heap[w.heap.size + 1]? = some (.cells d u (0, 0)) ∧ w.heap.size + 1 < w1.heap.size ∧ Below w.heap.size w w1 := by
  have h2 := heap_alloc_new (w.alloc (.cells c t)) (.cells d u)
  have h1 := heap_alloc_new w (.cells c t)
  have hs := hb.size
  have hs1 : (w.alloc (.cells c t)).heap.size = w.heap.size + 1 := by simp
  rw [hs1] at h2
  simp at hs
  refine ⟨?_, ?_, by omega, ?_⟩
  · rw [hb.block _ (by simp; omega), heap_alloc_old (h := by simp)]; exact h1
  · rw [hb.block _ (by simp)]; exact h2
  · exact Below.trans (by go_grown) (hb.mono (by simp; omega))

theorem l2FedBad (r c : ByteArray) (w : World) :
    Calls Try.prog 20 #[.agg #[.string r, .bool true], .string c] w fun e w' =>
      ∃ v, e = .returned (.tuple #[.agg #[.string r, .bool true], v]) ∧ w'.ownsRow w.heap.size 9 1 v 0 [] ∧ Below w.heap.size w w' := by
  go_enter Try.func20, Try.ntmps20
  go_wp2
  go_returns
  refine ⟨_, rfl, ?_, by go_grown⟩
  have := World.ownsRow_made (e := 9) (size := 1) (base := w.heap.size) ((w.alloc (Obj.cells #[Value.string r, Value.bool true] 27)).alloc (Obj.cells #[Value.string r, Value.bool true] 27)) #[] 0 (by simp; omega) (by decide) (by simp)
  simpa using this

/-- spec.l2Fed at a Reader that is right. -/
theorem l2FedAny (r : ByteArray) (b : Bool) (c : ByteArray) (h : readerOk r b = true) (hc : (c.size : Int) ≤ 20000) (w : World) :
    Calls Try.prog 20 #[.agg #[.string r, .bool b], .string c] w fun e w' =>
      ∃ v, e = .returned (.tuple #[.agg #[.string (fed r b c).2.1, .bool (fed r b c).2.2], v]) ∧
        w'.ownsRow w.heap.size 9 1 v (fed r b c).1.length ((fed r b c).1.map .string) ∧ Below w.heap.size w w' := by
  rw [fed, if_pos ⟨h, hc⟩]
  cases b with
  | true =>
    have := readerOk_bad h
    subst this
    simpa using l2FedBad ⟨#[]⟩ c w
  | false =>
    have := readerOk_size h
    simpa using l2Fed r c (by omega) w

theorem specFed (r : ByteArray) (b : Bool) (c : ByteArray) (w : World) :
    Calls Try.prog 10 #[.agg #[.string r, .bool b], .string c] w fun e w' =>
      ∃ v, e = .returned (.tuple #[.agg #[.string (fed r b c).2.1, .bool (fed r b c).2.2], v]) ∧
        w'.ownsRow w.heap.size 9 1 v (fed r b c).1.length ((fed r b c).1.map .string) ∧ Below w.heap.size w w' := by
  have hok := specReaderOk r b
  have hl2 := l2FedAny r b c
  have hf : ¬ (readerOk r b = true ∧ (c.size : Int) ≤ 20000) → fed r b c = ([], ⟨#[]⟩, false) := fun x => by rw [fed, if_neg x]
  generalize fed r b c = F at hl2 hf ⊢
  generalize readerOk r b = ok at hok hl2 hf
  by_cases h : ok = true
  · subst h
    by_cases hc : (c.size : Int) ≤ 20000
    · have hl3 := hl2 rfl hc
      clear hf hl2
      obtain ⟨ts, q, d⟩ := F
      go_enter Try.func10, Try.ntmps10
      go_wp2_with (first
        | (go_at_call 14; refine (hok _).mono ?_; rintro e w1 ⟨rfl, hb1⟩; obtain ⟨hA, hB, hz, hbb⟩ := made_two hb1; obtain ⟨a0, a1, g0, g1⟩ := two_cells hA; obtain ⟨c0, c1, f0, f1⟩ := two_cells hB; have HB : Hid (w1.heap[w.heap.size + 1]? = _) := hB; clear hA hB)
        | (go_at_call 20; refine (hl3 _).mono ?_; rintro e w2 ⟨v, rfl, hown2, hb2⟩; obtain ⟨c0, c1, f0, f1⟩ := two_cells ((hb2.block (w.heap.size + 1) hz).trans HB.out)))
      obtain ⟨d0, d1, d2⟩ := two_read ((hb2.block (w.heap.size + 1) hz).trans HB.out) (.string q) (.bool d)
      refine bodyPost_ret (v := .tuple #[.agg #[.string q, .bool d], v]) (by simp [results, Try.results10, go_sem, d1, d2]) rfl ?_
      exact ⟨_, rfl, own_mono (ownsRow_setCell_below (ownsRow_setCell_below hown2 hz _) hz _) (by omega), ((hbb.trans (hb2.mono (by omega))).setCell (by simp) _).setCell (by simp) _⟩
    · obtain rfl := hf (fun x => hc x.2)
      clear hl2 hf
      go_enter Try.func10, Try.ntmps10
      go_wp2_with (first
        | (go_at_call 14; refine (hok _).mono ?_; rintro e w1 ⟨rfl, hb1⟩; obtain ⟨hA, hB, hz, hbb⟩ := made_two hb1; obtain ⟨c0, c1, f0, f1⟩ := two_cells hB; have HB : Hid (w1.heap[w.heap.size + 1]? = _) := hB; clear hA hB))
      obtain ⟨d0, d1, d2⟩ := two_read HB.out (.string ⟨#[]⟩) (.bool false)
      refine bodyPost_ret (v := .tuple #[.agg #[.string ⟨#[]⟩, .bool false], .slice (some ⟨w1.heap.size, 0, none⟩) 0 0]) (by simp [results, Try.results10, go_sem, d1, d2, hz]) rfl ?_
      refine ⟨_, rfl, ?_, (((hbb.setCell (by simp) _).setCell (by simp) _).alloc (by simp; omega) _)⟩
      have := World.ownsRow_made (e := 9) (size := 1) (base := w.heap.size) ((w1.setCell { block := w.heap.size + 1, off := 0 } (Value.string { data := #[] })).setCell { block := w.heap.size + 1, off := 1 } (Value.bool false)) #[] 0 (by simp; omega) (by decide) (by simp)
      simpa using this
  · obtain rfl := hf (fun x => h x.1)
    simp only [Bool.not_eq_true] at h
    subst h
    clear hl2 hf
    go_enter Try.func10, Try.ntmps10
    go_wp2_with (first
      | (go_at_call 14; refine (hok _).mono ?_; rintro e w1 ⟨rfl, hb1⟩; obtain ⟨hA, hB, hz, hbb⟩ := made_two hb1; obtain ⟨c0, c1, f0, f1⟩ := two_cells hB; have HB : Hid (w1.heap[w.heap.size + 1]? = _) := hB; clear hA hB))
    obtain ⟨d0, d1, d2⟩ := two_read HB.out (.string ⟨#[]⟩) (.bool false)
    refine bodyPost_ret (v := .tuple #[.agg #[.string ⟨#[]⟩, .bool false], .slice (some ⟨w1.heap.size, 0, none⟩) 0 0]) (by simp [results, Try.results10, go_sem, d1, d2, hz]) rfl ?_
    refine ⟨_, rfl, ?_, (((hbb.setCell (by simp) _).setCell (by simp) _).alloc (by simp; omega) _)⟩
    have := World.ownsRow_made (e := 9) (size := 1) (base := w.heap.size) ((w1.setCell { block := w.heap.size + 1, off := 0 } (Value.string { data := #[] })).setCell { block := w.heap.size + 1, off := 1 } (Value.bool false)) #[] 0 (by simp; omega) (by decide) (by simp)
    simpa using this

theorem implFed (r : ByteArray) (b : Bool) (c : ByteArray) (w : World) :
    Calls Try.prog 8 #[.agg #[.string r, .bool b], .string c] w fun e w' =>
      ∃ v, e = .returned (.tuple #[.agg #[.string (fed r b c).2.1, .bool (fed r b c).2.2], v]) ∧
        w'.ownsRow w.heap.size 9 1 v (fed r b c).1.length ((fed r b c).1.map .string) ∧ Below w.heap.size w w' := by
  have hok := implReaderOk r b
  have hf : ¬ (readerOk r b = true ∧ (c.size : Int) ≤ 20000) → fed r b c = ([], ⟨#[]⟩, false) := fun x => by rw [fed, if_neg x]
  by_cases h : readerOk r b = true
  · by_cases hc : (c.size : Int) ≤ 20000
    · rw [h] at hok
      have hsz := readerOk_size h
      rw [fed, if_pos ⟨h, hc⟩]
      cases b with
      | true =>
        clear hf
        simp only [if_true]
        go_enter Try.func8, Try.ntmps8
        go_wp2_with (first
          | (go_at_call 13; refine (hok _).mono ?_; rintro e w1 ⟨rfl, hb1⟩; obtain ⟨hA, hB, hz, hbb⟩ := made_two hb1; obtain ⟨a0, a1, g0, g1⟩ := two_cells hA; obtain ⟨c0, c1, f0, f1⟩ := two_cells hB; have HB : Hid (w1.heap[w.heap.size + 1]? = _) := hB; clear hA hB))
        obtain ⟨d0, d1, d2⟩ := two_read HB.out (.string ⟨#[]⟩) (.bool true)
        refine bodyPost_ret (v := .tuple #[.agg #[.string ⟨#[]⟩, .bool true], .slice none 0 0]) (by simp [results, Try.results8, go_sem, d1, d2]) rfl ?_
        exact ⟨_, rfl, World.ownsRow_nil _ _ _ _, (hbb.setCell (by simp) _).setCell (by simp) _⟩
      | false =>
        clear hf
        have hoff := framesOff (r ++ c) (by rw [ByteArray.size_append]; omega)
        have ks : ¬ 9223372036854775807 < r.size + c.size := by omega
        have ks' : r.size + c.size ≤ 9223372036854775807 := by omega
        simp only [Bool.false_eq_true, if_false]
        generalize offs 1000001 (r ++ c) = F at hoff ⊢
        obtain ⟨ts, q, d⟩ := F
        go_enter Try.func8, Try.ntmps8
        go_wp2_with (first
          | (go_at_call 13; refine (hok _).mono ?_; rintro e w1 ⟨rfl, hb1⟩; obtain ⟨hA, hB, hz, hbb⟩ := made_two hb1; obtain ⟨a0, a1, g0, g1⟩ := two_cells hA; obtain ⟨c0, c1, f0, f1⟩ := two_cells hB; have HB : Hid (w1.heap[w.heap.size + 1]? = _) := hB; clear hA hB)
          | (go_at_call 21; refine (hoff _).mono ?_; rintro e w2 ⟨v, rfl, hown2, hb2⟩; obtain ⟨c0, c1, f0, f1⟩ := two_cells ((hb2.block (w.heap.size + 1) hz).trans HB.out)))
        obtain ⟨d0, d1, d2⟩ := two_read ((hb2.block (w.heap.size + 1) hz).trans HB.out) (.string q) (.bool d)
        refine bodyPost_ret (v := .tuple #[.agg #[.string q, .bool d], v]) (by simp [results, Try.results8, go_sem, d1, d2]) rfl ?_
        exact ⟨_, rfl, own_mono (ownsRow_setCell_below (ownsRow_setCell_below hown2 hz _) hz _) (by omega), ((hbb.trans (hb2.mono (by omega))).setCell (by simp) _).setCell (by simp) _⟩
    · rw [hf (fun x => hc x.2)]
      rw [h] at hok
      clear hf
      go_enter Try.func8, Try.ntmps8
      go_wp2_with (first
        | (go_at_call 13; refine (hok _).mono ?_; rintro e w1 ⟨rfl, hb1⟩; obtain ⟨hA, hB, hz, hbb⟩ := made_two hb1; obtain ⟨c0, c1, f0, f1⟩ := two_cells hB; have HB : Hid (w1.heap[w.heap.size + 1]? = _) := hB; clear hA hB))
      obtain ⟨d0, d1, d2⟩ := two_read HB.out (.string ⟨#[]⟩) (.bool false)
      refine bodyPost_ret (v := .tuple #[.agg #[.string ⟨#[]⟩, .bool false], .slice none 0 0]) (by simp [results, Try.results8, go_sem, d1, d2]) rfl ?_
      exact ⟨_, rfl, World.ownsRow_nil _ _ _ _, (hbb.setCell (by simp) _).setCell (by simp) _⟩
  · rw [hf (fun x => h x.1)]
    simp only [Bool.not_eq_true] at h
    rw [h] at hok
    clear hf
    go_enter Try.func8, Try.ntmps8
    go_wp2_with (first
      | (go_at_call 13; refine (hok _).mono ?_; rintro e w1 ⟨rfl, hb1⟩; obtain ⟨hA, hB, hz, hbb⟩ := made_two hb1; obtain ⟨c0, c1, f0, f1⟩ := two_cells hB; have HB : Hid (w1.heap[w.heap.size + 1]? = _) := hB; clear hA hB))
    obtain ⟨d0, d1, d2⟩ := two_read HB.out (.string ⟨#[]⟩) (.bool false)
    refine bodyPost_ret (v := .tuple #[.agg #[.string ⟨#[]⟩, .bool false], .slice none 0 0]) (by simp [results, Try.results8, go_sem, d1, d2]) rfl ?_
    exact ⟨_, rfl, World.ownsRow_nil _ _ _ _, (hbb.setCell (by simp) _).setCell (by simp) _⟩

theorem offs_length : ∀ (n : Nat) (s : ByteArray), (offs n s).1.length ≤ n
  | 0, s => by simp [offs]
  | n + 1, s => by
    rw [offs]
    split
    · simp
    · split
      · simp
      · split
        · simp
        · have := offs_length n (s.extract (2 + told s) s.size)
          simp
          omega

theorem fed_length (r : ByteArray) (b : Bool) (c : ByteArray) : (fed r b c).1.length ≤ 1000001 := by
  unfold fed
  split
  · split
    · simp
    · exact offs_length _ _
  · simp

end Go.Proofs.Ytnfgdaejfeiabaa
