/-
  Put together out of: Size, CallsFn.
-/
import Derived.Test.YtmophdojojcpbaaProgOk
import Derived.Test.YtmophdojojcpbaaPut
/-
  spec.Size, impl.Size.
-/
namespace Go.Proofs.Ytmophdojojcpbaa
open Go.RowKit
set_option linter.unusedVariables false
set_option maxHeartbeats 1000000

def sumLen : List (List Stm) → Nat
  | [] => 0
  | p :: ps => p.length + sumLen ps

theorem sumLen_append : ∀ a b : List (List Stm), sumLen (a ++ b) = sumLen a + sumLen b
  | [], b => by simp [sumLen]
  | p :: a, b => by simp [sumLen, sumLen_append a b]; omega

theorem sumLen_take (ps : List (List Stm)) (k : Nat) (h : k < ps.length) : sumLen (ps.take (k + 1)) = sumLen (ps.take k) + ps[k].length := by
  rw [List.take_succ_eq_append_getElem h, sumLen_append]
  simp [sumLen]

/-- What both answer: how many statements. -/
def sizeOf3 (ps : List (List Stm)) : Int := if programOk ps then (sumLen ps : Int) else -1

theorem programOk_len {ps : List (List Stm)} (h : programOk ps = true) : ps.length ≤ 4 ∧ 1 ≤ ps.length ∧ ∀ p ∈ ps, procOk p = true ∧ p.all (callOk ps.length) = true := by
  unfold programOk at h
  simp only [Bool.and_eq_true, decide_eq_true_eq] at h
  refine ⟨h.1.2, h.1.1, fun p hp => ?_⟩
  have := List.all_eq_true.1 h.2 p hp
  unfold partOk at this
  simpa [Bool.and_eq_true] using this

theorem procOk_len {p : List Stm} (h : procOk p = true) : p.length ≤ 12 := by
  unfold procOk at h
  simp only [Bool.and_eq_true, decide_eq_true_eq] at h
  exact h.1.1.2

end Go.Proofs.Ytmophdojojcpbaa

/-
  What a procedure calls: l3In, hasProc, l3Calls, calledBy, numbersIn.
-/
namespace Go.Proofs.Ytmophdojojcpbaa
open Go.RowKit
set_option linter.unusedVariables false
set_option maxHeartbeats 1000000

/-- Is there such a procedure? -/
def hasB (ps : List (List Stm)) (i : Int) : Bool := programOk ps && wiB i ps.length

theorem l3In (ps : List (List Stm)) (i : Int) (v : Value) (w : World) (hl : ps.length ≤ maxLen) (hp : ∀ p ∈ ps, p.length ≤ maxLen) (hv : ReadsP w v ps) :
    Calls Try.prog 56 #[.agg #[v], .int .i64 i] w fun e w' => e = .returned (.bool (hasB ps i)) ∧ Below w.heap.size w w' := by
  have hb0 : Below w.heap.size w (w.alloc (.cells #[v] 26)) := by go_grown
  have he := specProgramOk ps v _ hl hp (readsP_below hv hb0)
  have H0 := heap_alloc_new w (.cells #[v] 26)
  have s0 : (w.alloc (.cells #[v] 26)).heap.size = w.heap.size + 1 := by simp
  unfold maxLen at hl
  unfold hasB
  cases hok : programOk ps
  · rw [hok] at he
    clear hv
    go_enter Try.func56, Try.ntmps56
    go_wp2_with (go_at_call 16; refine he.mono ?_; rintro e w2 ⟨rfl, b2⟩)
    go_ret
    exact ⟨rfl, hb0.trans (b2.mono hb0.size)⟩
  · rw [hok] at he
    clear hok
    have hin : ∀ W, Calls Try.prog 82 #[.int .i64 i, .int .i64 0, .int .i64 ((ps.length : Int) - 1)] W fun e w' => e = .returned (.bool (wiB i ps.length)) ∧ W = w' := by
      intro W
      have := l1In i 0 ((ps.length : Int) - 1) W
      rw [inB_wi, Int.sub_add_cancel] at this
      exact this
    go_enter Try.func56, Try.ntmps56
    go_wp2_with fail
    go_at_call 16
    refine he.mono ?_
    rintro e w2 ⟨rfl, b2⟩
    obtain ⟨c2, f2⟩ := one_cell ((b2.block w.heap.size (by omega)).trans H0)
    obtain ⟨ao, cap, rfl, hc⟩ := hv
    clear he
    go_wp2_with (go_at_call 82; refine (hin _).mono ?_; rintro e w3 ⟨rfl, rfl⟩)
    go_ret
    exact ⟨rfl, hb0.trans (b2.mono hb0.size)⟩

theorem hasProc (ps : List (List Stm)) (i : Int) (v : Value) (w : World) (hl : ps.length ≤ maxLen) (hp : ∀ p ∈ ps, p.length ≤ maxLen) (hv : ReadsP w v ps) :
    Calls Try.prog 59 #[.agg #[v], .int .i64 i] w fun e w' => e = .returned (.bool (hasB ps i)) ∧ Below w.heap.size w w' := by
  have hb0 : Below w.heap.size w (w.alloc (.cells #[v] 26)) := by go_grown
  have he := implProgramOk ps v _ hl hp (readsP_below hv hb0)
  have H0 := heap_alloc_new w (.cells #[v] 26)
  have s0 : (w.alloc (.cells #[v] 26)).heap.size = w.heap.size + 1 := by simp
  unfold maxLen at hl
  unfold hasB
  cases hok : programOk ps
  · rw [hok] at he
    clear hv
    go_enter Try.func59, Try.ntmps59
    go_wp2_with (go_at_call 75; refine he.mono ?_; rintro e w2 ⟨rfl, b2⟩)
    go_ret
    exact ⟨rfl, hb0.trans (b2.mono hb0.size)⟩
  · rw [hok] at he
    clear hok
    have hin := within i ps.length
    go_enter Try.func59, Try.ntmps59
    go_wp2_with fail
    go_at_call 75
    refine he.mono ?_
    rintro e w2 ⟨rfl, b2⟩
    obtain ⟨c2, f2⟩ := one_cell ((b2.block w.heap.size (by omega)).trans H0)
    obtain ⟨ao, cap, rfl, hc⟩ := hv
    clear he
    go_wp2_with (go_at_call 54; refine (hin _).mono ?_; rintro e w3 ⟨rfl, rfl⟩)
    go_ret
    exact ⟨rfl, hb0.trans (b2.mono hb0.size)⟩

/-- The procedures that a procedure calls, rising. -/
def putCall (acc : List Int) (s : Stm) : List Int := if s.k = 8 then ins s.y acc else acc
def callsOf (p : List Stm) : List Int := p.foldl putCall []

theorem ins_length (n : Int) : ∀ xs, (ins n xs).length ≤ xs.length + 1
  | [] => by simp [ins]
  | x :: xs => by
    have := ins_length n xs
    unfold ins
    split
    · simp; omega
    · split <;> simp

theorem callsOf_snoc (p : List Stm) (k : Nat) (h : k < p.length) : callsOf (p.take (k + 1)) = putCall (callsOf (p.take k)) p[k] := by
  rw [callsOf, List.take_succ_eq_append_getElem h, List.foldl_append]
  rfl

theorem callsOf_length (p : List Stm) : (callsOf p).length ≤ p.length := by
  have key : ∀ (p : List Stm) (acc : List Int), (p.foldl putCall acc).length ≤ acc.length + p.length := by
    intro p
    induction p with
    | nil => intro acc; simp
    | cons s p ih =>
      intro acc
      have h1 := ih (putCall acc s)
      have h2 : (putCall acc s).length ≤ acc.length + 1 := by
        unfold putCall
        split
        · exact ins_length _ _
        · omega
      simp only [List.foldl_cons, List.length_cons]
      omega
  simpa [callsOf] using key p []

theorem l3Calls (ps : List (List Stm)) (i : Nat) (v : Value) (w : World) (hi : i < ps.length) (hl : ps.length ≤ maxLen) (hp : ps[i].length ≤ 12) (hv : ReadsP w v ps) :
    Calls Try.prog 92 #[.agg #[v], .int .i64 i] w fun e w' =>
      ∃ g cap, e = .returned (.slice (some ⟨g, 0, none⟩) (callsOf ps[i]).length cap) ∧ w'.ownsRow w.heap.size 2 1 (.slice (some ⟨g, 0, none⟩) (callsOf ps[i]).length cap) (callsOf ps[i]).length (ints (callsOf ps[i])) ∧ Below w.heap.size w w' := by
  unfold maxLen at hl
  obtain ⟨ao, cap, rfl, hc⟩ := hv
  obtain ⟨g, off, u, rfl, p0, r0⟩ := hc i ps[i] (by simp [hi])
  have pB := World.block_lt_of_cell? w _ p0
  have hi' : (i : Int) < (ps.length : Int) := by omega
  clear hc
  generalize ps[i] = q at *
  obtain ⟨ua, uc, rfl, hd⟩ := r0
  have hq : (q.length : Int) ≤ 12 := by omega
  obtain ⟨R, hR⟩ : ∃ R, callsOf q = R := ⟨_, rfl⟩
  rw [hR]
  have HR : Hid _ := hR
  clear hR
  go_enter Try.func92, Try.ntmps92
  go_wp2
  have hb0 : Below w.heap.size w ((w.alloc (.cells #[.slice (some ⟨g, off, none⟩) ps.length cap] 26)).alloc (.cells #[] 2)) := by go_grown
  have m0 := own_mono (made0 (w.alloc (.cells #[.slice (some ⟨g, off, none⟩) ps.length cap] 26))) (base' := w.heap.size) (by simp)
  have z0 : (w.alloc (.cells #[.slice (some ⟨g, off, none⟩) ps.length cap] 26)).heap.size = w.heap.size + 1 := by simp
  rw [z0] at m0
  go_loopw [5, 7] (fun o i wr => ∃ (k g' cap' : Nat), k ≤ q.length ∧ i = .int .i64 k ∧ o = .slice (some ⟨g', 0, none⟩) (callsOf (q.take k)).length cap' ∧
      wr.ownsRow w.heap.size 2 1 (.slice (some ⟨g', 0, none⟩) (callsOf (q.take k)).length cap') (callsOf (q.take k)).length (ints (callsOf (q.take k))) ∧ Below w.heap.size w wr) (fun _ i _ => q.length - (intOf i).toNat)
  case atStart => exact ⟨0, w.heap.size + 1, 0, Nat.zero_le _, rfl, rfl, by simpa [callsOf, ints] using m0, hb0⟩
  case round =>
    obtain ⟨k, g', cap', hk, rfl, rfl, hown, hb⟩ := hrel
    by_cases hlt : k < q.length
    · have hlt' : (k : Int) < (q.length : Int) := by omega
      obtain ⟨g2, off2, rfl, a0, a1, a2⟩ := hd k q[k] (by simp [hlt])
      have aB := World.block_lt_of_cell? w _ a0
      have a0 := (hb.cell aB).trans a0
      have a1 := (hb.cell (p := ⟨g2, off2 + k * 3 + 1, none⟩) aB).trans a1
      have a2 := (hb.cell (p := ⟨g2, off2 + k * 3 + 2, none⟩) aB).trans a2
      have hsn : Hid _ := callsOf_snoc q k hlt
      have hlen := callsOf_length (q.take k)
      have hlen2 : (q.take k).length ≤ k := List.length_take_le _ _
      clear hd
      generalize q[k] = s at *
      obtain ⟨sk, sx, sy⟩ := s
      simp only at a0 a1 a2
      generalize callsOf (q.take k) = xs at *
      by_cases h8 : sk = 8
      · subst h8
        have HP : Hid (callsOf (q.take (k + 1)) = ins sy xs) := hsn.out.trans (by simp [putCall])
        have hput := l1Put xs sy g' cap' w.heap.size wr (by omega) hb.size hown
        clear hsn
        go_wp2_with fail
        go_at_call 91
        refine hput.mono ?_
        rintro e w2 ⟨g3, cap3, rfl, own3, b3⟩
        clear hput
        go_wp2
        go_roundw
        case rel => exact ⟨k + 1, g3, cap3, by omega, by go_num, by rw [HP.out], by rw [HP.out]; exact own3, hb.trans (b3.mono hb.size)⟩
        case measure => simp [intOf]; omega
      · have HP : Hid (callsOf (q.take (k + 1)) = xs) := hsn.out.trans (by simp [putCall, h8])
        have h8' : (sk == 8) = false := by simpa using h8
        clear hsn
        go_wp2
        go_roundw
        case rel => exact ⟨k + 1, g', cap', by omega, by go_num, by rw [HP.out], by rw [HP.out]; exact hown, hb⟩
        case measure => simp [intOf]; omega
    · have hkk : k = q.length := by omega
      subst hkk
      rw [List.take_length, HR.out] at hown
      have HRR : Hid (callsOf (q.take q.length) = R) := by
        show callsOf (q.take q.length) = R
        rw [List.take_length, HR.out]
      go_wp2
      go_ret
      exact ⟨g', cap', by rw [HRR.out]; rfl, hown, hb⟩

end Go.Proofs.Ytmophdojojcpbaa
