/-
  impl.calledBy; spec.Calls, impl.Calls.
-/
import Derived.Test.YtmloeldgeegddaaCalled
namespace Go.Proofs.Ytmloeldgeegddaa
open Go.RowKit
set_option linter.unusedVariables false
set_option maxHeartbeats 1000000

theorem four_set {w : World} {b : Nat} {p0 p1 p2 p3 : Value} {t : TypeId} (h : w.heap[b]? = some (.cells #[p0, p1, p2, p3] t (0, 0))) (x0 x1 x2 x3 : Value) :
    ((((w.setCell ⟨b, 0, none⟩ x0).setCell ⟨b, 1, none⟩ x1).setCell ⟨b, 2, none⟩ x2).setCell ⟨b, 3, none⟩ x3).heap[b]? = some (.cells #[x0, x1, x2, x3] t (0, 0)) := by
  have h1 := heap_setCell_same w b 0 _ t x0 h
  have h2 := heap_setCell_same _ b 1 _ t x1 h1
  have h3 := heap_setCell_same _ b 2 _ t x2 h2
  have h4 := heap_setCell_same _ b 3 _ t x3 h3
  simpa using h4

abbrev b4 (p : List Stm) : Array Value := #[.bool (called p 0), .bool (called p 1), .bool (called p 2), .bool (called p 3)]

theorem calledBy (p : List Stm) (v : Value) (w : World) (hl : p.length ≤ 12) (hok : ∀ s ∈ p, stmtOk s.k s.x s.y = true) (hv : Reads3 w v p) :
    Calls Try.prog 48 #[.agg #[v]] w fun e w' => e = .returned (.agg #[.bool (called p 0), .bool (called p 1), .bool (called p 2), .bool (called p 3)]) ∧ Below w.heap.size w w' := by
  obtain ⟨ao, cap, rfl, hc⟩ := hv
  have hq : (p.length : Int) ≤ 12 := by omega
  go_enter Try.func48, Try.ntmps48
  go_wp2
  have hl3 := laid3 (w := w) (a := .cells #[.slice ao p.length cap] 34) (b := .cells #[.bool false, .bool false, .bool false, .bool false] 62) (c := .cells #[.bool false, .bool false, .bool false, .bool false] 62) (Below.refl _ _)
  obtain ⟨_, K1, K2, K3, K4⟩ := hl3
  generalize ((w.alloc (.cells #[.slice ao p.length cap] 34)).alloc (.cells #[.bool false, .bool false, .bool false, .bool false] 62)).alloc (.cells #[.bool false, .bool false, .bool false, .bool false] 62) = W at *
  go_loopw [9] (fun i wr => ∃ (k : Nat), k ≤ p.length ∧ i = .int .i64 k ∧ wr.heap[w.heap.size + 1 + 1]? = some (.cells #[.bool (called (p.take k) 0), .bool (called (p.take k) 1), .bool (called (p.take k) 2), .bool (called (p.take k) 3)] 62 (0, 0)) ∧
      wr.heap[w.heap.size + 1]? = some (.cells #[.bool false, .bool false, .bool false, .bool false] 62 (0, 0)) ∧ w.heap.size + 3 ≤ wr.heap.size ∧ Below w.heap.size w wr) (fun i _ => p.length - (intOf i).toNat)
  case atStart => exact ⟨0, Nat.zero_le _, rfl, by simpa [called] using K2, K1, K3, K4⟩
  case round =>
    obtain ⟨k, hk, rfl, H2, H1, hsz, hb⟩ := hrel
    by_cases hlt : k < p.length
    · have hlt' : (k : Int) < (p.length : Int) := by omega
      obtain ⟨g, off, rfl, a0, a1, a2⟩ := hc k p[k] (by simp [hlt])
      have aB := World.block_lt_of_cell? w _ a0
      have a0 := (hb.cell aB).trans a0
      have a1 := (hb.cell (p := ⟨g, off + k * 3 + 1, none⟩) aB).trans a1
      have a2 := (hb.cell (p := ⟨g, off + k * 3 + 2, none⟩) aB).trans a2
      have hsk := hok p[k] (List.getElem_mem hlt)
      have hcs := called_snoc p k hlt
      clear hc hok K1 K2 K3 K4
      generalize p[k] = s at *
      obtain ⟨sk, sx, sy⟩ := s
      simp only at a0 a1 a2 hsk hcs
      obtain ⟨c0, c1, c2, c3, f0, f1, f2, f3⟩ := four_cellsC H2
      have HH1 : Hid (wr.heap[w.heap.size + 1]? = some (.cells #[.bool false, .bool false, .bool false, .bool false] 62 (0, 0))) := H1
      have HH2 : Hid _ := H2
      have HC : Hid _ := hcs
      clear H1 H2 hcs
      have hz2 : w.heap.size + 1 + 1 < wr.heap.size := by omega
      by_cases h8 : sk = 8
      · subst h8
        have hy := stmtOk_call hsk
        have hy' : sy = 0 ∨ sy = 1 ∨ sy = 2 ∨ sy = 3 := by omega
        clear hy hsk
        rcases hy' with rfl | rfl | rfl | rfl
        · have G2 : Hid _ := heap_setCell_same wr (w.heap.size + 1 + 1) 0 _ 62 (.bool true) HH2.out
          go_wp2
          go_roundw
          case rel =>
            refine ⟨k + 1, by omega, by go_num, ?_, ?_, by simp; omega, (hb.setCell (by simp; omega) _).alloc (by simp; exact hb.size) _⟩
            · rw [old_block (by simp; omega), G2.out, HC.out, HC.out, HC.out, HC.out]; simp
            · rw [old_block (by simp; omega), Below.heap_setCell _ _ _ _ (by simp)]; exact HH1.out
          case measure => simp [intOf]; omega
        · have G2 : Hid _ := heap_setCell_same wr (w.heap.size + 1 + 1) 1 _ 62 (.bool true) HH2.out
          go_wp2
          go_roundw
          case rel =>
            refine ⟨k + 1, by omega, by go_num, ?_, ?_, by simp; omega, (hb.setCell (by simp; omega) _).alloc (by simp; exact hb.size) _⟩
            · rw [old_block (by simp; omega), G2.out, HC.out, HC.out, HC.out, HC.out]; simp
            · rw [old_block (by simp; omega), Below.heap_setCell _ _ _ _ (by simp)]; exact HH1.out
          case measure => simp [intOf]; omega
        · have G2 : Hid _ := heap_setCell_same wr (w.heap.size + 1 + 1) 2 _ 62 (.bool true) HH2.out
          go_wp2
          go_roundw
          case rel =>
            refine ⟨k + 1, by omega, by go_num, ?_, ?_, by simp; omega, (hb.setCell (by simp; omega) _).alloc (by simp; exact hb.size) _⟩
            · rw [old_block (by simp; omega), G2.out, HC.out, HC.out, HC.out, HC.out]; simp
            · rw [old_block (by simp; omega), Below.heap_setCell _ _ _ _ (by simp)]; exact HH1.out
          case measure => simp [intOf]; omega
        · have G2 : Hid _ := heap_setCell_same wr (w.heap.size + 1 + 1) 3 _ 62 (.bool true) HH2.out
          go_wp2
          go_roundw
          case rel =>
            refine ⟨k + 1, by omega, by go_num, ?_, ?_, by simp; omega, (hb.setCell (by simp; omega) _).alloc (by simp; exact hb.size) _⟩
            · rw [old_block (by simp; omega), G2.out, HC.out, HC.out, HC.out, HC.out]; simp
            · rw [old_block (by simp; omega), Below.heap_setCell _ _ _ _ (by simp)]; exact HH1.out
          case measure => simp [intOf]; omega
      · have h8' : (sk == 8) = false := by simpa using h8
        clear hsk
        go_wp2
        go_roundw
        case rel =>
          refine ⟨k + 1, by omega, by go_num, ?_, ?_, by simp; omega, hb.alloc hb.size _⟩
          · rw [old_block (by omega), HH2.out, HC.out, HC.out, HC.out, HC.out]; simp [h8]
          · rw [old_block (by omega)]; exact HH1.out
        case measure => simp [intOf]; omega
    · have hkk : k = p.length := by omega
      subst hkk
      rw [List.take_length] at H2
      obtain ⟨c0, c1, c2, c3, f0, f1, f2, f3⟩ := four_cellsC H2
      obtain ⟨e0, e1, e2, e3, i0, i1, i2, i3⟩ := four_cellsC H1
      have G := four_set H1 (.bool (called p 0)) (.bool (called p 1)) (.bool (called p 2)) (.bool (called p 3))
      obtain ⟨d0, d1, d2, d3, _⟩ := four_cellsC G
      clear H1 H2 G K1 K2 K3 K4 hc
      go_wp2
      refine bodyPost_ret (v := .agg #[.bool (called p 0), .bool (called p 1), .bool (called p 2), .bool (called p 3)]) (by simp [results, Try.results48, go_sem, d0, d1, d2, d3]) rfl ?_
      exact ⟨rfl, (((hb.setCell (by simp) _).setCell (by simp) _).setCell (by simp) _).setCell (by simp) _⟩

/-- What both answer. -/
def callsAns (ps : List (List Stm)) (i : Int) : List Int := if hasB ps i then callsOf (ps.getD i.toNat []) else []

theorem hasB_true {ps : List (List Stm)} {i : Int} (h : hasB ps i = true) : programOk ps = true ∧ ∃ (j : Nat) (hj : j < ps.length), i = (j : Int) ∧ ps.getD i.toNat [] = ps[j] ∧ ps[j].length ≤ 12 ∧ ∀ s ∈ ps[j], stmtOk s.k s.x s.y = true := by
  unfold hasB wiB at h
  simp only [Bool.and_eq_true, decide_eq_true_eq] at h
  obtain ⟨h1, h2, h3⟩ := h
  have hj : i.toNat < ps.length := by omega
  obtain ⟨_, _, hpr⟩ := programOk_len h1
  have hm := hpr ps[i.toNat] (List.getElem_mem hj)
  exact ⟨h1, i.toNat, hj, by omega, by simp [List.getD, hj], procOk_len hm.1, fun s hs => procOk_stm hm.1 hs⟩

theorem callsAns_length (ps : List (List Stm)) (i : Int) : (callsAns ps i).length ≤ 12 := by
  unfold callsAns
  cases hok : hasB ps i
  · simp
  · rw [if_pos rfl]
    obtain ⟨_, j, hj, rfl, hg, h12, _⟩ := hasB_true hok
    rw [hg]
    have := callsOf_length ps[j]
    omega

theorem nilOwn (w : World) (base : Nat) : w.ownsRow base 2 1 (.slice none 0 0) ([] : List Int).length (ints []) := ⟨by simp [ints], .inl ⟨rfl, rfl⟩⟩

theorem specCalls (ps : List (List Stm)) (i : Int) (v : Value) (w : World) (hl : ps.length ≤ maxLen) (hp : ∀ p ∈ ps, p.length ≤ maxLen) (hv : ReadsP w v ps) :
    Calls Try.prog 15 #[.agg #[v], .int .i64 i] w fun e w' => ∃ u, e = .returned u ∧ w'.ownsRow w.heap.size 2 1 u (callsAns ps i).length (ints (callsAns ps i)) ∧ Below w.heap.size w w' := by
  have hb0 : Below w.heap.size w (w.alloc (.cells #[v] 26)) := by go_grown
  have he := l3In ps i v _ hl hp (readsP_below hv hb0)
  have H0 := heap_alloc_new w (.cells #[v] 26)
  have s0 : (w.alloc (.cells #[v] 26)).heap.size = w.heap.size + 1 := by simp
  unfold callsAns
  cases hok : hasB ps i
  · rw [hok] at he
    go_enter Try.func15, Try.ntmps15
    go_wp2_with (go_at_call 54; refine he.mono ?_; rintro e w2 ⟨rfl, b2⟩)
    go_ret
    have L2 := hb0.trans (b2.mono hb0.size)
    exact ⟨_, rfl, by simpa [ints] using own_mono (made0 w2) L2.size, L2.alloc L2.size _⟩
  · rw [hok] at he
    rw [if_pos rfl]
    obtain ⟨_, j, hj, rfl, hg, h12, hst⟩ := hasB_true hok
    rw [hg]
    clear hok
    go_enter Try.func15, Try.ntmps15
    go_wp2_with fail
    go_at_call 54
    refine he.mono ?_
    rintro e w2 ⟨rfl, b2⟩
    obtain ⟨c2, f2⟩ := one_cell ((b2.block w.heap.size (by omega)).trans H0)
    have L2 := hb0.trans (b2.mono hb0.size)
    have h3 := l3Calls ps j v w2 hj hl h12 (readsP_below hv L2)
    clear he
    go_wp2_with fail
    go_at_call 55
    refine h3.mono ?_
    rintro e w3 ⟨g, cap, rfl, own3, b3⟩
    go_wp2
    go_ret
    exact ⟨_, rfl, own_mono own3 L2.size, L2.trans (b3.mono L2.size)⟩

theorem implCalls (ps : List (List Stm)) (i : Int) (v : Value) (w : World) (hl : ps.length ≤ maxLen) (hp : ∀ p ∈ ps, p.length ≤ maxLen) (hv : ReadsP w v ps) :
    Calls Try.prog 9 #[.agg #[v], .int .i64 i] w fun e w' => ∃ u, e = .returned u ∧ w'.ownsRow w.heap.size 2 1 u (callsAns ps i).length (ints (callsAns ps i)) ∧ Below w.heap.size w w' := by
  have hb0 : Below w.heap.size w (w.alloc (.cells #[v] 26)) := by go_grown
  have he := hasProc ps i v _ hl hp (readsP_below hv hb0)
  have H0 := heap_alloc_new w (.cells #[v] 26)
  have s0 : (w.alloc (.cells #[v] 26)).heap.size = w.heap.size + 1 := by simp
  unfold callsAns
  cases hok : hasB ps i
  · rw [hok] at he
    go_enter Try.func9, Try.ntmps9
    go_wp2_with (go_at_call 47; refine he.mono ?_; rintro e w2 ⟨rfl, b2⟩)
    go_ret
    exact ⟨_, rfl, nilOwn _ _, hb0.trans (b2.mono hb0.size)⟩
  · rw [hok] at he
    rw [if_pos rfl]
    obtain ⟨_, j, hj, rfl, hg, h12, hst⟩ := hasB_true hok
    rw [hg, callsOf_eq ps[j] hst]
    obtain ⟨q0, e0⟩ : ∃ q, called ps[j] 0 = q := ⟨_, rfl⟩
    obtain ⟨q1, e1⟩ : ∃ q, called ps[j] 1 = q := ⟨_, rfl⟩
    obtain ⟨q2, e2⟩ : ∃ q, called ps[j] 2 = q := ⟨_, rfl⟩
    obtain ⟨q3, e3⟩ : ∃ q, called ps[j] 3 = q := ⟨_, rfl⟩
    have hcb := calledBy ps[j]
    rw [e0, e1, e2, e3] at hcb ⊢
    clear e0 e1 e2 e3
    clear hok
    go_enter Try.func9, Try.ntmps9
    go_wp2_with fail
    go_at_call 47
    refine he.mono ?_
    rintro e w2 ⟨rfl, b2⟩
    obtain ⟨c2, f2⟩ := one_cell ((b2.block w.heap.size (by omega)).trans H0)
    have L2 := hb0.trans (b2.mono hb0.size)
    obtain ⟨ao, cap, rfl, hc⟩ := readsP_below hv L2
    obtain ⟨g, off, u, rfl, p0, r0⟩ := hc j ps[j] (by simp [hj])
    have hj' : (j : Int) < (ps.length : Int) := by omega
    have h3 := hcb u w2 h12 hst r0
    clear hcb
    have hn := fun b0 b1 b2 b3 => numbersIn [b0, b1, b2, b3]
    clear he hc hg hst hv H0
    unfold maxLen at hl
    obtain ⟨ua, un, uc, rfl⟩ := reads3_slice r0
    go_wp2_with fail
    go_at_call 48
    refine h3.mono ?_
    rintro e w3 ⟨rfl, b3⟩
    clear h3
    have L3 := L2.trans (b3.mono L2.size)
    have rd : Reads (w3.alloc (.cells #[.bool q0, .bool q1, .bool q2, .bool q3] 62)) (.slice (some ⟨w3.heap.size, 0, none⟩) 4 4) ([q0, q1, q2, q3].map .bool) := by
      refine ⟨some ⟨w3.heap.size, 0, none⟩, 4, rfl, fun k x hx => ⟨w3.heap.size, 0, rfl, ?_⟩⟩
      obtain ⟨d0, d1, d2, d3, _⟩ := four_cellsC (heap_alloc_new w3 (.cells #[.bool q0, .bool q1, .bool q2, .bool q3] 62))
      have hk : k < 4 := (List.getElem?_eq_some_iff.1 hx).1
      have : k = 0 ∨ k = 1 ∨ k = 2 ∨ k = 3 := by omega
      rcases this with rfl | rfl | rfl | rfl <;> simp at hx <;> subst hx <;> assumption
    have b4 : Below w3.heap.size w3 (w3.alloc (.cells #[.bool q0, .bool q1, .bool q2, .bool q3] 62)) := by go_grown
    go_wp2_with fail
    go_at_call 49
    refine (hn q0 q1 q2 q3 _ _ (by simp) rd).mono ?_
    rintro e w5 ⟨u5, rfl, own5, b5⟩
    go_wp2
    go_ret
    have L4 := L3.trans (b4.mono L3.size)
    exact ⟨_, rfl, own_mono own5 L4.size, L4.trans (b5.mono L4.size)⟩

end Go.Proofs.Ytmloeldgeegddaa
