/-
  slices.Index where the number is there; impl.renumbered.
-/
import Derived.Test.YtgpnoahmpmbgfaaDoorOrd14
import Derived.Test.YtgpnoahmpmbgfaaDoorSpl2
namespace Go.Proofs.YtgpnoahmpmbgfaaDoor
open Go.RowKit
set_option linter.unusedVariables false
set_option linter.unusedSimpArgs false
set_option maxHeartbeats 4000000
set_option maxRecDepth 20000

theorem sliceIndexAt (xs : List Int) (n : Int) (v : Value) (w : World) (hl : xs.length ≤ maxLen) (hm : n ∈ xs) (hv : Reads w v (ints xs)) :
    Calls Tryd.prog 77 #[v, .int .i64 n] w fun e w' => e = .returned (.int .i64 (pos14 xs n : Int)) ∧ w = w' := by
  unfold maxLen at hl
  obtain ⟨ao, cap, rfl, hc⟩ := hv
  rw [ints_length]
  have h1 := pos14_lt hm
  have h2 := pos14_get hm
  have h3 := @pos14_before xs n
  obtain ⟨B, hB⟩ : ∃ B, pos14 xs n = B := ⟨_, rfl⟩
  rw [hB] at h1 h2 ⊢
  have H3 : Hid (∀ j, j < B → xs[j]? ≠ some n) := fun j hj => h3 (by rw [hB]; exact hj)
  have H2 : Hid _ := h2
  clear hB h2 h3
  go_enter Tryd.func77, Tryd.ntmps77
  go_wp2
  go_loopw [8] (fun i wr => ∃ k : Nat, k ≤ B ∧ i = .int .i64 k ∧ w = wr) (fun i _ => xs.length - (intOf i).toNat)
  case atStart => exact ⟨0, Nat.zero_le _, rfl, rfl⟩
  case round =>
    obtain ⟨k, hk, rfl, rfl⟩ := hrel
    have hlt : k < xs.length := by omega
    have hlt' : (k : Int) < (xs.length : Int) := by omega
    obtain ⟨g, off, rfl, hg⟩ := hc k (.int .i64 xs[k]) (by simp [ints, hlt])
    have h5 : Hid (xs[k]? = some xs[k]) := List.getElem?_eq_getElem hlt
    clear hc
    generalize xs[k] = x at *
    by_cases hx : x = n
    · have hkB : Hid (k = B) := by
        show k = B
        rcases Nat.lt_or_ge k B with h | h
        · exact absurd (h5.out.trans (by rw [hx])) (H3.out k h)
        · omega
      have hx' : (n == x) = true := by simpa using hx.symm
      clear hx
      go_wp2
      go_ret
      obtain rfl := hkB.out
      exact ⟨rfl, rfl⟩
    · have hx' : (n == x) = false := by simpa using fun h => hx h.symm
      have hkB : k ≠ B := fun h => hx (by have := h5.out; rw [h, H2.out] at this; exact (Option.some.inj this).symm)
      clear hx
      go_wp2
      go_roundw
      case rel => exact ⟨k + 1, by omega, by go_num, by trivial⟩
      case measure => simp [intOf]; omega

theorem ren14_yes {R : List Int} {s : Stm} (h : s.k = 8) : ren14 R s = ⟨s.k, s.x, (pos14 R s.y : Int)⟩ := if_pos h
theorem ren14_no {R : List Int} {s : Stm} (h : ¬ s.k = 8) : ren14 R s = s := if_neg h

theorem renumbered (p : List Stm) (R : List Int) (u ov : Value) (w : World) (h0 : 0 < p.length) (hl : p.length ≤ 100) (hRl : R.length ≤ 100) (hin : ∀ s ∈ p, s.k = 8 → s.y ∈ R) (hu : Reads3 w u p) (hov : Reads w ov (ints R)) :
    Calls Tryd.prog 67 #[.agg #[u], ov] w fun e w' => ∃ g cap, e = .returned (.agg #[.slice (some ⟨g, 0, none⟩) p.length cap]) ∧
      w'.ownsRow w.heap.size 48 3 (.slice (some ⟨g, 0, none⟩) p.length cap) p.length (cells3 (p.map (ren14 R))) ∧ Below w.heap.size w w' := by
  obtain ⟨W0, hW0⟩ : ∃ W0, (w.alloc (.cells #[u] 45)).alloc (.cells #[.slice none 0 0] 45) = W0 := ⟨_, rfl⟩
  have b0 : Below w.heap.size w W0 := by rw [← hW0]; go_grown
  have s0 : W0.heap.size = w.heap.size + 2 := by rw [← hW0]; simp
  have H0 : W0.heap[w.heap.size]? = some (.cells #[u] 45 (0, 0)) := by rw [← hW0, old_block (by simp)]; exact heap_alloc_new w _
  have H1 : W0.heap[w.heap.size + 1]? = some (.cells #[.slice none 0 0] 45 (0, 0)) := by
    rw [← hW0]
    have := heap_alloc_new (w.alloc (.cells #[u] 45)) (.cells #[.slice none 0 0] 45)
    simpa using this
  have hcl := cloneStmts p u W0 h0 hl (reads3_below hu b0)
  have c0 := (one_cell H0).1
  have hov0 := hov
  obtain ⟨oa, ocap, rfl, _⟩ := hov
  have HW0 : Hid _ := hW0
  clear hW0
  obtain ⟨ua, uc, rfl, _⟩ := hu
  go_enter Tryd.func67, Tryd.ntmps67
  go_wp2_with fail
  rw [HW0.out]
  clear HW0
  go_wp2_with fail
  go_at_call 76
  refine hcl.mono ?_
  rintro e w1 ⟨g, cap, rfl, own1, b1⟩
  have s1 := b1.size
  have hg1 := (own1.lt g rfl)
  have HB1 : Hid (w1.heap[w.heap.size + 1]? = some (.cells #[.slice none 0 0] 45 (0, 0))) := (b1.block _ (by omega)).trans H1
  have L1 : Below w.heap.size w w1 := b0.trans (b1.mono (by omega))
  have hp0 := part14_zero (ren14 R) p
  have own2 : w1.ownsRow (w.heap.size + 2) 48 3 (.slice (some ⟨g, 0, none⟩) p.length cap) p.length (cells3 (part14 (ren14 R) p 0)) := by rw [hp0, ← s0]; exact own1
  obtain ⟨hg2, hg3⟩ := hg1
  have hgw : w.heap.size + 2 ≤ g := by omega
  clear hcl own1 hp0 H0 H1 c0 hg2 hg3 b0 b1 s0 s1
  have hN : ∃ N, p.length = N := ⟨_, rfl⟩
  obtain ⟨N, hN⟩ := hN
  have HN : Hid _ := hN
  rw [hN] at hl own2 ⊢
  clear hN
  go_wp2
  go_loopw [13] (fun i wr => ∃ j : Nat, j ≤ N ∧ i = .int .i64 j ∧ wr.ownsRow (w.heap.size + 2) 48 3 (.slice (some ⟨g, 0, none⟩) N cap) N (cells3 (part14 (ren14 R) p j)) ∧ wr.heap[w.heap.size + 1]? = some (.cells #[.slice none 0 0] 45 (0, 0)) ∧ Below w.heap.size w wr) (fun i _ => N - (intOf i).toNat)
  case atStart => exact ⟨0, Nat.zero_le _, rfl, own2, HB1.out, L1⟩
  case round =>
    obtain ⟨j, hj, rfl, own, B1, hb⟩ := hrel
    clear own2 HB1 L1
    have hXl := (Array.getElem?_eq_some_iff.1 B1).1
    by_cases hlt : j < N
    · have hlt' : (j : Int) < (N : Int) := by omega
      have hjp : j < p.length := by rw [HN.out]; exact hlt
      have hget := part14_get (ren14 R) p j hjp
      obtain ⟨e0, e1, e2⟩ := cells3_get _ j _ hget
      have q0 := (own.cellAt (j * 3) (by omega)).trans e0
      have q1 := (own.cellAt (j * 3 + 1) (by omega)).trans e1
      have q2 := (own.cellAt (j * 3 + 2) (by omega)).trans e2
      have hset := fun y => cells3_setY (part14 (ren14 R) p j) j p[j] y hget
      have hsuc := part14_succ (ren14 R) p j hjp
      have hsam := part14_same (ren14 R) p j hjp
      have hyes := @ren14_yes R p[j]
      have hno := @ren14_no R p[j]
      have hmem := hin p[j] (List.getElem_mem hjp)
      have hgl := (own.lt g rfl).2
      generalize p[j] = s at *
      obtain ⟨sk, sx, sy⟩ := s
      simp only at *
      have HSET : Hid _ := hset
      have HSUC : Hid _ := hsuc
      have HSAM : Hid _ := hsam
      have HYES : Hid _ := hyes
      have HNO : Hid _ := hno
      have bA : Below wr.heap.size wr (wr.alloc (.cells #[.int .i64 sk, .int .i64 sx, .int .i64 sy] 48)) := by go_grown
      have HBA : Hid (Below w.heap.size w (wr.alloc (.cells #[.int .i64 sk, .int .i64 sx, .int .i64 sy] 48))) := hb.trans (bA.mono hb.size)
      have HOA : Hid ((wr.alloc (.cells #[.int .i64 sk, .int .i64 sx, .int .i64 sy] 48)).ownsRow (w.heap.size + 2) 48 3 (.slice (some ⟨g, 0, none⟩) N cap) N (cells3 (part14 (ren14 R) p j))) := own_kept own bA
      have HXA : Hid _ := (bA.block _ hXl).trans B1
      have hq2 := (bA.cell (p := ⟨g, j * 3 + 2, none⟩) hgl).trans q2
      clear hset hsuc hsam hyes hno hget e0 e1 e2
      by_cases hk : sk = 8
      · subst hk
        have hmem := hmem rfl
        have hpl := pos14_lt hmem
        have hidx := sliceIndexAt R sy _ (wr.alloc (.cells #[.int .i64 8, .int .i64 sx, .int .i64 sy] 48)) (by unfold maxLen; omega) hmem (reads_below hov0 HBA.out)
        have HY : Hid _ := HYES.out rfl
        clear HYES HNO HSAM hmem bA
        go_wp2_with fail
        go_at_call 77
        refine hidx.mono ?_
        rintro e w2 ⟨rfl, rfl⟩
        clear hidx
        obtain ⟨P, hP⟩ : ∃ P, pos14 R sy = P := ⟨_, rfl⟩
        have HP : Hid _ := hP
        rw [hP] at hpl ⊢
        clear hP
        have f2 := World.ownsRow.frozenAt HOA.out (j * 3 + 2)
        generalize wr.alloc (.cells #[.int .i64 8, .int .i64 sx, .int .i64 sy] 48) = wA at *
        have HST : Hid ((wA.setCell ⟨g, j * 3 + 2, none⟩ (.int .i64 (P : Int))).ownsRow (w.heap.size + 2) 48 3 (.slice (some ⟨g, 0, none⟩) N cap) N ((cells3 (part14 (ren14 R) p j)).set (j * 3 + 2) (.int .i64 (P : Int)))) := (World.ownsRow.stored HOA.out (j * 3 + 2) (.int .i64 (P : Int))).1
        have HXS : Hid ((wA.setCell ⟨g, j * 3 + 2, none⟩ (.int .i64 (P : Int))).heap[w.heap.size + 1]? = some (.cells #[.slice none 0 0] 45 (0, 0))) := (Below.heap_setCell wA ⟨g, j * 3 + 2, none⟩ (.int .i64 (P : Int)) _ (by simp; omega)).trans HXA.out
        have HBS : Hid (Below w.heap.size w (wA.setCell ⟨g, j * 3 + 2, none⟩ (.int .i64 (P : Int)))) := HBA.out.setCell (by simp; omega) _
        go_wp2
        go_roundw
        case rel =>
          refine ⟨j + 1, by omega, by go_num, ?_, HXS.out, HBS.out⟩
          rw [HSUC.out, HY.out, HP.out]
          have h5 := HST.out
          rw [HSET.out (P : Int)] at h5
          exact h5
        case measure => simp [intOf]; omega
      · have hk' : (sk == 8) = false := by simpa using hk
        have HE : Hid _ := HSAM.out (HNO.out hk)
        clear HYES HNO HSAM hmem bA hk
        go_wp2
        go_roundw
        case rel => exact ⟨j + 1, by omega, by go_num, by rw [HE.out]; exact HOA.out, HXA.out, HBA.out⟩
        case measure => simp [intOf]; omega
    · have hjj : j = N := by omega
      subst hjj
      have hall := part14_all (ren14 R) p
      rw [HN.out] at hall
      rw [hall] at own
      obtain ⟨d1, f1⟩ := one_cell B1
      have d2 := (one_cell (one_set B1 (.slice (some ⟨g, 0, none⟩) j cap))).1
      have HO : Hid ((wr.setCell ⟨w.heap.size + 1, 0, none⟩ (.slice (some ⟨g, 0, none⟩) j cap)).ownsRow w.heap.size 48 3 (.slice (some ⟨g, 0, none⟩) j cap) j (cells3 (p.map (ren14 R)))) := own_mono (ownsRow_setCell_other own (fun e => by have := Option.some.inj e; simp at this; omega) _) (by omega)
      have HB : Hid (Below w.heap.size w (wr.setCell ⟨w.heap.size + 1, 0, none⟩ (.slice (some ⟨g, 0, none⟩) j cap))) := hb.setCell (by simp) _
      clear own hall
      go_wp2
      refine bodyPost_ret (v := .agg #[.slice (some ⟨g, 0, none⟩) j cap]) (by simp [results, Tryd.results67, go_sem, d2]) rfl ?_
      refine ⟨g, cap, ?_, ?_, HB.out⟩
      · rw [HN.out]
      · rw [HN.out]; exact HO.out

end Go.Proofs.YtgpnoahmpmbgfaaDoor
