/-
  spec.Gate.
-/
import Derived.Test.YtjlfmjoallnojacGateM
import Derived.Test.YtjlfmjoallnojacSpecGates
import Derived.Deep.RegionHeld3
namespace Go.Proofs.Ytjlfmjoallnojac
open Go.RowKit
set_option linter.unusedVariables false
set_option linter.unusedSimpArgs false
set_option maxHeartbeats 4000000

theorem specGate (ss : List Stm) (n : Int) (v : Value) (w : World) (hl : ss.length ≤ maxLen) (hv : Reads3 w v ss) :
    Calls Try.prog 10 #[.agg #[v], .int .i64 n] w fun e w' => e = .returned (.int .i64 (gateAns ss n)) ∧ Below w.heap.size w w' := by
  have hb0 : Below w.heap.size w (w.alloc (.cells #[v] 26)) := by go_grown
  have H0 := heap_alloc_new w (.cells #[v] 26)
  have s0 : (w.alloc (.cells #[v] 26)).heap.size = w.heap.size + 1 := by simp
  obtain ⟨A, hA1, hA2, hA3⟩ : ∃ A : List Int, (hasS ss n = true → A = gatesL ss n) ∧ (hasS ss n = false → A = []) ∧ A.length ≤ 12 := by
    cases h : hasS ss n
    · exact ⟨[], by simp, by simp, by simp⟩
    · obtain ⟨hp, _⟩ := hasS_true h
      exact ⟨gatesL ss n, by simp, by simp, Nat.le_trans (gatesL_length ss n) (procOk_parts hp).2.1⟩
  have hg := specGates ss n A (fun h => hA1 h ▸ gatesL_is ss n) hA2 v _ hl (reads3_below hv hb0)
  have hans : gateAns ss n = (A.find? (goodGate ss n)).getD (-1) := by
    unfold gateAns
    cases h : hasS ss n
    · rw [hA2 h]; rfl
    · rw [hA1 h]; rfl
  have hin : ∀ x ∈ A, procOk ss = true ∧ A = gatesL ss n ∧ ∃ d : Nat, x = (d : Int) ∧ d < ss.length := fun x hx => by
    cases h : hasS ss n
    · rw [hA2 h] at hx; simp at hx
    · obtain ⟨hp, _⟩ := hasS_true h
      rw [hA1 h] at hx
      obtain ⟨d, i, e, _, hd⟩ := gatesL_in hx
      exact ⟨hp, hA1 h, d, e, hd.2.1⟩
  have HANS : Hid (gateAns ss n = (A.find? (goodGate ss n)).getD (-1)) := hans
  have HIN : Hid (∀ x ∈ A, procOk ss = true ∧ A = gatesL ss n ∧ ∃ d : Nat, x = (d : Int) ∧ d < ss.length) := hin
  clear hA1 hA2 hans hin
  go_enter Try.func10, Try.ntmps10
  go_wp2_with fail
  go_at_call 9
  refine hg.mono ?_
  rintro e w1 ⟨u, rfl, own1, b1⟩
  clear hg
  have L1 := hb0.trans (b1.mono hb0.size)
  have B1 := (b1.block w.heap.size (by omega)).trans H0
  have own1' := own_mono own1 (show w.heap.size + 1 ≤ (w.alloc (.cells #[v] 26)).heap.size by omega)
  obtain ⟨ao, cap, rfl, -⟩ := reads_own own1
  rw [ints_length] at own1' ⊢
  obtain ⟨u, hu⟩ : ∃ u, u = Value.slice ao A.length cap := ⟨_, rfl⟩
  rw [← hu] at own1'
  clear own1 b1
  go_wp2_with fail
  go_loopw [6] (fun iv wr => ∃ k : Nat, k ≤ A.length ∧ iv = .int .i64 k ∧ (∀ x ∈ A.take k, goodGate ss n x = false) ∧ wr.ownsRow (w.heap.size + 1) 2 1 u A.length (ints A) ∧ Below w.heap.size w wr ∧ wr.heap[w.heap.size]? = some (.cells #[v] 26 (0, 0))) (fun iv _ => A.length - (intOf iv).toNat)
  case atStart => exact ⟨0, Nat.zero_le _, rfl, by simp, own1', L1, B1⟩
  case round =>
    obtain ⟨k, hk, rfl, hno, hO, hL, hX⟩ := hrel
    obtain ⟨wa, hwa⟩ : ∃ x, x = wr := ⟨_, rfl⟩
    subst hwa
    clear own1' L1 B1
    have HNO : Hid (∀ x ∈ A.take k, goodGate ss n x = false) := hno
    clear hno
    by_cases hlt : k < A.length
    · have hlt' : (k : Int) < (A.length : Int) := by omega
      obtain ⟨hp, hAg, d, hd, hdl⟩ := HIN.out _ (List.getElem_mem hlt)
      have HAG : Hid (A = gatesL ss n) := hAg
      have HD : Hid (A[k] = (d : Int)) := hd
      have htk : Hid (A.take (k + 1) = A.take k ++ [(d : Int)]) := by
        show A.take (k + 1) = _
        rw [List.take_succ_eq_append_getElem hlt, hd]
      have hcA : ∀ (W : World) (j : Nat) (x : Int), W.ownsRow (w.heap.size + 1) 2 1 u A.length (ints A) → A[j]? = some x → ∃ g off, ao = some ⟨g, off, none⟩ ∧ W.cell? ⟨g, off + j, none⟩ = some (.int .i64 x) := fun W j x hW hx => by
        obtain ⟨ao', cap', e', hc'⟩ := reads_own hW
        rw [hu] at e'
        obtain ⟨rfl, -, rfl⟩ : ao = ao' ∧ A.length = (ints A).length ∧ cap = cap' := by simpa using e'
        exact hc' j (.int .i64 x) (by simp [ints, hx])
      obtain ⟨g, off, hao, cA⟩ := hcA wa k d hO (by rw [List.getElem?_eq_getElem hlt, hd])
      subst hao
      obtain ⟨p0, pf0⟩ := one_cell hX
      have gA := World.block_lt_of_cell? wa _ cA
      have pB := (Array.getElem?_eq_some_iff.1 hX).1
      clear hAg hd
      by_cases hdn : (d : Int) = n
      · have hbq : ((d : Int) == n) = true := by simpa using hdn
        have HBAD : Hid (goodGate ss n d = false) := by
          show goodGate ss n d = false
          cases h : goodGate ss n d
          · rfl
          · exact absurd hdn ((goodGate_iff ss n d).1 h).1
        clear hcA hdn
        go_wp2
        go_roundw
        case rel =>
          refine ⟨k + 1, by omega, by go_num, fun x hx => ?_, hO, hL, hX⟩
          rw [htk.out] at hx
          rcases List.mem_append.1 hx with h | h
          · exact HNO.out x h
          · simp at h; rw [h]; exact HBAD.out
        case measure => simp [intOf]; omega
      · have hbq : ((d : Int) == n) = false := by simpa using hdn
        have hg5 : ∀ W, Below wa.heap.size wa W → _ := fun W hW => specL5Gates ss d v W hp (reads3_below (reads3_below hv hL) hW)
        have hgl := gatesL_length ss d
        have h12 := (procOk_parts hp).2.1
        have HGG : Hid (goodGate ss n d = true ↔ ∀ x ∈ A, x = n ∨ x ∈ gatesL ss d) := by
          show goodGate ss n d = true ↔ _
          rw [goodGate_iff, HAG.out]
          exact ⟨fun h => h.2, fun h => ⟨hdn, h⟩⟩
        clear hdn
        generalize gatesL ss d = gl at *
        go_wp2_with fail
        go_region_held3 (fun w' => w'.cell? ⟨w.heap.size, 0, none⟩ = some v ∧ w'.cell? ⟨g, off + k, none⟩ = some (.int .i64 (d : Int))) (first | exact ⟨p0, cA⟩ | exact ⟨(hc4 _ _ pB).trans p0, (hc4 _ _ gA).trans cA⟩) (first
          | (go_at_call 21; refine (hg5 _ (by go_grown)).mono ?_; rintro e w4 ⟨u4, rfl, own4, b4⟩; have M4 : Below wa.heap.size wa w4 := Below.trans (by go_grown) (b4.mono (by simp)); obtain ⟨hc4, hf4⟩ := bcell M4))
        have O4 := own_kept hO M4
        have N4 := own_mono own4 (show w.heap.size + 1 ≤ wa.drew.heap.size from pB)
        have L4 := hL.trans (M4.mono hL.size)
        have X4 := (M4.block w.heap.size pB).trans hX
        clear hc4 hf4 cA p0 pf0 hg5 own4 b4 hO hL hX gA pB M4
        go_wp2_with fail
        go_loopw [8, 9] (fun av kv wr => ∃ m : Nat, m ≤ A.length ∧ kv = .int .i64 m ∧ av = .bool ((A.take m).all (fun x => decide (x = n) || decide (x ∈ gl))) ∧ wr.ownsRow (w.heap.size + 1) 2 1 (.slice (some ⟨g, off, none⟩) A.length cap) A.length (ints A) ∧ wr.ownsRow (w.heap.size + 1) 2 1 u4 gl.length (ints gl) ∧ Below w.heap.size w wr ∧ wr.heap[w.heap.size]? = some (.cells #[v] 26 (0, 0))) (fun _ kv _ => A.length - (intOf kv).toNat)
        case atStart => exact ⟨0, Nat.zero_le _, rfl, by simp, by rw [← hu]; exact O4, N4, L4, X4⟩
        case round =>
          obtain ⟨m, hm, rfl, rfl, hO, hN, hL, hX⟩ := hrel
          obtain ⟨wb, hwb⟩ : ∃ x, x = wr := ⟨_, rfl⟩
          subst hwb
          clear O4 N4 L4 X4
          by_cases hlt2 : m < A.length
          · have hlt2' : (m : Int) < (A.length : Int) := by omega
            obtain ⟨x, hx⟩ : ∃ x, A[m] = x := ⟨_, rfl⟩
            have hst : Hid ((A.take (m + 1)).all (fun x => decide (x = n) || decide (x ∈ gl)) = ((A.take m).all (fun x => decide (x = n) || decide (x ∈ gl)) && (decide (x = n) || decide (x ∈ gl)))) := by
              show (A.take (m + 1)).all _ = _
              rw [List.take_succ_eq_append_getElem hlt2, List.all_append, hx]
              simp
            obtain ⟨g', off', hao', cx⟩ := hcA wb m x (by rw [hu]; exact hO) (by rw [List.getElem?_eq_getElem hlt2, hx])
            obtain ⟨rfl, rfl⟩ : g = g' ∧ off = off' := by simpa using hao'
            have gx := World.block_lt_of_cell? wb _ cx
            have hh : ∀ W, Below wb.heap.size wb W → _ := fun W hW => l1Has gl x u4 W (by unfold maxLen; omega) (reads_below (reads_own hN) hW)
            rw [hasI_mem] at hh
            clear hx hao'
            generalize hal : (A.take m).all (fun x => decide (x = n) || decide (x ∈ gl)) = al at *
            have HO : Hid (wb.ownsRow (w.heap.size + 1) 2 1 (.slice (some ⟨g, off, none⟩) A.length cap) A.length (ints A)) := hO
            have HN : Hid (wb.ownsRow (w.heap.size + 1) 2 1 u4 gl.length (ints gl)) := hN
            have HX : Hid (wb.heap[w.heap.size]? = some (.cells #[v] 26 (0, 0))) := hX
            have pB := (Array.getElem?_eq_some_iff.1 hX).1
            clear hO hN hX hal
            cases al
            · have HV : Hid ((A.take (m + 1)).all (fun x => decide (x = n) || decide (x ∈ gl)) = false) := hst.out.trans rfl
              clear hcA
              go_wp2
              go_roundw
              case rel => exact ⟨m + 1, by omega, by go_num, by rw [HV.out], HO.out, HN.out, hL, HX.out⟩
              case measure => simp [intOf]; omega
            · by_cases hxn : x = n
              · have hbx : (x == n) = true := by simpa using hxn
                have HV : Hid ((A.take (m + 1)).all (fun x => decide (x = n) || decide (x ∈ gl)) = true) := hst.out.trans (by simp [hxn])
                clear hcA hxn
                go_wp2
                go_roundw
                case rel => exact ⟨m + 1, by omega, by go_num, by rw [HV.out], HO.out, HN.out, hL, HX.out⟩
                case measure => simp [intOf]; omega
              · have hbx : (x == n) = false := by simpa using hxn
                have HV : Hid ((A.take (m + 1)).all (fun x => decide (x = n) || decide (x ∈ gl)) = decide (x ∈ gl)) := hst.out.trans (by simp [hxn])
                clear hcA hxn
                go_wp2_with fail
                go_at_call 22
                refine (hh wb (Below.refl _ _)).mono ?_
                rintro e w5 ⟨rfl, b5⟩
                have HO5 := own_kept HO.out b5
                have HN5 := own_kept HN.out b5
                have HX5 := (b5.block w.heap.size pB).trans HX.out
                have HL5 := hL.trans (b5.mono hL.size)
                clear hh
                go_wp2
                go_roundw
                case rel => exact ⟨m + 1, by omega, by go_num, by rw [HV.out], HO5, HN5, HL5, HX5⟩
                case measure => simp [intOf]; omega
          · have hmm : m = A.length := by omega
            subst hmm
            rw [List.take_length]
            obtain ⟨g', off', hao', ck⟩ := hcA wb k d (by rw [hu]; exact hO) (by rw [List.getElem?_eq_getElem hlt, HD.out])
            obtain ⟨rfl, rfl⟩ : g = g' ∧ off = off' := by simpa using hao'
            obtain ⟨al, hal⟩ : ∃ al, A.all (fun x => decide (x = n) || decide (x ∈ gl)) = al := ⟨_, rfl⟩
            have HQ : Hid (goodGate ss n d = al) := by
              show goodGate ss n d = al
              rw [← hal, Bool.eq_iff_iff, HGG.out]
              simp
            rw [hal]
            have HO : Hid (wb.ownsRow (w.heap.size + 1) 2 1 (.slice (some ⟨g, off, none⟩) A.length cap) A.length (ints A)) := hO
            have HX : Hid (wb.heap[w.heap.size]? = some (.cells #[v] 26 (0, 0))) := hX
            clear hcA hao' hal hO hX hN
            cases al
            · go_wp2
              go_roundw
              case rel =>
                refine ⟨k + 1, by omega, by go_num, fun x hx => ?_, by rw [hu]; exact HO.out, hL, HX.out⟩
                rw [htk.out] at hx
                rcases List.mem_append.1 hx with h | h
                · exact HNO.out x h
                · simp at h; rw [h]; exact HQ.out
              case measure => simp [intOf]; omega
            · have HF : Hid (gateAns ss n = d) := by
                show gateAns ss n = d
                rw [HANS.out, find_take _ _ k hlt HNO.out (by rw [HD.out]; exact HQ.out), HD.out]; rfl
              go_wp2
              go_ret
              exact ⟨ret_int HF.out.symm, hL⟩
    · have hkk : k = A.length := by omega
      subst hkk
      rw [List.take_length] at HNO
      have HF : Hid (gateAns ss n = -1) := by
        show gateAns ss n = -1
        rw [HANS.out, find_none _ _ HNO.out]; rfl
      go_wp2
      go_ret
      exact ⟨ret_int HF.out.symm, hL⟩

end Go.Proofs.Ytjlfmjoallnojac
