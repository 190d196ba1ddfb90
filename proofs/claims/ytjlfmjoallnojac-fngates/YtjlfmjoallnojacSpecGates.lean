/-
  spec.l5Gates, spec.Gates.
-/
import Derived.Test.YtjlfmjoallnojacGatesM
import Derived.Test.YtjlfmjoallnojacSpecReached
namespace Go.Proofs.Ytjlfmjoallnojac
open Go.RowKit
set_option linter.unusedVariables false
set_option linter.unusedSimpArgs false
set_option maxHeartbeats 2000000

/-- The first gates. -/
noncomputable def gatesTo (ss : List Stm) (n : Int) (k : Nat) : List Int := (gatesL ss n).filter (fun x => decide (x < (k : Int)))

theorem gatesTo_zero (ss : List Stm) (n : Int) : gatesTo ss n 0 = [] := by
  unfold gatesTo
  rw [List.filter_eq_nil_iff]
  intro x hx
  obtain ⟨d, i, rfl, _⟩ := gatesL_in hx
  simp

theorem gatesTo_all (ss : List Stm) (n : Int) : gatesTo ss n ss.length = gatesL ss n := by
  unfold gatesTo
  rw [List.filter_eq_self]
  intro x hx
  obtain ⟨d, i, rfl, _, h⟩ := gatesL_in hx
  have := h.2.1
  simp; omega

theorem gatesTo_next (ss : List Stm) (n : Int) (k : Nat) : gatesTo ss n (k + 1) = gatesTo ss n k ++ (if (k : Int) ∈ gatesL ss n then [(k : Int)] else []) := by
  have hs := (gatesL_is ss n).1
  refine sorted_ext _ _ ?_ ?_ (fun x => ?_)
  · exact hs.sublist List.filter_sublist
  · rw [List.pairwise_append]
    refine ⟨hs.sublist List.filter_sublist, by split <;> simp, fun a ha b hb => ?_⟩
    split at hb
    · simp at hb
      have := (List.mem_filter.1 ha).2
      simp at this
      omega
    · simp at hb
  · simp only [gatesTo, List.mem_append, List.mem_filter, decide_eq_true_eq]
    constructor
    · rintro ⟨h1, h2⟩
      by_cases e : x = (k : Int)
      · subst e; rw [if_pos h1]; simp
      · exact .inl ⟨h1, by omega⟩
    · rintro (⟨h1, h2⟩ | h)
      · exact ⟨h1, by omega⟩
      · split at h
        · simp at h; subst h; exact ⟨by assumption, by omega⟩
        · simp at h

theorem gatesTo_length (ss : List Stm) (n : Int) (k : Nat) : (gatesTo ss n k).length ≤ ss.length := Nat.le_trans (List.length_filter_le _ _) (gatesL_length ss n)

theorem isReached_mem {ss : List Stm} {wo : Int} {A : List Int} (h : IsReached ss wo A) (i : Nat) : (i : Int) ∈ A ↔ Rch ss wo i := by
  rw [h.2]
  constructor
  · rintro ⟨j, e, hj⟩; obtain rfl : i = j := (by omega); exact hj
  · exact fun h => ⟨i, rfl, h⟩

theorem specL5Gates (ss : List Stm) (i : Nat) (v : Value) (w : World) (hp : procOk ss = true) (hv : Reads3 w v ss) :
    Calls Try.prog 21 #[.agg #[v], .int .i64 i] w fun e w' => ∃ u, e = .returned u ∧ w'.ownsRow w.heap.size 2 1 u (gatesL ss i).length (ints (gatesL ss i)) ∧ Below w.heap.size w w' := by
  obtain ⟨i0, hi, hz0, hz1, hz2⟩ := info_parts infoInt
  obtain ⟨_, h12, _⟩ := procOk_parts hp
  obtain ⟨A0, hA0⟩ := isReached_some hp (-1)
  have hl0 : ∀ (wo : Int) (A : List Int), IsReached ss wo A → A.length ≤ 12 := fun wo A hA => by
    refine Nat.le_trans (sorted_length A 0 ss.length hA.1 (fun x hx => ?_)) h12
    obtain ⟨i, rfl, hi⟩ := (hA.2 x).1 hx
    have := hi.lt hp
    omega
  obtain ⟨W0, hW0⟩ : ∃ W0, (w.alloc (.cells #[v] 26)).alloc (.cells #[] 2) = W0 := ⟨_, rfl⟩
  have hb0 : Below w.heap.size w W0 := by rw [← hW0]; go_grown
  have s0 : W0.heap.size = w.heap.size + 1 + 1 := by rw [← hW0]; simp
  have H0 : Hid (W0.heap[w.heap.size]? = some (.cells #[v] 26 (0, 0))) := by
    show W0.heap[w.heap.size]? = _
    rw [← hW0, old_block (by simp)]; exact heap_alloc_new w _
  have m0 : W0.ownsRow (w.heap.size + 1) 2 1 (.slice (some ⟨w.heap.size + 1, 0, none⟩) 0 0) 0 [] := by
    rw [← hW0]
    have := made0 (w.alloc (.cells #[v] 26))
    have z : (w.alloc (.cells #[v] 26)).heap.size = w.heap.size + 1 := by simp
    rwa [z] at this
  have HW : Hid ((w.alloc (.cells #[v] 26)).alloc (.cells #[] 2) = W0) := hW0
  have hre := specL4Reached ss (-1) A0 v W0 hp hA0 (reads3_below hv hb0)
  have hrl := hl0 _ _ hA0
  clear hW0
  go_enter Try.func21, Try.ntmps21
  go_wp2_with fail
  go_at_call 35
  rw [HW.out]
  refine hre.mono ?_
  rintro e w1 ⟨g1, cap1, rfl, own1, b1⟩
  clear hre
  have hh := l1Has A0 i _ w1 (by unfold maxLen; omega) (reads_own own1)
  rw [hasI_mem] at hh
  go_wp2_with fail
  go_at_call 22
  refine hh.mono ?_
  rintro e w2 ⟨rfl, b2⟩
  clear hh
  have m2 := own_kept (own_kept m0 b1) b2
  have L1 := hb0.trans (b1.mono hb0.size)
  have L2 := L1.trans (b2.mono L1.size)
  have H2 := (b2.block w.heap.size (by have := b1.size; omega)).trans ((b1.block w.heap.size (by omega)).trans H0.out)
  have s2 : w.heap.size + 1 + 1 ≤ w2.heap.size := by have := b1.size; have := b2.size; omega
  clear m0 H0 HW
  by_cases hr : Rch ss (-1) i
  · rw [decide_eq_true ((isReached_mem hA0 i).2 hr)]
    go_wp2_with fail
    go_loopw [5, 6] (fun o j wr => ∃ (k : Nat), k ≤ ss.length ∧ j = .int .i64 k ∧ wr.ownsRow (w.heap.size + 1) 2 1 o (gatesTo ss i k).length (ints (gatesTo ss i k)) ∧ Below (w.heap.size + 1) w2 wr) (fun _ j _ => ss.length - (intOf j).toNat)
    case atStart => exact ⟨0, Nat.zero_le _, rfl, by rw [gatesTo_zero]; exact m2, Below.refl _ _⟩
    case round =>
      obtain ⟨k, hk, rfl, hown, hb⟩ := hrel
      obtain ⟨c0, f0⟩ := one_cell ((hb.block w.heap.size (by omega)).trans H2)
      have LR : Below w.heap.size w wr := L2.trans (hb.mono (by omega))
      have hv' := reads3_below hv LR
      have hlen := gatesTo_length ss i k
      have hsz := hb.size
      by_cases hlt : k < ss.length
      · have hlt' : (k : Int) < (ss.length : Int) := by omega
        obtain ⟨Ak, hAk⟩ := isReached_some hp (k : Int)
        have hre := specL4Reached ss k Ak v wr hp hAk hv'
        have hrl := hl0 _ _ hAk
        have hst := gatesTo_next ss i k
        have hmem : (k : Int) ∈ gatesL ss i ↔ (i : Int) ∉ Ak := by
          rw [mem_gatesL, isReached_mem hAk]
          exact ⟨fun h => h.2.2, fun h => ⟨hr, hlt, h⟩⟩
        have HS : Hid _ := hst
        have HM : Hid ((k : Int) ∈ gatesL ss i ↔ (i : Int) ∉ Ak) := hmem
        clear hst hmem
        generalize gatesTo ss i k = bs at *
        obtain ⟨ao, vc, rfl, _⟩ := id hv
        go_wp2_with fail
        go_at_call 35
        refine hre.mono ?_
        rintro e w3 ⟨g3, c3, rfl, own3, b3⟩
        clear hre
        have hh := l1Has Ak i _ w3 (by unfold maxLen; omega) (reads_own own3)
        rw [hasI_mem] at hh
        go_wp2_with fail
        go_at_call 22
        refine hh.mono ?_
        rintro e w4 ⟨rfl, b4⟩
        clear hh
        have hown4 := own_kept (own_kept hown b3) b4
        have s3 := b3.size
        have s4 := b4.size
        have B4 : Below (w.heap.size + 1) w2 w4 := (hb.trans (b3.mono (by omega))).trans (b4.mono (by omega))
        by_cases hq : (i : Int) ∈ Ak
        · rw [decide_eq_true hq]
          have HP : Hid (gatesTo ss i (k + 1) = bs) := HS.out.trans (by rw [if_neg (fun h => HM.out.1 h hq)]; simp)
          go_wp2
          go_roundw
          case rel => exact ⟨k + 1, by omega, by go_num, by rw [HP.out]; exact hown4, B4⟩
          case measure => simp [intOf]; omega
        · rw [decide_eq_false hq]
          have HP : Hid (gatesTo ss i (k + 1) = bs ++ [(k : Int)]) := HS.out.trans (by rw [if_pos (HM.out.2 hq)])
          have B5 : Hid (Below (w.heap.size + 1) w2 (w4.alloc (.cells #[.int .i64 (k : Int)] 2))) := B4.alloc (by omega) _
          have HSZ : Hid (w.heap.size + 1 ≤ (w4.alloc (.cells #[.int .i64 (k : Int)] 2)).heap.size) := by
            show w.heap.size + 1 ≤ (w4.alloc (.cells #[.int .i64 (k : Int)] 2)).heap.size
            simp; omega
          clear HS
          go_wp2_with (first
            | (at_builtin; refine wpList_append_own _ rfl (.tmp 27) (.tmp 29) 29 rfl (w.heap.size + 1) 2 i0 (.int .i64 0) 1 8 Try.underlying29 hi hz0 hz1 hz2 rfl (by decide) _ _ _ rfl (hown4.alloc _) ⟨w4.heap.size, 0, none⟩ 1 _ [.int .i64 (k : Int)] rfl rfl (cell_one w4 k) (ints_oneCell [(k : Int)]) (by unfold maxLen; omega) (by omega) HSZ.out ?_; intro v2 w5 own5 grow5 _; have L5 := B5.out.grown grow5 HSZ.out (fun q hq => (hown4.lt q hq).1))
            | go_in)
          have own6 : Hid (w5.ownsRow (w.heap.size + 1) 2 1 v2 (bs ++ [(k : Int)]).length (ints (bs ++ [(k : Int)]))) := by
            show w5.ownsRow (w.heap.size + 1) 2 1 v2 (bs ++ [(k : Int)]).length (ints (bs ++ [(k : Int)]))
            simpa [ints] using own5
          go_roundw
          case rel => exact ⟨k + 1, by omega, by go_num, by rw [HP.out]; exact own6.out, L5⟩
          case measure => simp [intOf]; omega
      · have hkk : k = ss.length := by omega
        subst hkk
        rw [gatesTo_all] at hown
        obtain ⟨ao, vc, rfl, _⟩ := id hv
        go_wp2
        go_ret
        exact ⟨_, rfl, own_mono hown (by omega), LR⟩
  · rw [decide_eq_false (fun h => hr ((isReached_mem hA0 i).1 h))]
    have hnil : gatesL ss i = [] := by
      rw [List.eq_nil_iff_forall_not_mem]
      intro x hx
      obtain ⟨d, i', rfl, e, h⟩ := gatesL_in hx
      obtain rfl : i = i' := by omega
      exact hr h.1
    have HN : Hid (gatesL ss i = []) := hnil
    clear hnil
    go_wp2
    go_ret
    exact ⟨_, rfl, by rw [HN.out]; exact own_mono m2 (by omega), L2⟩

theorem gates_some (ss : List Stm) (i : Int) : ∃ A : List Int, (hasS ss i = true → IsGates ss i A) ∧ (hasS ss i = false → A = []) ∧ A.length ≤ 12 := by
  cases h : hasS ss i
  · exact ⟨[], by simp, by simp, by simp⟩
  · obtain ⟨hp, _⟩ := hasS_true h
    exact ⟨gatesL ss i, fun _ => gatesL_is ss i, by simp, Nat.le_trans (gatesL_length ss i) (procOk_parts hp).2.1⟩

theorem specGates (ss : List Stm) (n : Int) (A : List Int) (h1 : hasS ss n = true → IsGates ss n A) (h0 : hasS ss n = false → A = []) (v : Value) (w : World) (hl : ss.length ≤ maxLen) (hv : Reads3 w v ss) :
    Calls Try.prog 9 #[.agg #[v], .int .i64 n] w fun e w' => ∃ u, e = .returned u ∧ w'.ownsRow w.heap.size 2 1 u A.length (ints A) ∧ Below w.heap.size w w' := by
  have hb0 : Below w.heap.size w (w.alloc (.cells #[v] 26)) := by go_grown
  have he := l4In ss n v _ hl (reads3_below hv hb0)
  have H0 := heap_alloc_new w (.cells #[v] 26)
  have s0 : (w.alloc (.cells #[v] 26)).heap.size = w.heap.size + 1 := by simp
  cases hok : hasS ss n
  · rw [hok] at he
    obtain rfl := h0 hok
    go_enter Try.func9, Try.ntmps9
    go_wp2_with (go_at_call 20; refine he.mono ?_; rintro e w2 ⟨rfl, b2⟩)
    go_ret
    have L2 := hb0.trans (b2.mono hb0.size)
    exact ⟨_, rfl, own_mono (made0 w2) L2.size, L2.alloc L2.size _⟩
  · rw [hok] at he
    obtain ⟨hp, i, rfl, hi⟩ := hasS_true hok
    obtain rfl : A = gatesL ss i := isGates_unique (h1 hok) (gatesL_is ss i)
    have hg : ∀ w', Below w.heap.size w w' → _ := fun w' hw' => specL5Gates ss i v w' hp (reads3_below hv hw')
    go_enter Try.func9, Try.ntmps9
    go_wp2_with fail
    go_at_call 20
    refine he.mono ?_
    rintro e w2 ⟨rfl, b2⟩
    have L2 := hb0.trans (b2.mono hb0.size)
    have B2 := (b2.block w.heap.size (by omega)).trans H0
    obtain ⟨c2, f2⟩ := one_cell B2
    go_wp2_with fail
    go_at_call 21
    refine (hg w2 L2).mono ?_
    rintro e w3 ⟨u, rfl, own3, b3⟩
    go_wp2
    go_ret
    exact ⟨u, rfl, own_mono own3 L2.size, L2.trans (b3.mono L2.size)⟩

end Go.Proofs.Ytjlfmjoallnojac
