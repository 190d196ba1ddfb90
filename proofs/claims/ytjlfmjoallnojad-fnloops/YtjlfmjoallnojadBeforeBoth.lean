/-
  slices.Contains over int64; spec.Before, impl.Before.
-/
import Derived.Test.YtjlfmjoallnojadNexts
namespace Go.Proofs.Ytjlfmjoallnojad
open Go.RowKit
set_option linter.unusedVariables false
set_option maxHeartbeats 1000000

def hasI (xs : List Int) (n : Int) : Bool := xs.any (fun x => decide (x = n))


/-- Of the first k statements, those behind which i may come. -/
def befN (ss : List Stm) (i : Int) : Nat → List Int
  | 0 => []
  | k + 1 => befN ss i k ++ (if hasI (nextsS (ss.getD k ⟨0, 0, 0⟩) k) i then [(k : Int)] else [])

theorem befN_lt (ss : List Stm) (i : Int) : ∀ (k : Nat) (x : Int), x ∈ befN ss i k → 0 ≤ x ∧ x < k
  | 0, x, h => by simp [befN] at h
  | k + 1, x, h => by
    unfold befN at h
    rw [List.mem_append] at h
    rcases h with h | h
    · have := befN_lt ss i k x h; omega
    · split at h
      · simp at h; omega
      · simp at h

theorem befN_length (ss : List Stm) (i : Int) : ∀ k : Nat, (befN ss i k).length ≤ k
  | 0 => by simp [befN]
  | k + 1 => by
    have := befN_length ss i k
    unfold befN
    rw [List.length_append]
    split
    · simp; omega
    · simp; omega

theorem ins_end (n : Int) : ∀ xs : List Int, (∀ x ∈ xs, x < n) → ins n xs = xs ++ [n]
  | [], _ => rfl
  | x :: xs, h => by
    rw [ins, if_pos (h x (by simp)), ins_end n xs (fun y hy => h y (by simp [hy]))]
    rfl

/-- What both answer. -/
def beforeAns (ss : List Stm) (i : Int) : List Int := if hasS ss i then befN ss i ss.length else []

theorem beforeAns_length (ss : List Stm) (i : Int) : (beforeAns ss i).length ≤ 12 := by
  unfold beforeAns
  cases h : hasS ss i
  · simp
  · rw [if_pos rfl]
    obtain ⟨hp, _⟩ := hasS_true h
    obtain ⟨_, h12, _⟩ := procOk_parts hp
    have := befN_length ss i ss.length
    omega

theorem specBeforeAt (ss : List Stm) (i : Int) (v : Value) (w : World) (hl : ss.length ≤ maxLen) (hv : Reads3 w v ss) :
    Calls Try.prog 29 #[.agg #[v], .int .i64 i] w fun e w' => ∃ g cap, e = .returned (.slice (some ⟨g, 0, none⟩) (beforeAns ss i).length cap) ∧ w'.ownsRow w.heap.size 2 1 (.slice (some ⟨g, 0, none⟩) (beforeAns ss i).length cap) (beforeAns ss i).length (ints (beforeAns ss i)) ∧ Below w.heap.size w w' := by
  obtain ⟨W0, hW0⟩ : ∃ W0, (w.alloc (.cells #[v] 26)).alloc (.cells #[] 2) = W0 := ⟨_, rfl⟩
  have hb0 : Below w.heap.size w W0 := by rw [← hW0]; go_grown
  have he := l4In ss i v _ hl (reads3_below hv hb0)
  have s0 : W0.heap.size = w.heap.size + 1 + 1 := by rw [← hW0]; simp
  have H0 : Hid (W0.heap[w.heap.size]? = some (.cells #[v] 26 (0, 0))) := by
    show W0.heap[w.heap.size]? = _
    rw [← hW0, old_block (by simp)]; exact heap_alloc_new w _
  have m0 : W0.ownsRow w.heap.size 2 1 (.slice (some ⟨w.heap.size + 1, 0, none⟩) 0 0) 0 [] := by
    rw [← hW0]
    have := own_mono (made0 (w.alloc (.cells #[v] 26))) (base' := w.heap.size) (by simp)
    have z : (w.alloc (.cells #[v] 26)).heap.size = w.heap.size + 1 := by simp
    rwa [z] at this
  have HW : Hid ((w.alloc (.cells #[v] 26)).alloc (.cells #[] 2) = W0) := hW0
  clear hW0
  unfold beforeAns
  cases hok : hasS ss i
  · rw [hok] at he
    rw [if_neg (by simp)]
    go_enter Try.func29, Try.ntmps29
    go_wp2_with (go_at_call 45; rw [HW.out]; refine he.mono ?_; rintro e w2 ⟨rfl, b2⟩)
    go_ret
    exact ⟨w.heap.size + 1, 0, rfl, own_kept m0 b2, hb0.trans (b2.mono hb0.size)⟩
  · rw [hok] at he
    rw [if_pos rfl]
    obtain ⟨hp, _⟩ := hasS_true hok
    obtain ⟨h1, h12, _⟩ := procOk_parts hp
    have h12' : (ss.length : Int) ≤ 12 := by omega
    clear hok
    go_enter Try.func29, Try.ntmps29
    go_wp2_with fail
    go_at_call 45
    rw [HW.out]
    refine he.mono ?_
    rintro e w2 ⟨rfl, b2⟩
    have s2 := b2.size
    have m2 := own_kept m0 b2
    have H2 := (b2.block w.heap.size (by omega)).trans H0.out
    have L2 := hb0.trans (b2.mono hb0.size)
    clear he m0 H0 HW
    go_wp2_with fail
    go_loopw [5, 6] (fun o j wr => ∃ (k g cap : Nat), k ≤ ss.length ∧ j = .int .i64 k ∧ o = .slice (some ⟨g, 0, none⟩) (befN ss i k).length cap ∧
      wr.ownsRow w.heap.size 2 1 (.slice (some ⟨g, 0, none⟩) (befN ss i k).length cap) (befN ss i k).length (ints (befN ss i k)) ∧ Below w2.heap.size w2 wr) (fun _ j _ => ss.length - (intOf j).toNat)
    case atStart => exact ⟨0, w.heap.size + 1, 0, Nat.zero_le _, rfl, rfl, m2, Below.refl _ _⟩
    case round =>
      obtain ⟨k, g, cap, hk, rfl, rfl, hown, hb⟩ := hrel
      obtain ⟨c0, f0⟩ := one_cell ((hb.block w.heap.size (by omega)).trans H2)
      have LR := L2.trans (hb.mono L2.size)
      have hv' := reads3_below hv LR
      have hlen := befN_length ss i k
      have hsz := hb.size
      by_cases hlt : k < ss.length
      · have hlt' : (k : Int) < (ss.length : Int) := by omega
        have hnx := l4Next ss k v wr hp hlt hv'
        have hst : befN ss i (k + 1) = befN ss i k ++ (if hasI (nextsS ss[k] k) i then [(k : Int)] else []) := by
          have : ss.getD k ⟨0, 0, 0⟩ = ss[k] := by simp [List.getD, hlt]
          rw [befN, this]
        have hins := ins_end k (befN ss i k) (fun x hx => (befN_lt ss i k x hx).2)
        have HS : Hid _ := hst
        have HI : Hid _ := hins
        clear hst hins
        have hnl := nextsS_length ss[k] k
        generalize nextsS ss[k] k = ns at *
        generalize befN ss i k = bs at *
        obtain ⟨ao, vc, rfl, _⟩ := id hv
        go_wp2_with fail
        go_at_call 32
        refine hnx.mono ?_
        rintro e w3 ⟨g3, c3, rfl, own3, b3⟩
        clear hnx
        have hh := l1Has ns i _ w3 (by unfold maxLen; omega) (reads_own own3)
        go_wp2_with fail
        go_at_call 27
        refine hh.mono ?_
        rintro e w4 ⟨rfl, b4⟩
        clear hh
        have hown4 := own_kept (own_kept hown b3) b4
        have B4 : Below w2.heap.size w2 w4 := (hb.trans (b3.mono (by omega))).trans (b4.mono (by have := b3.size; omega))
        obtain ⟨q, hq⟩ : ∃ q, hasI ns i = q := ⟨_, rfl⟩
        have hq' : ns.any (fun x => decide (x = i)) = q := hq
        rw [hq'] 
        rw [hq] at HS
        cases q
        · have HP : Hid (befN ss i (k + 1) = bs) := HS.out.trans (by simp)
          go_wp2
          go_roundw
          case rel => exact ⟨k + 1, g, cap, by omega, by go_num, by rw [HP.out], by rw [HP.out]; exact hown4, B4⟩
          case measure => simp [intOf]; omega
        · have HP : Hid (befN ss i (k + 1) = ins k bs) := HS.out.trans (by rw [HI.out]; simp)
          have hput := l1Put bs k g cap w.heap.size w4 (by omega) (by have := B4.size; have := L2.size; omega) hown4
          go_wp2_with fail
          go_at_call 28
          refine hput.mono ?_
          rintro e w5 ⟨g5, c5, rfl, own5, b5⟩
          clear hput
          go_wp2
          go_roundw
          case rel => exact ⟨k + 1, g5, c5, by omega, by go_num, by rw [HP.out], by rw [HP.out]; exact own5, B4.trans (b5.mono B4.size)⟩
          case measure => simp [intOf]; omega
      · have hkk : k = ss.length := by omega
        subst hkk
        obtain ⟨ao, vc, rfl, _⟩ := id hv
        go_wp2
        go_ret
        exact ⟨_, _, rfl, hown, LR⟩

theorem specBefore (ss : List Stm) (i : Int) (v : Value) (w : World) (hl : ss.length ≤ maxLen) (hv : Reads3 w v ss) :
    Calls Try.prog 29 #[.agg #[v], .int .i64 i] w fun e w' => ∃ u, e = .returned u ∧ w'.ownsRow w.heap.size 2 1 u (beforeAns ss i).length (ints (beforeAns ss i)) ∧ Below w.heap.size w w' :=
  (specBeforeAt ss i v w hl hv).mono (fun _ _ ⟨g, cap, h1, h2, h3⟩ => ⟨_, h1, h2, h3⟩)


end Go.Proofs.Ytjlfmjoallnojad
