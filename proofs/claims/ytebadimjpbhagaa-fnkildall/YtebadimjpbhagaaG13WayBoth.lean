/-
  Put together out of: BeforeBoth, WayBoth.
-/
import Derived.Test.YtebadimjpbhagaaNexts
import Derived.Deep.RegionHeld3
import Derived.Deep.DrawnRows
/-
  slices.Contains over int64; spec.Before, impl.Before.
-/
namespace Go.Proofs.Ytebadimjpbhagaa
open Go.RowKit
set_option linter.unusedVariables false
set_option maxHeartbeats 1000000

def hasI (xs : List Int) (n : Int) : Bool := xs.any (fun x => decide (x = n))

theorem sliceIndex (xs : List Int) (n : Int) (v : Value) (w : World) (hl : xs.length ≤ maxLen) (hv : Reads w v (ints xs)) :
    Calls Try.prog 105 #[v, .int .i64 n] w fun e w' => ∃ r : Int, e = .returned (.int .i64 r) ∧ decide (0 ≤ r) = hasI xs n ∧ -1 ≤ r ∧ r ≤ 9223372036854775807 ∧ w = w' := by
  unfold maxLen at hl
  obtain ⟨ao, cap, rfl, hc⟩ := hv
  rw [ints_length]
  obtain ⟨B, hB⟩ : ∃ B, hasI xs n = B := ⟨_, rfl⟩
  rw [hB]
  have HB : Hid (hasI xs n = B) := hB
  clear hB
  go_enter Try.func105, Try.ntmps105
  go_wp2
  go_loopw [8] (fun i wr => ∃ k : Nat, k ≤ xs.length ∧ i = .int .i64 k ∧ w = wr ∧ hasI (xs.take k) n = false) (fun i _ => xs.length - (intOf i).toNat)
  case atStart => exact ⟨0, Nat.zero_le _, rfl, rfl, by simp [hasI]⟩
  case round =>
    obtain ⟨k, hk, rfl, rfl, hno⟩ := hrel
    have HNO : Hid _ := hno
    clear hno
    by_cases hlt : k < xs.length
    · have hlt' : (k : Int) < (xs.length : Int) := by omega
      obtain ⟨g, off, rfl, hg⟩ := hc k (.int .i64 xs[k]) (by simp [ints, hlt])
      have h1 : hasI (xs.take (k + 1)) n = decide (xs[k] = n) := by
        unfold hasI
        rw [List.take_succ_eq_append_getElem hlt, List.any_append]
        have := HNO.out
        unfold hasI at this
        rw [this]; simp
      have h2 : xs[k] = n → hasI xs n = true := fun h => List.any_eq_true.2 ⟨xs[k], List.getElem_mem hlt, by simp [h]⟩
      have H1 : Hid _ := h1
      have H2 : Hid _ := h2
      clear h1 h2 hc
      generalize xs[k] = x at *
      by_cases hx : x = n
      · have H4 : Hid (B = true) := HB.out.symm.trans (H2.out hx)
        have hx' : (n == x) = true := by simpa using hx.symm
        clear H1 H2 hx
        go_wp2
        go_ret
        exact ⟨k, rfl, by rw [H4.out]; simp, by omega, by omega, rfl⟩
      · have hx' : (n == x) = false := by simpa using fun h => hx h.symm
        have H3 : Hid (hasI (xs.take (k + 1)) n = false) := H1.out.trans (by simp [hx])
        clear H1 H2
        go_wp2
        go_roundw
        case rel => exact ⟨k + 1, by omega, by go_num, by trivial, H3.out⟩
        case measure => simp [intOf]; omega
    · have hkk : k = xs.length := by omega
      subst hkk
      go_wp2
      go_ret
      have h := HNO.out
      rw [List.take_length, HB.out] at h
      exact ⟨-1, rfl, by rw [h]; rfl, by omega, by omega, rfl⟩

theorem sliceContains (xs : List Int) (n : Int) (v : Value) (w : World) (hl : xs.length ≤ maxLen) (hv : Reads w v (ints xs)) :
    Calls Try.prog 76 #[v, .int .i64 n] w fun e w' => e = .returned (.bool (hasI xs n)) ∧ w = w' := by
  have hi := sliceIndex xs n v w hl hv
  go_enter Try.func76, Try.ntmps76
  go_wp2_with fail
  go_at_call 105
  refine hi.mono ?_
  rintro e w1 ⟨r, rfl, hr, _, _, rfl⟩
  have HR : Hid _ := hr
  clear hi hr
  go_wp2
  go_ret
  exact ⟨by rw [← HR.out]; simp, rfl⟩

/-- Of the first k statements, those behind which i may come. -/
def befN (ss : List Stm) (i : Int) : Nat → List Int
  | 0 => []
  | k + 1 => befN ss i k ++ (if hasI (nextsS (ss.getD k ⟨0, 0, 0⟩) k) i then [(k : Int)] else [])

theorem befN_lt (ss : List Stm) (i : Int) : ∀ (k : Nat) (x : Int), x ∈ befN ss i k → 0 ≤ x ∧ x < k
  | 0, x, h => by simp [befN] at h
  | k + 1, x, h => by
    unfold befN at h
    rw [List.mem_append] at h
    rcases h with h | h
    · have := befN_lt ss i k x h; omega
    · split at h
      · simp at h; omega
      · simp at h

theorem befN_length (ss : List Stm) (i : Int) : ∀ k : Nat, (befN ss i k).length ≤ k
  | 0 => by simp [befN]
  | k + 1 => by
    have := befN_length ss i k
    unfold befN
    rw [List.length_append]
    split
    · simp; omega
    · simp; omega

theorem ins_end (n : Int) : ∀ xs : List Int, (∀ x ∈ xs, x < n) → ins n xs = xs ++ [n]
  | [], _ => rfl
  | x :: xs, h => by
    rw [ins, if_pos (h x (by simp)), ins_end n xs (fun y hy => h y (by simp [hy]))]
    rfl

/-- What both answer. -/
def beforeAns (ss : List Stm) (i : Int) : List Int := if hasS ss i then befN ss i ss.length else []

theorem beforeAns_length (ss : List Stm) (i : Int) : (beforeAns ss i).length ≤ 12 := by
  unfold beforeAns
  cases h : hasS ss i
  · simp
  · rw [if_pos rfl]
    obtain ⟨hp, _⟩ := hasS_true h
    obtain ⟨_, h12, _⟩ := procOk_parts hp
    have := befN_length ss i ss.length
    omega

end Go.Proofs.Ytebadimjpbhagaa

/-
  spec.WayOk, impl.WayOk.
-/
namespace Go.Proofs.Ytebadimjpbhagaa
open Go.RowKit
set_option linter.unusedVariables false
set_option maxHeartbeats 1000000

/-- Is each of the first k + 1 numbers, but the first, a next one of the one ahead? -/
def stepsOk (ss : List Stm) (ys : List Int) : Nat → Bool
  | 0 => true
  | k + 1 => stepsOk ss ys k && hasI (nextsS (ss.getD (ys.getD k 0).toNat ⟨0, 0, 0⟩) (ys.getD k 0)) (ys.getD (k + 1) 0)

/-- What both answer. -/
def wayAns (ss : List Stm) (ys : List Int) : Bool :=
  procOk ss && decide (1 ≤ ys.length) && decide (ys.length ≤ 100) && (ys.getD 0 0 == 0) && stepsOk ss ys (ys.length - 1)

theorem stepsOk_mono {ss : List Stm} {ys : List Int} : ∀ {m k : Nat}, k ≤ m → stepsOk ss ys m = true → stepsOk ss ys k = true
  | 0, k, h, hm => by have : k = 0 := by omega
                      subst this; rfl
  | m + 1, k, h, hm => by
    rcases Nat.lt_or_ge k (m + 1) with h' | h'
    · refine stepsOk_mono (Nat.le_of_lt_succ h') ?_
      simp only [stepsOk, Bool.and_eq_true] at hm
      exact hm.1
    · have : k = m + 1 := by omega
      subst this; exact hm

/-- So far every number is a statement's. -/
theorem stepsOk_in {ss : List Stm} {ys : List Int} (hp : procOk ss = true) (h0 : ys.getD 0 0 = 0) : ∀ {k : Nat}, stepsOk ss ys k = true → ∃ j : Nat, ys.getD k 0 = (j : Int) ∧ j < ss.length
  | 0, _ => ⟨0, by simpa using h0, by have := (procOk_parts hp).1; omega⟩
  | k + 1, h => by
    simp only [stepsOk, Bool.and_eq_true] at h
    obtain ⟨h1, h2⟩ := h
    obtain ⟨j, hj, hlt⟩ := stepsOk_in hp h0 h1
    rw [hj] at h2
    have hg : ss.getD ((j : Int).toNat) ⟨0, 0, 0⟩ = ss[j] := by simp [List.getD, hlt]
    rw [hg] at h2
    obtain ⟨x, hx, he⟩ := List.any_eq_true.1 h2
    simp at he
    subst he
    exact nextsS_in hp hlt _ hx

theorem ints_get (ys : List Int) (j : Nat) (h : j < ys.length) : (ints ys)[j]? = some (.int .i64 (ys.getD j 0)) := by
  simp [ints, List.getD, h]

theorem specWayOk (ss : List Stm) (ys : List Int) (v u : Value) (w : World) (hl : ss.length ≤ maxLen) (hy : ys.length ≤ maxLen) (hv : Reads3 w v ss) (hu : Reads w u (ints ys)) :
    Calls Try.prog 50 #[.agg #[v], u] w fun e w' => e = .returned (.bool (wayAns ss ys)) ∧ Below w.heap.size w w' := by
  have hb0 : Below w.heap.size w (w.alloc (.cells #[v] 26)) := by go_grown
  have he := specProcOk ss v _ hl (reads3_below hv hb0)
  have H0 := heap_alloc_new w (.cells #[v] 26)
  have s0 : (w.alloc (.cells #[v] 26)).heap.size = w.heap.size + 1 := by simp
  unfold maxLen at hy
  unfold wayAns
  cases hok : procOk ss
  · rw [hok] at he
    obtain ⟨ao, cap, rfl, hc⟩ := hu
    rw [ints_length]
    clear hc
    go_enter Try.func50, Try.ntmps50
    go_wp2_with (go_at_call 41; refine he.mono ?_; rintro e w2 ⟨rfl, b2⟩)
    go_ret
    exact ⟨rfl, hb0.trans (b2.mono hb0.size)⟩
  rw [hok] at he
  by_cases h1 : ys.length < 1
  · have hr : (true && decide (1 ≤ ys.length) && decide (ys.length ≤ 100) && (ys.getD 0 0 == 0) && stepsOk ss ys (ys.length - 1)) = false := by
      have : decide (1 ≤ ys.length) = false := decide_eq_false (by omega)
      rw [this]; simp
    rw [hr]
    have h1' : (ys.length : Int) < 1 := by omega
    obtain ⟨ao, cap, rfl, hc⟩ := hu
    rw [ints_length]
    clear hc hr
    go_enter Try.func50, Try.ntmps50
    go_wp2_with (go_at_call 41; refine he.mono ?_; rintro e w2 ⟨rfl, b2⟩)
    go_ret
    exact ⟨rfl, hb0.trans (b2.mono hb0.size)⟩
  by_cases h2 : 100 < ys.length
  · have hr : (true && decide (1 ≤ ys.length) && decide (ys.length ≤ 100) && (ys.getD 0 0 == 0) && stepsOk ss ys (ys.length - 1)) = false := by
      have : decide (ys.length ≤ 100) = false := decide_eq_false (by omega)
      rw [this]; simp
    rw [hr]
    have h1' : ¬ (ys.length : Int) < 1 := by omega
    have h2' : (100 : Int) < (ys.length : Int) := by omega
    obtain ⟨ao, cap, rfl, hc⟩ := hu
    rw [ints_length]
    clear hc hr
    go_enter Try.func50, Try.ntmps50
    go_wp2_with (go_at_call 41; refine he.mono ?_; rintro e w2 ⟨rfl, b2⟩)
    go_ret
    exact ⟨rfl, hb0.trans (b2.mono hb0.size)⟩
  have h1' : ¬ (ys.length : Int) < 1 := by omega
  have h2' : ¬ (100 : Int) < (ys.length : Int) := by omega
  obtain ⟨ao, cap, hu0, hc⟩ := id hu
  obtain ⟨g, off, rfl, hy0⟩ := hc 0 (.int .i64 (ys.getD 0 0)) (ints_get ys 0 (by omega))
  rw [Nat.add_zero] at hy0
  rw [ints_length] at hu0
  by_cases h3 : ys.getD 0 0 = 0
  · have hr : (true && decide (1 ≤ ys.length) && decide (ys.length ≤ 100) && (ys.getD 0 0 == 0) && stepsOk ss ys (ys.length - 1)) = stepsOk ss ys (ys.length - 1) := by
      have e1 : decide (1 ≤ ys.length) = true := decide_eq_true (by omega)
      have e2 : decide (ys.length ≤ 100) = true := decide_eq_true (by omega)
      rw [e1, e2, h3]; simp
    rw [hr]
    clear hr
    have h30 : Hid _ := h3
    rw [h3] at hy0
    clear h3
    obtain ⟨_, h12, _⟩ := procOk_parts hok
    subst hu0
    have gB := World.block_lt_of_cell? w _ hy0
    obtain ⟨R, hR⟩ : ∃ R, stepsOk ss ys (ys.length - 1) = R := ⟨_, rfl⟩
    rw [hR]
    have HR : Hid _ := hR
    clear hR
    go_enter Try.func50, Try.ntmps50
    go_wp2_with fail
    go_at_call 41
    refine he.mono ?_
    rintro e w2 ⟨rfl, b2⟩
    have L2 := hb0.trans (b2.mono hb0.size)
    have y2 := (L2.cell gB).trans hy0
    have H2 : Hid _ := (b2.block w.heap.size (by omega)).trans H0
    go_wp2_with fail
    clear y2
    go_loopw [5] (fun j wr => ∃ (k : Nat), k + 1 ≤ ys.length ∧ j = .int .i64 (k + 1) ∧ stepsOk ss ys k = true ∧ Below w2.heap.size w2 wr) (fun j _ => ys.length - (intOf j).toNat)
    case atStart => exact ⟨0, by omega, rfl, rfl, Below.refl _ _⟩
    case round =>
      obtain ⟨k, hk, rfl, hst, hb⟩ := hrel
      have LR := L2.trans (hb.mono L2.size)
      obtain ⟨c0, f0⟩ := one_cell ((hb.block w.heap.size (by have := b2.size; omega)).trans H2.out)
      have HST : Hid _ := hst
      clear hst
      by_cases hlt : k + 1 < ys.length
      · have hlt' : (k : Int) + 1 < (ys.length : Int) := by omega
        have hlt2 : (k : Int) < (ys.length : Int) := by omega
        have hlt3 : k < ys.length := by omega
        have hk0 : (0 : Int) ≤ (k : Int) := by omega
        have hk1 : (0 : Int) ≤ (k : Int) + 1 := by omega
        have hkw : IntKind.i64.wrap (k : Int) = (k : Int) := IntWalk.i64_in _ (by omega)
        obtain ⟨j, hj, hjl⟩ := stepsOk_in hok h30.out HST.out
        obtain ⟨g1, off1, e1, q0⟩ := hc k (.int .i64 (ys.getD k 0)) (ints_get ys k (by omega))
        simp only [Option.some.injEq, Addr.mk.injEq, and_true] at e1
        obtain ⟨rfl, rfl⟩ := e1
        obtain ⟨g1, off1, e1, q1⟩ := hc (k + 1) (.int .i64 (ys.getD (k + 1) 0)) (ints_get ys (k + 1) (by omega))
        simp only [Option.some.injEq, Addr.mk.injEq, and_true] at e1
        obtain ⟨rfl, rfl⟩ := e1
        have q0 := (LR.cell (World.block_lt_of_cell? w _ q0)).trans q0
        have q1 := (LR.cell (World.block_lt_of_cell? w _ q1)).trans q1
        have hstep : stepsOk ss ys (k + 1) = hasI (nextsS ss[j] j) (ys.getD (k + 1) 0) := by
          have hg : ss.getD ((j : Int).toNat) ⟨0, 0, 0⟩ = ss[j] := by simp [List.getD, hjl]
          rw [stepsOk, HST.out, hj, hg]; simp
        have HS : Hid _ := hstep
        clear hstep
        rw [hj] at q0
        generalize ys.getD (k + 1) 0 = y at *
        have hn : ∀ W, Below wr.heap.size wr W → _ := fun W hW => l4Next ss j v W hok hjl (reads3_below (reads3_below hv LR) hW)
        have hnl := nextsS_length ss[j] j
        generalize nextsS ss[j] j = ns at *
        have z1 : w.heap.size < wr.heap.size := by have := b2.size; have := hb.size; omega
        have z2 : g < wr.heap.size := by have := b2.size; have := hb.size; omega
        have n1 : ((k : Int) + 1 - 1).toNat = k := by omega
        have n2 : ((k : Int) + 1).toNat = k + 1 := by omega
        have n3 : (k : Int) + 1 - 1 = k := by omega
        clear hc hj hy0
        obtain ⟨q, hq⟩ : ∃ q, hasI ns y = q := ⟨_, rfl⟩
        have HQ : Hid (hasI ns y = q) := hq
        rw [hq] at HS
        clear hq
        go_wp2_with fail
        go_region_with (first
          | (go_at_call 46; refine (hn _ (by go_grown)).mono ?_; rintro e w3 ⟨g3, c3, rfl, own3, b3⟩; have M3 : Below wr.heap.size wr w3 := Below.trans (by go_grown) b3; obtain ⟨hc3, hf3⟩ := bcell M3)
          | (go_at_call 72; refine (l1Has ns y _ _ (by unfold maxLen; omega) (reads_below (reads_own own3) (by go_grown))).mono ?_; rintro e w4 ⟨rfl, b4⟩; (have hq' : ns.any (fun x => decide (x = y)) = q := HQ.out; rw [hq']); have M4 : Below wr.heap.size wr w4 := Below.trans (Below.trans M3 (by go_grown)) (b4.mono M3.size)))
        all_goals
          have B4 : Below w2.heap.size w2 w4 := hb.trans (M4.mono hb.size)
          cases q
          · have HF : Hid (R = false) := by
              show R = false
              rw [← HR.out]
              cases hs : stepsOk ss ys (ys.length - 1) with
              | false => rfl
              | true => exact absurd (stepsOk_mono (k := k + 1) (by omega) hs) (by rw [HS.out]; simp)
            go_wp2
            go_ret
            exact ⟨by rw [HF.out]; rfl, L2.trans (B4.mono L2.size)⟩
          · go_wp2
            go_roundw
            case rel => exact ⟨k + 1, by omega, by go_num, HS.out, B4⟩
            case measure => simp [intOf]; omega
      · have hkk : ys.length - 1 = k := by omega
        rw [hkk] at HR
        have HF : Hid (R = true) := HR.out.symm.trans HST.out
        go_wp2
        go_ret
        exact ⟨by rw [HF.out]; rfl, LR⟩
  · have hr : (true && decide (1 ≤ ys.length) && decide (ys.length ≤ 100) && (ys.getD 0 0 == 0) && stepsOk ss ys (ys.length - 1)) = false := by
      have : (ys.getD 0 0 == 0) = false := by simpa using h3
      rw [this]; simp
    rw [hr]
    have h3' : (ys.getD 0 0 != 0) = true := by simpa using h3
    clear hr
    generalize ys.getD 0 0 = y at *
    subst hu0
    have gB := World.block_lt_of_cell? w _ hy0
    go_enter Try.func50, Try.ntmps50
    go_wp2_with fail
    go_at_call 41
    refine he.mono ?_
    rintro e w2 ⟨rfl, b2⟩
    have L2 := hb0.trans (b2.mono hb0.size)
    have y2 := (L2.cell gB).trans hy0
    go_wp2
    go_ret
    exact ⟨rfl, L2⟩

end Go.Proofs.Ytebadimjpbhagaa
