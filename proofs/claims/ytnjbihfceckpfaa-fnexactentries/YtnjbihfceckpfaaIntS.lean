/-
  Slices of int64: eqInt64S, markInt64S, heldInt64S, l1Has, l1Put.
-/
import Derived.Test.YtnjbihfceckpfaaStmts
namespace Go.Proofs.Ytnjbihfceckpfaa
open Go.RowKit
set_option linter.unusedVariables false
set_option maxHeartbeats 1000000

def ints (xs : List Int) : List Value := xs.map (.int .i64)

theorem ints_length (xs : List Int) : (ints xs).length = xs.length := by simp [ints]

theorem eqInt64S (xs : List Int) (v u : Value) (w : World) (hl : xs.length ≤ maxLen) (hv : Reads w v (ints xs)) (hu : Reads w u (ints xs)) :
    Calls Try.prog 13 #[v, u] w fun e w' => e = .returned (.bool true) ∧ Below w.heap.size w w' := by
  unfold maxLen at hl
  obtain ⟨ao, cap, rfl, hc⟩ := hv
  obtain ⟨bo, cap', rfl, hd⟩ := hu
  simp only [ints_length]
  go_enter Try.func13, Try.ntmps13
  go_wp2
  go_loopw [5] (fun i wr => ∃ k : Nat, k ≤ xs.length ∧ i = .int .i64 k ∧ Below w.heap.size w wr) (fun i _ => xs.length - (intOf i).toNat)
  case atStart => exact ⟨0, Nat.zero_le _, rfl, Below.refl _ _⟩
  case round =>
    obtain ⟨k, hk, rfl, hb⟩ := hrel
    by_cases hlt : k < xs.length
    · obtain ⟨g, off, rfl, hg⟩ := hc k (.int .i64 xs[k]) (by simp [ints, hlt])
      obtain ⟨g', off', rfl, hg'⟩ := hd k (.int .i64 xs[k]) (by simp [ints, hlt])
      have hg := (hb.cell (World.block_lt_of_cell? w _ hg)).trans hg
      have hg' := (hb.cell (World.block_lt_of_cell? w _ hg')).trans hg'
      have hlt' : (k : Int) < (xs.length : Int) := by omega
      clear hc hd
      generalize xs[k] = x at *
      go_wp2
      go_quiet (fail)
      go_wp2
      go_roundw
      case rel => exact ⟨k + 1, by omega, by go_num, below_drewN hb _⟩
      case measure => simp [intOf]; omega
    · go_wp2
      go_ret
      exact ⟨rfl, hb⟩

/-- The marks that markInt64S lays from k on. -/
def markI (k : Int) : Nat → List Value
  | 0 => []
  | n + 1 => .int .i64 k :: markI (k + 1) n

theorem markI_length : ∀ (n : Nat) (k : Int), (markI k n).length = n
  | 0, _ => rfl
  | n + 1, k => by simp [markI, markI_length n]

theorem markI_get : ∀ (n : Nat) (k : Int) (j : Nat), j < n → (markI k n)[j]? = some (.int .i64 (k + j))
  | 0, _, _, h => absurd h (by omega)
  | n + 1, k, 0, _ => by simp [markI]
  | n + 1, k, j + 1, h => by
    rw [markI, List.getElem?_cons_succ, markI_get n (k + 1) j (by omega)]
    congr 2
    push_cast
    omega

theorem markInt64S {te : TypeId} (xs : List Value) (v : Value) (base : Nat) (k : Int) (w : World) (hl : xs.length ≤ 1099511627776) (h1 : 1 ≤ k) (h2 : k ≤ 1099511627776) (hbase : base ≤ w.heap.size)
    (hv : w.ownsRow base te 1 v xs.length xs) :
    Calls Try.prog 16 #[v, .int .i64 k] w fun e w' => e = .returned (.int .i64 (k + xs.length)) ∧ w'.ownsRow base te 1 v xs.length (markI k xs.length) ∧ Below base w w' ∧ w.grownBy w' v.ownBlock := by
  rcases hv.2 with ⟨rfl, hn⟩ | ⟨g, cap, cur, rfl, hbg, hg, hcap⟩
  · have hx : xs = [] := List.eq_nil_of_length_eq_zero hn
    subst hx
    go_enter Try.func16, Try.ntmps16
    go_wp2
    refine wp_loop_rounds 1 ?_
    rw [rounds_succ]
    go_wp2
    go_ret
    exact ⟨ret_int (by simp), hv, Below.refl _ _, World.grownBy.refl _ _⟩
  · clear hcap
    have ml := markI_length xs.length k
    go_enter Try.func16, Try.ntmps16
    go_wp2
    go_loopw [1, 5] (fun q i wr => ∃ j : Nat, j ≤ xs.length ∧ i = .int .i64 j ∧ q = .int .i64 (k + j) ∧ wr.ownsRow base te 1 (.slice (some ⟨g, 0, none⟩) xs.length cap) xs.length (filled (markI k xs.length) xs j) ∧ Below base w wr ∧ w.grownBy wr (some g)) (fun _ i _ => xs.length - (intOf i).toNat)
    case atStart => exact ⟨0, Nat.zero_le _, rfl, by simp, by simpa [filled] using hv, Below.refl _ _, World.grownBy.refl _ _⟩
    case round =>
      obtain ⟨j, hj, rfl, rfl, hown, hb, hgr⟩ := hrel
      by_cases hlt : j < xs.length
      · have hlt' : (j : Int) < (xs.length : Int) := by omega
        have hfr := hown.frozenAt j
        obtain ⟨x, hcl⟩ := own_cell hown j (by omega)
        have hst := hown.stored j (.int .i64 (k + j))
        have hset := filled_set (markI k xs.length) xs j _ ml (markI_get _ k j hlt)
        rw [hset] at hst
        have HST : Hid ((wr.setCell ⟨g, j, none⟩ (.int .i64 (k + j))).ownsRow base te 1 (.slice (some ⟨g, 0, none⟩) xs.length cap) xs.length (filled (markI k xs.length) xs (j + 1)) ∧ wr.grownBy (wr.setCell ⟨g, j, none⟩ (.int .i64 (k + j))) (some g)) := hst
        clear hst hset ml
        go_wp2
        go_roundw
        case rel => exact ⟨j + 1, by omega, by go_num, by go_num, HST.out.1, hb.setCell hbg _, grown_trans hgr HST.out.2⟩
        case measure => simp [intOf]; omega
      · have hjj : j = xs.length := by omega
        subst hjj
        rw [filled_all _ _ _ ml ml.symm] at hown
        go_wp2
        go_ret
        exact ⟨rfl, hown, hb, hgr⟩

theorem heldInt64S (n : Nat) (v : Value) (k : Int) (w : World) (hl : n ≤ 1099511627776) (h1 : 1 ≤ k) (h2 : k ≤ 1099511627776) (hv : Reads w v (markI k n)) :
    Calls Try.prog 17 #[v, .int .i64 k] w fun e w' => e = .returned (.int .i64 (k + n)) ∧ Below w.heap.size w w' := by
  obtain ⟨ao, cap, rfl, hc⟩ := hv
  rw [markI_length]
  go_enter Try.func17, Try.ntmps17
  go_wp2
  go_loopw [1, 5] (fun q i wr => ∃ j : Nat, j ≤ n ∧ i = .int .i64 j ∧ q = .int .i64 (k + j) ∧ w = wr) (fun _ i _ => n - (intOf i).toNat)
  case atStart => exact ⟨0, Nat.zero_le _, rfl, by simp, rfl⟩
  case round =>
    obtain ⟨j, hj, rfl, rfl, rfl⟩ := hrel
    by_cases hlt : j < n
    · have hlt' : (j : Int) < (n : Int) := by omega
      obtain ⟨g, off, rfl, hg⟩ := hc j _ (markI_get n k j hlt)
      clear hc
      go_wp2
      go_roundw
      case rel => exact ⟨j + 1, by omega, by go_num, by go_num, by trivial⟩
      case measure => simp [intOf]; omega
    · have hjj : j = n := by omega
      subst hjj
      go_wp2
      go_ret
      exact ⟨rfl, Below.refl _ _⟩

end Go.Proofs.Ytnjbihfceckpfaa
