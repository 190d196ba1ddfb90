/-
  Mathematics of chapter 8: what holds along ways, what covers (no dump is spoken of).
-/
import Derived.Test.YtcecfmdlefkjfaaFlowsMath
import Derived.Test.YtcecfmdlefkjfaaRelMath
import Derived.Test.YtcecfmdlefkjfaaWayBoth
import Derived.Test.YtcecfmdlefkjfaaBfs
namespace Go.Proofs.Ytcecfmdlefkjfaa
set_option linter.unusedVariables false

/-- What statement i does, of client c. -/
def flw (c : Int) (ss : List Stm) (i : Nat) : List Int := flowL c (ss.getD i ⟨0, 0, 0⟩).k (ss.getD i ⟨0, 0, 0⟩).x (ss.getD i ⟨0, 0, 0⟩).y

theorem flw_eq {c : Int} {ss : List Stm} {i : Nat} (h : i < ss.length) : flw c ss i = flowL c ss[i].k ss[i].x ss[i].y := by
  unfold flw; simp [List.getD, h]

theorem stm_ok {ss : List Stm} (hp : procOk ss = true) {i : Nat} (h : i < ss.length) : stmtOk ss[i].k ss[i].x ss[i].y = true := by
  have := ((procOk_parts hp).2.2 i h).1
  simp only [stmOk, Bool.and_eq_true] at this
  exact this.1

theorem flw_smalls {c : Int} {ss : List Stm} (hp : procOk ss = true) {i : Nat} (h : i < ss.length) : Smalls (flw c ss i) := by
  rw [flw_eq h]; exact flowL_smalls (stm_ok hp h)

/-- What s becomes behind k statements of the way. -/
def alongK (c : Int) (ss : List Stm) (ys : List Int) (s : Int) : Nat → Int
  | 0 => s
  | k + 1 => img (flw c ss (ys.getD k 0).toNat) (alongK c ss ys s k)

def isCl (c : Int) : Bool := decide (c = 1 ∨ c = 2)

def alongAns (ss : List Stm) (c : Int) (ys : List Int) (s : Int) : Int :=
  if wayAns ss ys && isCl c && inB s 0 127 then alongK c ss ys s (ys.length - 1) else -1

theorem wayAns_parts {ss : List Stm} {ys : List Int} (h : wayAns ss ys = true) : procOk ss = true ∧ 1 ≤ ys.length ∧ ys.length ≤ 100 ∧ ys.getD 0 0 = 0 ∧ stepsOk ss ys (ys.length - 1) = true := by
  simp only [wayAns, Bool.and_eq_true, decide_eq_true_eq, beq_iff_eq] at h
  obtain ⟨⟨⟨⟨a, b⟩, c⟩, d⟩, e⟩ := h
  exact ⟨a, b, c, d, e⟩

theorem way_in {ss : List Stm} {ys : List Int} (h : wayAns ss ys = true) {k : Nat} (hk : k < ys.length) : ∃ j : Nat, ys.getD k 0 = (j : Int) ∧ j < ss.length := by
  obtain ⟨hp, h1, h2, h3, h4⟩ := wayAns_parts h
  exact stepsOk_in hp h3 (stepsOk_mono (by omega) h4)

theorem alongK_small {c : Int} {ss : List Stm} {ys : List Int} {s : Int} (h : wayAns ss ys = true) (hs : Small s) : ∀ {k : Nat}, k ≤ ys.length → Small (alongK c ss ys s k)
  | 0, _ => hs
  | k + 1, hk => by
    obtain ⟨j, hj, hlt⟩ := way_in h (k := k) (by omega)
    rw [alongK, hj, Int.toNat_natCast]
    exact img_small (flw_smalls (wayAns_parts h).1 hlt) _

theorem cut_all : ∀ a, a < 128 → ∀ b, b < 128 → decide (bits .andNot .i64 ((a : Nat) : Int) ((b : Nat) : Int) = 0) = decide (bits .or .i64 (b : Int) (a : Int) = (b : Int)) := by decide +kernel

/-- Has a all of b? -/
def hasA (a b : Int) : Bool := decide (lor a b = a)

theorem cut_has {a b : Int} (ha : Small a) (hb : Small b) : decide (bits .andNot .i64 b a = 0) = hasA a b := by
  obtain ⟨m, rfl, hm⟩ := small_nat ha
  obtain ⟨n, rfl, hn⟩ := small_nat hb
  exact cut_all n hn m hm

theorem hasA_iff {a b : Int} (ha : Small a) (hb : Small b) : hasA a b = true ↔ ∀ t, t < 7 → bit b t = true → bit a t = true := by
  unfold hasA
  rw [decide_eq_true_eq]
  constructor
  · intro h t ht hbt
    rw [← h, bit_lor ha hb, hbt, Bool.or_true]
  · intro h
    refine bit_ext (lor_small ha hb) ha (fun t ht => ?_)
    rw [bit_lor ha hb]
    cases hbt : bit b t
    · simp
    · rw [h t ht hbt]; rfl

/-- Have the nexts of statement i all that it makes of its set? -/
def covI (c : Int) (ss : List Stm) (xs : List Int) (i : Nat) : Bool := (nx ss i).all (fun x => hasA (xs.getD x.toNat 0) (img (flw c ss i) (xs.getD i 0)))

def covK (c : Int) (ss : List Stm) (xs : List Int) : Nat → Bool
  | 0 => true
  | k + 1 => covK c ss xs k && covI c ss xs k

def coversAns (ss : List Stm) (c s : Int) (xs : List Int) : Bool :=
  procOk ss && isCl c && inB s 0 127 && decide (xs.length = ss.length) && xs.all (fun x => inB x 0 127) && hasA (xs.getD 0 0) s && covK c ss xs ss.length

theorem covK_mono {c : Int} {ss : List Stm} {xs : List Int} : ∀ {m k : Nat}, k ≤ m → covK c ss xs m = true → covK c ss xs k = true
  | 0, k, h, hm => by obtain rfl : k = 0 := by omega
                      rfl
  | m + 1, k, h, hm => by
    rcases Nat.lt_or_ge k (m + 1) with h' | h'
    · simp only [covK, Bool.and_eq_true] at hm
      exact covK_mono (Nat.le_of_lt_succ h') hm.1
    · obtain rfl : k = m + 1 := by omega
      exact hm

theorem covK_iff {c : Int} {ss : List Stm} {xs : List Int} : ∀ {m : Nat}, covK c ss xs m = true ↔ ∀ i, i < m → covI c ss xs i = true
  | 0 => by simp [covK]
  | m + 1 => by
    rw [covK, Bool.and_eq_true, covK_iff]
    constructor
    · rintro ⟨a, b⟩ i hi
      rcases Nat.lt_or_ge i m with h | h
      · exact a i h
      · obtain rfl : i = m := by omega
        exact b
    · exact fun h => ⟨fun i hi => h i (by omega), h m (by omega)⟩

theorem smallAll {xs : List Int} (h : xs.all (fun x => inB x 0 127) = true) (k : Nat) : Small (xs.getD k 0) := by
  rcases Nat.lt_or_ge k xs.length with hk | hk
  · have := List.all_eq_true.1 h xs[k] (List.getElem_mem hk)
    simp [List.getD, hk]
    exact small_in.1 this
  · simp only [List.getD, List.getElem?_eq_none hk, Option.getD_none]
    exact ⟨by decide, by decide⟩

end Go.Proofs.Ytcecfmdlefkjfaa
