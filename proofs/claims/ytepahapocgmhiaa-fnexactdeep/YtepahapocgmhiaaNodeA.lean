/-
  Chapter 1: impl.tellsItsKindOnly, budget.admits, newBool, newNum, newText.
-/
import Derived.Test.YtepahapocgmhiaaRightV
import Derived.Test.YtepahapocgmhiaaFnKit
namespace Go.Proofs.Ytepahapocgmhiaa
open Go.RowKit
set_option linter.unusedVariables false
set_option linter.unusedSimpArgs false
set_option maxHeartbeats 8000000
set_option maxRecDepth 20000

/-- What tellsItsKindOnly asks. -/
def KindO (k n : Int) (t : ByteArray) (il kl : Nat) : Prop := (k ≠ 2 → k ≠ 3 → n = 0) ∧ (k ≠ 4 → t.toList = []) ∧ (k ≠ 5 → k ≠ 6 → il = 0) ∧ (k ≠ 6 → kl = 0)
def KoP (k n : Int) (t : ByteArray) (il kl : Nat) (w : World) (e : Ending) (w' : World) : Prop := ∃ b : Bool, e = .returned (.bool b) ∧ (b = true ↔ KindO k n t il kl) ∧ Below w.heap.size w w'
theorem ko_yes {k n : Int} {t : ByteArray} {il kl : Nat} {w w' : World} (h : KindO k n t il kl) (hb : Below w.heap.size w w') : KoP k n t il kl w (.returned (.bool true)) w' := ⟨true, rfl, ⟨fun _ => h, fun _ => rfl⟩, hb⟩
theorem ko_no {k n : Int} {t : ByteArray} {il kl : Nat} {w w' : World} (h : ¬ KindO k n t il kl) (hb : Below w.heap.size w w') : KoP k n t il kl w (.returned (.bool false)) w' := ⟨false, rfl, ⟨fun e => Bool.noConfusion e, fun e => absurd e h⟩, hb⟩

theorem kindOnly (k n : Int) (t : ByteArray) (ia : Option Addr) (il ic : Nat) (ka : Option Addr) (kl kc : Nat) (w : World) :
    Calls Try.prog 65 #[.agg #[.int .i64 k, .int .i64 n, .string t, .slice ia il ic, .slice ka kl kc]] w (KoP k n t il kl w) := by
  obtain ⟨W0, hW0⟩ : ∃ W, w.alloc (.cells #[.int .i64 k, .int .i64 n, .string t, .slice ia il ic, .slice ka kl kc] 30) = W := ⟨_, rfl⟩
  have hB : Below w.heap.size w W0 := by rw [← hW0]; go_grown
  have H0 : W0.heap[w.heap.size]? = some (.cells #[.int .i64 k, .int .i64 n, .string t, .slice ia il ic, .slice ka kl kc] 30 (0, 0)) := by rw [← hW0]; exact heap_alloc_new w _
  obtain ⟨c0, c1, c2, c3, c4⟩ := five_in H0
  have HB : Hid (Below w.heap.size w W0) := hB
  clear hB H0
  obtain rfl | rfl | rfl | rfl | rfl | hk : k = 2 ∨ k = 3 ∨ k = 4 ∨ k = 5 ∨ k = 6 ∨ (k ≠ 2 ∧ k ≠ 3 ∧ k ≠ 4 ∧ k ≠ 5 ∧ k ≠ 6) := by omega
  · by_cases ht0 : t.toList = []
    rotate_left
    · have ht1 : t.toList.isEmpty = false := by simpa using ht0
      have NO : Hid (¬ KindO 2 n t il kl) := fun h => by exact ht0 (h.2.1 (by first | omega | exact HK.out.2.2.1))
      go_enter Try.func65, Try.ntmps65
      go_wp2
      go_ret
      exact ko_no NO.out HB.out
    have ht1 : t.toList.isEmpty = true := by rw [ht0]; rfl
    by_cases hi0 : il = 0
    rotate_left
    · have hi1 : ((il : Int) == 0) = false := by simpa using hi0
      have NO : Hid (¬ KindO 2 n t il kl) := fun h => by exact hi0 (h.2.2.1 (by first | omega | exact HK.out.2.2.2.1) (by first | omega | exact HK.out.2.2.2.2))
      go_enter Try.func65, Try.ntmps65
      go_wp2
      go_ret
      exact ko_no NO.out HB.out
    subst hi0
    by_cases hk0 : kl = 0
    rotate_left
    · have hk1 : ((kl : Int) == 0) = false := by simpa using hk0
      have NO : Hid (¬ KindO 2 n t 0 kl) := fun h => by exact hk0 (h.2.2.2 (by first | omega | exact HK.out.2.2.2.2))
      go_enter Try.func65, Try.ntmps65
      go_wp2
      go_ret
      exact ko_no NO.out HB.out
    subst hk0
    have YES : Hid (KindO 2 n t 0 0) := ⟨fun h1 h2 => by omega, fun h => ht0, fun h1 h2 => by omega, fun h => by omega⟩
    go_enter Try.func65, Try.ntmps65
    go_wp2
    go_ret
    exact ko_yes YES.out HB.out
  · by_cases ht0 : t.toList = []
    rotate_left
    · have ht1 : t.toList.isEmpty = false := by simpa using ht0
      have NO : Hid (¬ KindO 3 n t il kl) := fun h => by exact ht0 (h.2.1 (by first | omega | exact HK.out.2.2.1))
      go_enter Try.func65, Try.ntmps65
      go_wp2
      go_ret
      exact ko_no NO.out HB.out
    have ht1 : t.toList.isEmpty = true := by rw [ht0]; rfl
    by_cases hi0 : il = 0
    rotate_left
    · have hi1 : ((il : Int) == 0) = false := by simpa using hi0
      have NO : Hid (¬ KindO 3 n t il kl) := fun h => by exact hi0 (h.2.2.1 (by first | omega | exact HK.out.2.2.2.1) (by first | omega | exact HK.out.2.2.2.2))
      go_enter Try.func65, Try.ntmps65
      go_wp2
      go_ret
      exact ko_no NO.out HB.out
    subst hi0
    by_cases hk0 : kl = 0
    rotate_left
    · have hk1 : ((kl : Int) == 0) = false := by simpa using hk0
      have NO : Hid (¬ KindO 3 n t 0 kl) := fun h => by exact hk0 (h.2.2.2 (by first | omega | exact HK.out.2.2.2.2))
      go_enter Try.func65, Try.ntmps65
      go_wp2
      go_ret
      exact ko_no NO.out HB.out
    subst hk0
    have YES : Hid (KindO 3 n t 0 0) := ⟨fun h1 h2 => by omega, fun h => ht0, fun h1 h2 => by omega, fun h => by omega⟩
    go_enter Try.func65, Try.ntmps65
    go_wp2
    go_ret
    exact ko_yes YES.out HB.out
  · by_cases hn0 : n = 0
    rotate_left
    · have hn1 : (n == 0) = false := by simpa using hn0
      have NO : Hid (¬ KindO 4 n t il kl) := fun h => by exact hn0 (h.1 (by first | omega | exact HK.out.1) (by first | omega | exact HK.out.2.1))
      go_enter Try.func65, Try.ntmps65
      go_wp2
      go_ret
      exact ko_no NO.out HB.out
    subst hn0
    by_cases hi0 : il = 0
    rotate_left
    · have hi1 : ((il : Int) == 0) = false := by simpa using hi0
      have NO : Hid (¬ KindO 4 0 t il kl) := fun h => by exact hi0 (h.2.2.1 (by first | omega | exact HK.out.2.2.2.1) (by first | omega | exact HK.out.2.2.2.2))
      go_enter Try.func65, Try.ntmps65
      go_wp2
      go_ret
      exact ko_no NO.out HB.out
    subst hi0
    by_cases hk0 : kl = 0
    rotate_left
    · have hk1 : ((kl : Int) == 0) = false := by simpa using hk0
      have NO : Hid (¬ KindO 4 0 t 0 kl) := fun h => by exact hk0 (h.2.2.2 (by first | omega | exact HK.out.2.2.2.2))
      go_enter Try.func65, Try.ntmps65
      go_wp2
      go_ret
      exact ko_no NO.out HB.out
    subst hk0
    have YES : Hid (KindO 4 0 t 0 0) := ⟨fun h1 h2 => by omega, fun h => absurd rfl h, fun h1 h2 => by omega, fun h => by omega⟩
    go_enter Try.func65, Try.ntmps65
    go_wp2
    go_ret
    exact ko_yes YES.out HB.out
  · by_cases hn0 : n = 0
    rotate_left
    · have hn1 : (n == 0) = false := by simpa using hn0
      have NO : Hid (¬ KindO 5 n t il kl) := fun h => by exact hn0 (h.1 (by first | omega | exact HK.out.1) (by first | omega | exact HK.out.2.1))
      go_enter Try.func65, Try.ntmps65
      go_wp2
      go_ret
      exact ko_no NO.out HB.out
    subst hn0
    by_cases ht0 : t.toList = []
    rotate_left
    · have ht1 : t.toList.isEmpty = false := by simpa using ht0
      have NO : Hid (¬ KindO 5 0 t il kl) := fun h => by exact ht0 (h.2.1 (by first | omega | exact HK.out.2.2.1))
      go_enter Try.func65, Try.ntmps65
      go_wp2
      go_ret
      exact ko_no NO.out HB.out
    have ht1 : t.toList.isEmpty = true := by rw [ht0]; rfl
    by_cases hk0 : kl = 0
    rotate_left
    · have hk1 : ((kl : Int) == 0) = false := by simpa using hk0
      have NO : Hid (¬ KindO 5 0 t il kl) := fun h => by exact hk0 (h.2.2.2 (by first | omega | exact HK.out.2.2.2.2))
      go_enter Try.func65, Try.ntmps65
      go_wp2
      go_ret
      exact ko_no NO.out HB.out
    subst hk0
    have YES : Hid (KindO 5 0 t il 0) := ⟨fun h1 h2 => by omega, fun h => ht0, fun h1 h2 => by omega, fun h => by omega⟩
    go_enter Try.func65, Try.ntmps65
    go_wp2
    go_ret
    exact ko_yes YES.out HB.out
  · by_cases hn0 : n = 0
    rotate_left
    · have hn1 : (n == 0) = false := by simpa using hn0
      have NO : Hid (¬ KindO 6 n t il kl) := fun h => by exact hn0 (h.1 (by first | omega | exact HK.out.1) (by first | omega | exact HK.out.2.1))
      go_enter Try.func65, Try.ntmps65
      go_wp2
      go_ret
      exact ko_no NO.out HB.out
    subst hn0
    by_cases ht0 : t.toList = []
    rotate_left
    · have ht1 : t.toList.isEmpty = false := by simpa using ht0
      have NO : Hid (¬ KindO 6 0 t il kl) := fun h => by exact ht0 (h.2.1 (by first | omega | exact HK.out.2.2.1))
      go_enter Try.func65, Try.ntmps65
      go_wp2
      go_ret
      exact ko_no NO.out HB.out
    have ht1 : t.toList.isEmpty = true := by rw [ht0]; rfl
    have YES : Hid (KindO 6 0 t il kl) := ⟨fun h1 h2 => by omega, fun h => ht0, fun h1 h2 => by omega, fun h => by omega⟩
    go_enter Try.func65, Try.ntmps65
    go_wp2
    go_ret
    exact ko_yes YES.out HB.out
  · obtain ⟨k2, k3, k4, k5, k6⟩ : (k == 2) = false ∧ (k == 3) = false ∧ (k == 4) = false ∧ (k == 5) = false ∧ (k == 6) = false := by simp; omega
    have HK : Hid _ := hk
    clear hk
    by_cases hn0 : n = 0
    rotate_left
    · have hn1 : (n == 0) = false := by simpa using hn0
      have NO : Hid (¬ KindO k n t il kl) := fun h => by exact hn0 (h.1 (by first | omega | exact HK.out.1) (by first | omega | exact HK.out.2.1))
      go_enter Try.func65, Try.ntmps65
      go_wp2
      go_ret
      exact ko_no NO.out HB.out
    subst hn0
    by_cases ht0 : t.toList = []
    rotate_left
    · have ht1 : t.toList.isEmpty = false := by simpa using ht0
      have NO : Hid (¬ KindO k 0 t il kl) := fun h => by exact ht0 (h.2.1 (by first | omega | exact HK.out.2.2.1))
      go_enter Try.func65, Try.ntmps65
      go_wp2
      go_ret
      exact ko_no NO.out HB.out
    have ht1 : t.toList.isEmpty = true := by rw [ht0]; rfl
    by_cases hi0 : il = 0
    rotate_left
    · have hi1 : ((il : Int) == 0) = false := by simpa using hi0
      have NO : Hid (¬ KindO k 0 t il kl) := fun h => by exact hi0 (h.2.2.1 (by first | omega | exact HK.out.2.2.2.1) (by first | omega | exact HK.out.2.2.2.2))
      go_enter Try.func65, Try.ntmps65
      go_wp2
      go_ret
      exact ko_no NO.out HB.out
    subst hi0
    by_cases hk0 : kl = 0
    rotate_left
    · have hk1 : ((kl : Int) == 0) = false := by simpa using hk0
      have NO : Hid (¬ KindO k 0 t 0 kl) := fun h => by exact hk0 (h.2.2.2 (by first | omega | exact HK.out.2.2.2.2))
      go_enter Try.func65, Try.ntmps65
      go_wp2
      go_ret
      exact ko_no NO.out HB.out
    subst hk0
    have YES : Hid (KindO k 0 t 0 0) := ⟨fun h1 h2 => by omega, fun h => ht0, fun h1 h2 => by omega, fun h => by omega⟩
    go_enter Try.func65, Try.ntmps65
    go_wp2
    go_ret
    exact ko_yes YES.out HB.out

theorem admits (g : Nat) (l level : Int) (w : World) (hl0 : -10 ≤ l) (hl1 : l ≤ 1000) (hg : w.heap[g]? = some (.cells #[.int .i64 l] 83 (0, 0))) :
    Calls Try.prog 64 #[.pointer (some ⟨g, 0, none⟩), .int .i64 level] w fun e w' => e = .returned (.bool (decide (0 ≤ l - 1) && decide (level ≤ 6))) ∧ w'.heap[g]? = some (.cells #[.int .i64 (l - 1)] 83 (0, 0)) ∧ w.grownBy w' (some g) := by
  have hw1 : IntKind.i64.wrap (l - 1) = l - 1 := IntWalk.i64_in _ (by omega)
  have c0 : w.cell? ⟨g, 0, none⟩ = some (.int .i64 l) := by simp [World.cell?, hg]
  have f0 : w.frozen? ⟨g, 0, none⟩ = false := by simp [World.frozen?, hg]
  have H1 : (w.setCell ⟨g, 0, none⟩ (.int .i64 (l - 1))).heap[g]? = some (.cells #[.int .i64 (l - 1)] 83 (0, 0)) := by
    have h9 := heap_setCell_same w g 0 _ _ (.int .i64 (l - 1)) hg
    simpa using h9
  have G1 : w.grownBy (w.setCell ⟨g, 0, none⟩ (.int .i64 (l - 1))) (some g) := ⟨rfl, rfl, rfl, by simp [World.setCell], fun k _ hk => Below.heap_setCell _ _ _ k (fun e => hk (by rw [e]))⟩
  obtain ⟨W1, hW1⟩ : ∃ W, w.setCell ⟨g, 0, none⟩ (.int .i64 (l - 1)) = W := ⟨_, rfl⟩
  rw [hW1] at H1 G1
  have c1 : W1.cell? ⟨g, 0, none⟩ = some (.int .i64 (l - 1)) := by simp [World.cell?, H1]
  have HH : Hid _ := H1
  have HG : Hid _ := G1
  clear H1 G1 hg
  by_cases h0 : 0 ≤ l - 1
  · have h0' : decide (0 ≤ l - 1) = true := decide_eq_true h0
    rw [h0', Bool.true_and]
    go_enter Try.func64, Try.ntmps64
    go_wp2
    go_ret
    exact ⟨rfl, HH.out, HG.out⟩
  · have h0' : decide (0 ≤ l - 1) = false := decide_eq_false h0
    rw [h0', Bool.false_and]
    go_enter Try.func64, Try.ntmps64
    go_wp2
    go_ret
    exact ⟨rfl, HH.out, HG.out⟩

theorem newBool (n : Int) (w : World) :
    Calls Try.prog 66 #[.int .i64 n] w fun e w' => e = .returned (.tuple #[.iface 93 (.agg #[.int .i64 n]), .bool (decide (n = 0) || decide (n = 1))]) ∧ w = w' := by
  by_cases h0 : n = 0
  · subst h0
    go_enter Try.func66, Try.ntmps66
    go_wp2
    go_ret2
    exact ⟨rfl, rfl⟩
  · have h1 : (n == 0) = false := by simpa using h0
    rw [decide_eq_false h0, Bool.false_or]
    by_cases h2 : n = 1
    · subst h2
      clear h0 h1
      go_enter Try.func66, Try.ntmps66
      go_wp2
      go_ret2
      exact ⟨rfl, rfl⟩
    · have h3 : (n == 1) = false := by simpa using h2
      rw [decide_eq_false h2]
      clear h0 h2
      go_enter Try.func66, Try.ntmps66
      go_wp2
      go_ret2
      exact ⟨rfl, rfl⟩

theorem newNum (n : Int) (w : World) :
    Calls Try.prog 67 #[.int .i64 n] w fun e w' => e = .returned (.tuple #[.iface 94 (.agg #[.int .i64 n]), .bool (decide (-999999999 ≤ n) && decide (n ≤ 999999999))]) ∧ w = w' := by
  by_cases h0 : -999999999 ≤ n
  · have h1 : decide (-999999999 ≤ n) = true := decide_eq_true h0
    rw [h1, Bool.true_and]
    clear h0
    go_enter Try.func67, Try.ntmps67
    go_wp2
    go_ret2
    exact ⟨rfl, rfl⟩
  · have h1 : decide (-999999999 ≤ n) = false := decide_eq_false h0
    rw [h1, Bool.false_and]
    clear h0
    go_enter Try.func67, Try.ntmps67
    go_wp2
    go_ret2
    exact ⟨rfl, rfl⟩

theorem newText (t : ByteArray) (w : World) (ht : t.size ≤ maxLen) :
    Calls Try.prog 68 #[.string t] w fun e w' => e = .returned (.tuple #[.iface 96 (.agg #[.string t]), .bool (textB t)]) ∧ w = w' := by
  have htx := implText t w ht
  obtain ⟨b, hb⟩ : ∃ b, textB t = b := ⟨_, rfl⟩
  rw [hb] at htx ⊢
  clear hb
  go_enter Try.func68, Try.ntmps68
  go_wp2_with fail
  go_at_call 74
  refine htx.mono ?_
  rintro e W ⟨rfl, hW⟩
  obtain rfl : w = W := hW
  clear htx
  go_wp2
  go_ret2
  exact ⟨rfl, rfl⟩

end Go.Proofs.Ytepahapocgmhiaa
