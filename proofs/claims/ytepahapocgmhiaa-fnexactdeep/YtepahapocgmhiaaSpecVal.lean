/-
  Chapter 1: spec.l1Value.
-/
import Derived.Test.YtepahapocgmhiaaRightV
import Derived.Test.YtepahapocgmhiaaFnKit
import Derived.Test.YtepahapocgmhiaaStmt
import Derived.BigRegion
namespace Go.Proofs.Ytepahapocgmhiaa
open Go.RowKit
set_option linter.unusedVariables false
set_option linter.unusedSimpArgs false
set_option maxHeartbeats 8000000
set_option maxRecDepth 20000

/-- What l1Value answers. -/
def L1P {d : Nat} (x : Val d) (deep : Int) (m g : Nat) (w : World) (e : Ending) (w' : World) : Prop :=
  ∃ (b : Bool) (m' : Int), e = .returned (.bool b) ∧ (b = true ↔ RightV d x deep ∧ m + cntV d x ≤ 100) ∧ w'.heap[g]? = some (.cells #[.int .i64 m'] 2 (0, 0)) ∧ (b = true → m' = ((m + cntV d x : Nat) : Int)) ∧ w.grownBy w' (some g)

/-- The counter, the value in its box. -/
structure S1 (w : World) (g : Nat) (m : Int) (c : Array Value) (W : World) : Prop where
  cnt : W.heap[g]? = some (.cells #[.int .i64 m] 2 (0, 0))
  box : W.heap[w.heap.size]? = some (.cells c 30 (0, 0))
  gr : w.grownBy W (some g)

theorem S1.yes {d : Nat} {x : Val d} {deep : Int} {m g : Nat} {w W : World} {c : Array Value} {m' : Int} (h : S1 w g m' c W) (hn : RightV d x deep ∧ m + cntV d x ≤ 100) (hm : m' = ((m + cntV d x : Nat) : Int)) : L1P x deep m g w (.returned (.bool true)) W :=
  ⟨true, m', rfl, ⟨fun _ => hn, fun _ => rfl⟩, h.cnt, fun _ => hm, h.gr⟩
theorem text_ne {a b : ByteArray} (h : a ≠ b) : (a.toList == b.toList) = false := by
  rw [beq_eq_false_iff_ne, ByteArray.toList_eq, ByteArray.toList_eq]
  exact fun e => h (ByteArray.ext (Array.toList_inj.1 e))
theorem meas_step {j il : Nat} (h : j < il) : il - (intOf (.int .i64 ((j : Int) + 1))).toNat < il - (intOf (.int .i64 (j : Int))).toNat := by
  simp [intOf]; omega
theorem S1.drew {w W : World} {g : Nat} {m : Int} {c : Array Value} (h : S1 w g m c W) : S1 w g m c W.drew := ⟨h.cnt, h.box, ⟨h.gr.os, h.gr.tape, h.gr.output, h.gr.size, h.gr.block⟩⟩
theorem S1.call {w W W' : World} {g : Nat} {m m' : Int} {c : Array Value} (h : S1 w g m c W) (hc : W'.heap[g]? = some (.cells #[.int .i64 m'] 2 (0, 0))) (hg : W.grownBy W' (some g)) (hne : w.heap.size ≠ g) : S1 w g m' c W' :=
  ⟨hc, (hg.block _ (Array.getElem?_eq_some_iff.1 h.box).1 (fun e => hne (Option.some.inj e))).trans h.box, grown_trans h.gr hg⟩
theorem S1.cell {w W : World} {g b o : Nat} {m : Int} {c : Array Value} {v : Value} (h : S1 w g m c W) (hb : b < g) (hgw : g < w.heap.size) (hc : w.cell? ⟨b, o, none⟩ = some v) : W.cell? ⟨b, o, none⟩ = some v :=
  (World.cell?_of_block (h.gr.block b (by omega) (fun e => by cases e; omega))).trans hc

theorem S1.no {d : Nat} {x : Val d} {deep : Int} {m g : Nat} {w W : World} {c : Array Value} {m' : Int} (h : S1 w g m' c W) (hn : ¬ (RightV d x deep ∧ m + cntV d x ≤ 100)) : L1P x deep m g w (.returned (.bool false)) W :=
  ⟨false, m', rfl, ⟨fun e => Bool.noConfusion e, fun e => absurd e hn⟩, h.cnt, fun e => Bool.noConfusion e, h.gr⟩
theorem S1.put {w W : World} {g : Nat} {m m2 : Int} {c : Array Value} (h : S1 w g m c W) (hne : w.heap.size ≠ g) : S1 w g m2 c (W.setCell ⟨g, 0, none⟩ (.int .i64 m2)) := by
  refine ⟨?_, (Below.heap_setCell _ _ _ _ (by simpa using hne)).trans h.box, grown_trans h.gr ⟨rfl, rfl, rfl, by simp [World.setCell], fun k _ hk => Below.heap_setCell _ _ _ k (fun e => hk (by rw [e]))⟩⟩
  have h9 := heap_setCell_same W g 0 _ _ (.int .i64 m2) h.cnt
  simpa using h9
theorem one_inV {w : World} {b : Nat} {x0 : Value} {T : TypeId} (h : w.heap[b]? = some (.cells #[x0] T (0, 0))) : w.cell? ⟨b, 0, none⟩ = some x0 ∧ w.frozen? ⟨b, 0, none⟩ = false := by
  refine ⟨?_, ?_⟩ <;> simp [World.cell?, World.frozen?, h]

theorem stepL1 {d : Nat} (ih : ∀ (x : Val d) (cs : List Value) (deep : Int) (m g : Nat) (w : World), m ≤ 100 → 0 ≤ deep → deep ≤ 6 → g < w.heap.size → RdVL d w g cs x → w.heap[g]? = some (.cells #[.int .i64 (m : Int)] 2 (0, 0)) →
      Calls Try.prog 50 #[.agg cs.toArray, .int .i64 deep, .pointer (some ⟨g, 0, none⟩)] w (L1P x deep m g w))
    (k n : Int) (t : ByteArray) (its : List (Val d)) (ks : List ByteArray) (cs : List Value) (deep : Int) (m g : Nat) (w : World) (hm : m ≤ 100) (hd0 : 0 ≤ deep) (hd6 : deep ≤ 6) (hgw : g < w.heap.size) (hr : RdVL (d + 1) w g cs (k, n, t, its, ks))
    (hg : w.heap[g]? = some (.cells #[.int .i64 (m : Int)] 2 (0, 0))) :
    Calls Try.prog 50 #[.agg cs.toArray, .int .i64 deep, .pointer (some ⟨g, 0, none⟩)] w (L1P (d := d + 1) (k, n, t, its, ks) deep m g w) := by
    obtain ⟨iv, kv, rfl, ⟨ia, ic, rfl, hic⟩, hil, ⟨ka, kc, rfl, -, hkc⟩, hkl, htl, hkx⟩ := hr
    rw [List.length_map]
    obtain ⟨il, hil9⟩ : ∃ z, its.length = z := ⟨_, rfl⟩
    obtain ⟨kl, hkl9⟩ : ∃ z, ks.length = z := ⟨_, rfl⟩
    rw [hil9] at hil ⊢
    rw [hkl9] at hkl ⊢
    have HIL : Hid (its.length = il) := hil9
    have HKL : Hid (ks.length = kl) := hkl9
    clear hil9 hkl9
    obtain ⟨W0, hW0⟩ : ∃ W, w.alloc (.cells #[.int .i64 k, .int .i64 n, .string t, .slice ia il ic, .slice ka kl kc] 30) = W := ⟨_, rfl⟩
    have hS0 : S1 w g m #[.int .i64 k, .int .i64 n, .string t, .slice ia il ic, .slice ka kl kc] W0 := by
      rw [← hW0]
      exact ⟨(old_block hgw).trans hg, heap_alloc_new w _, ⟨rfl, rfl, rfl, by simp, fun b hb _ => old_block hb⟩⟩
    obtain ⟨W1, hW1⟩ : ∃ W, W0.setCell ⟨g, 0, none⟩ (.int .i64 ((m : Int) + 1)) = W := ⟨_, rfl⟩
    have HS : Hid (S1 w g ((m : Int) + 1) #[.int .i64 k, .int .i64 n, .string t, .slice ia il ic, .slice ka kl kc] W1) := by
      show S1 w g ((m : Int) + 1) _ W1
      rw [← hW1]; exact hS0.put (by omega)
    obtain ⟨z0, z1⟩ := one_inV hS0.cnt
    obtain ⟨g0, g1⟩ := one_inV HS.out.cnt
    obtain ⟨c0, c1, c2, c3, c4⟩ := five_in HS.out.box
    have hw1 : IntKind.i64.wrap ((m : Int) + 1) = (m : Int) + 1 := IntWalk.i64_in _ (by omega)
    have HIC : Hid _ := hic
    have HKC : Hid _ := hkc
    have hgne : g ≠ w.heap.size := by omega
    clear hS0 hic hkc hg
    unfold maxLen at hil hkl htl
    by_cases h100 : 100 < m + 1
    · have h100' : decide ((100 : Int) < (m : Int) + 1) = true := decide_eq_true (by omega)
      have NO : Hid (¬ (RightV (d + 1) (k, n, t, its, ks) deep ∧ m + cntV (d + 1) (k, n, t, its, ks) ≤ 100)) := fun ⟨h1, h2⟩ => by have := right_pos h1; omega
      clear h100
      go_enter Try.func50, Try.ntmps50
      go_wp2
      go_ret
      exact HS.out.no NO.out
    have h100' : decide ((100 : Int) < (m : Int) + 1) = false := decide_eq_false (by omega)
    by_cases hdp : deep < 1
    · have hdp' : decide (deep < 1) = true := decide_eq_true hdp
      have NO : Hid (¬ (RightV (d + 1) (k, n, t, its, ks) deep ∧ m + cntV (d + 1) (k, n, t, its, ks) ≤ 100)) := fun ⟨h1, h2⟩ => by have := h1.1; omega
      clear hdp
      go_enter Try.func50, Try.ntmps50
      go_wp2
      go_ret
      exact HS.out.no NO.out
    have hdp' : decide (deep < 1) = false := decide_eq_false (by omega)
    obtain rfl | rfl | rfl | rfl | rfl | rfl | hk : k = 1 ∨ k = 2 ∨ k = 3 ∨ k = 4 ∨ k = 5 ∨ k = 6 ∨ (k < 1 ∨ 6 < k) := by omega
    · by_cases ht0 : t.toList = []
      rotate_left
      · have ht1 : t.toList.isEmpty = false := by simpa using ht0
        have NO : Hid (¬ (RightV (d + 1) (1, n, t, its, ks) deep ∧ m + cntV (d + 1) (1, n, t, its, ks) ≤ 100)) := fun ⟨h1, h2⟩ => by exact ht0 (h1.2.1.ht (by omega))
        go_enter Try.func50, Try.ntmps50
        go_wp2
        go_ret
        exact HS.out.no NO.out
      have ht1 : t.toList.isEmpty = true := by rw [ht0]; rfl
      by_cases hk0 : kl = 0
      rotate_left
      · have hk1 : 0 < kl := by omega
        have NO : Hid (¬ (RightV (d + 1) (1, n, t, its, ks) deep ∧ m + cntV (d + 1) (1, n, t, its, ks) ≤ 100)) := fun ⟨h1, h2⟩ => by have h3 := h1.2.1.hk (by omega); have h4 := HKL.out; rw [h3] at h4; simp at h4; omega
        go_enter Try.func50, Try.ntmps50
        go_wp2
        go_ret
        exact HS.out.no NO.out
      subst hk0
      have HK0 : Hid (ks = []) := List.eq_nil_of_length_eq_zero HKL.out
      by_cases hi0 : il = 0
      rotate_left
      · have hi1 : 0 < il := by omega
        have NO : Hid (¬ (RightV (d + 1) (1, n, t, its, ks) deep ∧ m + cntV (d + 1) (1, n, t, its, ks) ≤ 100)) := fun ⟨h1, h2⟩ => by have h3 := h1.2.1.hm (by omega); have h4 := HIL.out; omega
        go_enter Try.func50, Try.ntmps50
        go_wp2
        go_ret
        exact HS.out.no NO.out
      subst hi0
      have HI0 : Hid (its = []) := List.eq_nil_of_length_eq_zero HIL.out
      by_cases hn0 : n = 0
      rotate_left
      · have hn1 : (n != 0) = true := by simpa using hn0
        have NO : Hid (¬ (RightV (d + 1) (1, n, t, its, ks) deep ∧ m + cntV (d + 1) (1, n, t, its, ks) ≤ 100)) := fun ⟨h1, h2⟩ => by exact hn0 (h1.2.1.hn (by omega) (by omega))
        go_enter Try.func50, Try.ntmps50
        go_wp2
        go_ret
        exact HS.out.no NO.out
      subst hn0
      have C1 : Hid (cntV (d + 1) (1, 0, t, its, ks) = 1) := by show cntV (d + 1) (1, 0, t, its, ks) = 1; rw [HI0.out]; rfl
      have YES : Hid (RightV (d + 1) (1, 0, t, its, ks) deep ∧ m + cntV (d + 1) (1, 0, t, its, ks) ≤ 100) := ⟨⟨by omega, ⟨by omega, by omega, fun _ _ => rfl, fun h => by omega, fun h => by omega, fun _ => ht0, fun h => by omega, fun _ => HIL.out, fun _ => HK0.out, fun h => by omega⟩, fun x hx => by rw [HI0.out] at hx; simp at hx⟩, by rw [C1.out]; omega⟩
      have CNT : Hid (((m : Int) + 1) = ((m + cntV (d + 1) (1, 0, t, its, ks) : Nat) : Int)) := by show ((m : Int) + 1) = ((m + cntV (d + 1) (1, 0, t, its, ks) : Nat) : Int); rw [C1.out]; rfl
      go_enter Try.func50, Try.ntmps50
      go_wp2
      go_ret
      exact HS.out.yes YES.out CNT.out
    · by_cases ht0 : t.toList = []
      rotate_left
      · have ht1 : t.toList.isEmpty = false := by simpa using ht0
        have NO : Hid (¬ (RightV (d + 1) (2, n, t, its, ks) deep ∧ m + cntV (d + 1) (2, n, t, its, ks) ≤ 100)) := fun ⟨h1, h2⟩ => by exact ht0 (h1.2.1.ht (by omega))
        go_enter Try.func50, Try.ntmps50
        go_wp2
        go_ret
        exact HS.out.no NO.out
      have ht1 : t.toList.isEmpty = true := by rw [ht0]; rfl
      by_cases hk0 : kl = 0
      rotate_left
      · have hk1 : 0 < kl := by omega
        have NO : Hid (¬ (RightV (d + 1) (2, n, t, its, ks) deep ∧ m + cntV (d + 1) (2, n, t, its, ks) ≤ 100)) := fun ⟨h1, h2⟩ => by have h3 := h1.2.1.hk (by omega); have h4 := HKL.out; rw [h3] at h4; simp at h4; omega
        go_enter Try.func50, Try.ntmps50
        go_wp2
        go_ret
        exact HS.out.no NO.out
      subst hk0
      have HK0 : Hid (ks = []) := List.eq_nil_of_length_eq_zero HKL.out
      by_cases hi0 : il = 0
      rotate_left
      · have hi1 : 0 < il := by omega
        have NO : Hid (¬ (RightV (d + 1) (2, n, t, its, ks) deep ∧ m + cntV (d + 1) (2, n, t, its, ks) ≤ 100)) := fun ⟨h1, h2⟩ => by have h3 := h1.2.1.hm (by omega); have h4 := HIL.out; omega
        go_enter Try.func50, Try.ntmps50
        go_wp2
        go_ret
        exact HS.out.no NO.out
      subst hi0
      have HI0 : Hid (its = []) := List.eq_nil_of_length_eq_zero HIL.out
      have hin := l1In n 0 1
      by_cases hnn : 0 ≤ n ∧ n ≤ 1
      · have hb : inB n 0 1 = true := by unfold inB; simp; omega
        rw [hb] at hin
        have C1 : Hid (cntV (d + 1) (2, n, t, its, ks) = 1) := by show cntV (d + 1) (2, n, t, its, ks) = 1; rw [HI0.out]; rfl
        have YES : Hid (RightV (d + 1) (2, n, t, its, ks) deep ∧ m + cntV (d + 1) (2, n, t, its, ks) ≤ 100) := ⟨⟨by omega, ⟨by omega, by omega, fun h _ => absurd rfl h, fun _ => hnn, fun h => by omega, fun _ => ht0, fun h => by omega, fun _ => HIL.out, fun _ => HK0.out, fun h => by omega⟩, fun x hx => by rw [HI0.out] at hx; simp at hx⟩, by rw [C1.out]; omega⟩
        have CNT : Hid (((m : Int) + 1) = ((m + cntV (d + 1) (2, n, t, its, ks) : Nat) : Int)) := by show ((m : Int) + 1) = ((m + cntV (d + 1) (2, n, t, its, ks) : Nat) : Int); rw [C1.out]; rfl
        clear hb hnn
        go_enter Try.func50, Try.ntmps50
        go_wp2_with fail
        go_at_call 62
        refine (hin _).mono ?_
        rintro e W2 ⟨rfl, hW2⟩
        obtain rfl : W1 = W2 := hW2
        clear hin
        go_wp2
        go_ret
        exact HS.out.yes YES.out CNT.out
      · have hb : inB n 0 1 = false := by unfold inB; simp; omega
        rw [hb] at hin
        have NO : Hid (¬ (RightV (d + 1) (2, n, t, its, ks) deep ∧ m + cntV (d + 1) (2, n, t, its, ks) ≤ 100)) := fun ⟨h1, h2⟩ => hnn (h1.2.1.h2 rfl)
        clear hb hnn
        go_enter Try.func50, Try.ntmps50
        go_wp2_with fail
        go_at_call 62
        refine (hin _).mono ?_
        rintro e W2 ⟨rfl, hW2⟩
        obtain rfl : W1 = W2 := hW2
        clear hin
        go_wp2
        go_ret
        exact HS.out.no NO.out
    · by_cases ht0 : t.toList = []
      rotate_left
      · have ht1 : t.toList.isEmpty = false := by simpa using ht0
        have NO : Hid (¬ (RightV (d + 1) (3, n, t, its, ks) deep ∧ m + cntV (d + 1) (3, n, t, its, ks) ≤ 100)) := fun ⟨h1, h2⟩ => by exact ht0 (h1.2.1.ht (by omega))
        go_enter Try.func50, Try.ntmps50
        go_wp2
        go_ret
        exact HS.out.no NO.out
      have ht1 : t.toList.isEmpty = true := by rw [ht0]; rfl
      by_cases hk0 : kl = 0
      rotate_left
      · have hk1 : 0 < kl := by omega
        have NO : Hid (¬ (RightV (d + 1) (3, n, t, its, ks) deep ∧ m + cntV (d + 1) (3, n, t, its, ks) ≤ 100)) := fun ⟨h1, h2⟩ => by have h3 := h1.2.1.hk (by omega); have h4 := HKL.out; rw [h3] at h4; simp at h4; omega
        go_enter Try.func50, Try.ntmps50
        go_wp2
        go_ret
        exact HS.out.no NO.out
      subst hk0
      have HK0 : Hid (ks = []) := List.eq_nil_of_length_eq_zero HKL.out
      by_cases hi0 : il = 0
      rotate_left
      · have hi1 : 0 < il := by omega
        have NO : Hid (¬ (RightV (d + 1) (3, n, t, its, ks) deep ∧ m + cntV (d + 1) (3, n, t, its, ks) ≤ 100)) := fun ⟨h1, h2⟩ => by have h3 := h1.2.1.hm (by omega); have h4 := HIL.out; omega
        go_enter Try.func50, Try.ntmps50
        go_wp2
        go_ret
        exact HS.out.no NO.out
      subst hi0
      have HI0 : Hid (its = []) := List.eq_nil_of_length_eq_zero HIL.out
      have hin := l1In n (-999999999) 999999999
      by_cases hnn : (-999999999) ≤ n ∧ n ≤ 999999999
      · have hb : inB n (-999999999) 999999999 = true := by unfold inB; simp; omega
        rw [hb] at hin
        have C1 : Hid (cntV (d + 1) (3, n, t, its, ks) = 1) := by show cntV (d + 1) (3, n, t, its, ks) = 1; rw [HI0.out]; rfl
        have YES : Hid (RightV (d + 1) (3, n, t, its, ks) deep ∧ m + cntV (d + 1) (3, n, t, its, ks) ≤ 100) := ⟨⟨by omega, ⟨by omega, by omega, fun _ h => absurd rfl h, fun h => by omega, fun _ => hnn, fun _ => ht0, fun h => by omega, fun _ => HIL.out, fun _ => HK0.out, fun h => by omega⟩, fun x hx => by rw [HI0.out] at hx; simp at hx⟩, by rw [C1.out]; omega⟩
        have CNT : Hid (((m : Int) + 1) = ((m + cntV (d + 1) (3, n, t, its, ks) : Nat) : Int)) := by show ((m : Int) + 1) = ((m + cntV (d + 1) (3, n, t, its, ks) : Nat) : Int); rw [C1.out]; rfl
        clear hb hnn
        go_enter Try.func50, Try.ntmps50
        go_wp2_with fail
        go_at_call 62
        refine (hin _).mono ?_
        rintro e W2 ⟨rfl, hW2⟩
        obtain rfl : W1 = W2 := hW2
        clear hin
        go_wp2
        go_ret
        exact HS.out.yes YES.out CNT.out
      · have hb : inB n (-999999999) 999999999 = false := by unfold inB; simp; omega
        rw [hb] at hin
        have NO : Hid (¬ (RightV (d + 1) (3, n, t, its, ks) deep ∧ m + cntV (d + 1) (3, n, t, its, ks) ≤ 100)) := fun ⟨h1, h2⟩ => hnn (h1.2.1.h3 rfl)
        clear hb hnn
        go_enter Try.func50, Try.ntmps50
        go_wp2_with fail
        go_at_call 62
        refine (hin _).mono ?_
        rintro e W2 ⟨rfl, hW2⟩
        obtain rfl : W1 = W2 := hW2
        clear hin
        go_wp2
        go_ret
        exact HS.out.no NO.out
    · by_cases hk0 : kl = 0
      rotate_left
      · have hk1 : 0 < kl := by omega
        have NO : Hid (¬ (RightV (d + 1) (4, n, t, its, ks) deep ∧ m + cntV (d + 1) (4, n, t, its, ks) ≤ 100)) := fun ⟨h1, h2⟩ => by have h3 := h1.2.1.hk (by omega); have h4 := HKL.out; rw [h3] at h4; simp at h4; omega
        go_enter Try.func50, Try.ntmps50
        go_wp2
        go_ret
        exact HS.out.no NO.out
      subst hk0
      have HK0 : Hid (ks = []) := List.eq_nil_of_length_eq_zero HKL.out
      by_cases hi0 : il = 0
      rotate_left
      · have hi1 : 0 < il := by omega
        have NO : Hid (¬ (RightV (d + 1) (4, n, t, its, ks) deep ∧ m + cntV (d + 1) (4, n, t, its, ks) ≤ 100)) := fun ⟨h1, h2⟩ => by have h3 := h1.2.1.hm (by omega); have h4 := HIL.out; omega
        go_enter Try.func50, Try.ntmps50
        go_wp2
        go_ret
        exact HS.out.no NO.out
      subst hi0
      have HI0 : Hid (its = []) := List.eq_nil_of_length_eq_zero HIL.out
      by_cases hn0 : n = 0
      rotate_left
      · have hn1 : (n != 0) = true := by simpa using hn0
        have NO : Hid (¬ (RightV (d + 1) (4, n, t, its, ks) deep ∧ m + cntV (d + 1) (4, n, t, its, ks) ≤ 100)) := fun ⟨h1, h2⟩ => by exact hn0 (h1.2.1.hn (by omega) (by omega))
        go_enter Try.func50, Try.ntmps50
        go_wp2
        go_ret
        exact HS.out.no NO.out
      subst hn0
      have htx := specText t W1 (by unfold maxLen; exact htl)
      obtain ⟨b, hb⟩ : ∃ b, textB t = b := ⟨_, rfl⟩
      rw [hb] at htx
      cases b with
      | true =>
        have C1 : Hid (cntV (d + 1) (4, 0, t, its, ks) = 1) := by show cntV (d + 1) (4, 0, t, its, ks) = 1; rw [HI0.out]; rfl
        have YES : Hid (RightV (d + 1) (4, 0, t, its, ks) deep ∧ m + cntV (d + 1) (4, 0, t, its, ks) ≤ 100) := ⟨⟨by omega, ⟨by omega, by omega, fun _ _ => rfl, fun h => by omega, fun h => by omega, fun h => absurd rfl h, fun _ => hb, fun _ => HIL.out, fun _ => HK0.out, fun h => by omega⟩, fun x hx => by rw [HI0.out] at hx; simp at hx⟩, by rw [C1.out]; omega⟩
        have CNT : Hid (((m : Int) + 1) = ((m + cntV (d + 1) (4, 0, t, its, ks) : Nat) : Int)) := by show ((m : Int) + 1) = ((m + cntV (d + 1) (4, 0, t, its, ks) : Nat) : Int); rw [C1.out]; rfl
        clear hb
        go_enter Try.func50, Try.ntmps50
        go_wp2_with fail
        go_at_call 63
        refine htx.mono ?_
        rintro e W2 ⟨rfl, hW2⟩
        obtain rfl : W1 = W2 := hW2
        clear htx
        go_wp2
        go_ret
        exact HS.out.yes YES.out CNT.out
      | false =>
        have NO : Hid (¬ (RightV (d + 1) (4, 0, t, its, ks) deep ∧ m + cntV (d + 1) (4, 0, t, its, ks) ≤ 100)) := fun ⟨h1, h2⟩ => by have h3 := h1.2.1.h4 rfl; rw [hb] at h3; cases h3
        clear hb
        go_enter Try.func50, Try.ntmps50
        go_wp2_with fail
        go_at_call 63
        refine htx.mono ?_
        rintro e W2 ⟨rfl, hW2⟩
        obtain rfl : W1 = W2 := hW2
        clear htx
        go_wp2
        go_ret
        exact HS.out.no NO.out
    · by_cases ht0 : t.toList = []
      rotate_left
      · have ht1 : t.toList.isEmpty = false := by simpa using ht0
        have NO : Hid (¬ (RightV (d + 1) (5, n, t, its, ks) deep ∧ m + cntV (d + 1) (5, n, t, its, ks) ≤ 100)) := fun ⟨h1, h2⟩ => by exact ht0 (h1.2.1.ht (by omega))
        go_enter Try.func50, Try.ntmps50
        go_wp2
        go_ret
        exact HS.out.no NO.out
      have ht1 : t.toList.isEmpty = true := by rw [ht0]; rfl
      by_cases hk0 : kl = 0
      rotate_left
      · have hk1 : 0 < kl := by omega
        have NO : Hid (¬ (RightV (d + 1) (5, n, t, its, ks) deep ∧ m + cntV (d + 1) (5, n, t, its, ks) ≤ 100)) := fun ⟨h1, h2⟩ => by have h3 := h1.2.1.hk (by omega); have h4 := HKL.out; rw [h3] at h4; simp at h4; omega
        go_enter Try.func50, Try.ntmps50
        go_wp2
        go_ret
        exact HS.out.no NO.out
      subst hk0
      have HK0 : Hid (ks = []) := List.eq_nil_of_length_eq_zero HKL.out
      by_cases hn0 : n = 0
      rotate_left
      · have hn1 : (n != 0) = true := by simpa using hn0
        have NO : Hid (¬ (RightV (d + 1) (5, n, t, its, ks) deep ∧ m + cntV (d + 1) (5, n, t, its, ks) ≤ 100)) := fun ⟨h1, h2⟩ => by exact hn0 (h1.2.1.hn (by omega) (by omega))
        go_enter Try.func50, Try.ntmps50
        go_wp2
        go_ret
        exact HS.out.no NO.out
      subst hn0
      by_cases hbig : 100 < il
      · have hbig' : decide ((100 : Int) < (il : Int)) = true := decide_eq_true (by omega)
        have NO : Hid (¬ (RightV (d + 1) (5, 0, t, its, ks) deep ∧ m + cntV (d + 1) (5, 0, t, its, ks) ≤ 100)) := fun ⟨h1, h2⟩ => by have h3 := cntL_len its (deep - 1) h1.2.2; have h4 : cntV (d + 1) (5, 0, t, its, ks) = 1 + cntL its := rfl; have h5 := HIL.out; omega
        clear hbig
        go_enter Try.func50, Try.ntmps50
        go_wp2
        go_ret
        exact HS.out.no NO.out
      have hbig' : decide ((100 : Int) < (il : Int)) = false := decide_eq_false (by omega)
      have HSW : Hid _ := HS.out
      go_enter Try.func50, Try.ntmps50
      go_wp2_with fail
      clear hW0 hW1 z0 z1 g0 g1 HS HKC
      go_loopw [7] (fun i wr => i = .int .i64 0 ∧ wr = W1) (fun _ _ => 0)
      case atStart => exact ⟨rfl, rfl⟩
      case round =>
        obtain ⟨rfl, rfl⟩ := hrel
        go_wp2_with fail
        have HI0 : Hid (S1 w g ((m + 1 + cntL (its.take 0) : Nat) : Int) #[.int .i64 5, .int .i64 0, .string t, .slice ia il ic, .slice ka 0 kc] wr) := by
          show S1 w g ((m + 1 + cntL (its.take 0) : Nat) : Int) #[.int .i64 5, .int .i64 0, .string t, .slice ia il ic, .slice ka 0 kc] wr
          simpa [cntL] using HSW.out
        go_loopw [9] (fun i wr => ∃ j : Nat, j ≤ il ∧ i = .int .i64 (j : Int) ∧ (∀ x ∈ its.take j, RightV d x (deep - 1)) ∧ m + 1 + cntL (its.take j) ≤ 100 ∧ S1 w g ((m + 1 + cntL (its.take j) : Nat) : Int) #[.int .i64 5, .int .i64 0, .string t, .slice ia il ic, .slice ka 0 kc] wr) (fun i _ => il - (intOf i).toNat)
        case atStart => exact ⟨0, Nat.zero_le _, rfl, by simp, by simp [cntL]; omega, HI0.out⟩
        case round =>
          obtain ⟨j, hj, rfl, hall, hc100, hSI⟩ := hrel
          obtain ⟨wa, hwa⟩ : ∃ z, z = wr := ⟨_, rfl⟩
          subst hwa
          have HA : Hid (∀ x ∈ its.take j, RightV d x (deep - 1)) := hall
          have HI : Hid (S1 w g ((m + 1 + cntL (its.take j) : Nat) : Int) #[.int .i64 5, .int .i64 0, .string t, .slice ia il ic, .slice ka 0 kc] wa) := hSI
          obtain ⟨q0, q1, q2, q3, q4⟩ := five_in hSI.box
          clear hall hSI c0 c1 c2 c3 c4 HI0 HSW
          by_cases hlt : j < il
          · have hlt' : (j : Int) < (il : Int) := by omega
            have hk0 : (0 : Int) ≤ (j : Int) := by omega
            have hlt2 : j < its.length := by have := HIL.out; omega
            obtain ⟨xj, hxj⟩ : ∃ x, its[j] = x := ⟨_, rfl⟩
            have htk0 : its.take (j + 1) = its.take j ++ [xj] := by rw [List.take_succ_eq_append_getElem hlt2, hxj]
            have HMJ : Hid (xj ∈ its) := by show xj ∈ its; rw [← hxj]; exact List.getElem_mem hlt2
            obtain ⟨b, off, cs, ha, hbg, hcl, hcell, hrv⟩ := HIC.out j xj (by rw [← hxj]; simp [hlt2])
            have htk : cntL (its.take (j + 1)) = cntL (its.take j) + cntV d xj := by rw [cntL_take its j hlt2, hxj]
            have HT0 : Hid _ := htk0
            clear hxj htk0 hlt2
            subst ha
            match cs, hcl with
            | [x0, x1, x2, x3, x4], _ =>
              have e0 := HI.out.cell hbg hgw (hcell 0 (by omega))
              have e1 := HI.out.cell hbg hgw (hcell 1 (by omega))
              have e2 := HI.out.cell hbg hgw (hcell 2 (by omega))
              have e3 := HI.out.cell hbg hgw (hcell 3 (by omega))
              have e4 := HI.out.cell hbg hgw (hcell 4 (by omega))
              rw [Nat.add_zero] at e0
              have hrd := hrv.grown HI.out.gr (by omega)
              have hih := ih xj [x0, x1, x2, x3, x4] (deep - 1) (m + 1 + cntL (its.take j)) g wa hc100 (by omega) (by omega) (by have := HI.out.gr.size; omega) hrd HI.out.cnt
              have hwd : IntKind.i64.wrap (deep - 1) = deep - 1 := IntWalk.i64_in _ (by omega)
              have hle := cntL_le its (j + 1)
              clear hcell hrv hrd
              go_wp2_with fail
              go_at_call 50
              refine hih.mono ?_
              rintro e wb ⟨bb, m', rfl, hiff, hcn, hm', hgr⟩
              have HB : Hid (S1 w g m' #[.int .i64 5, .int .i64 0, .string t, .slice (some ⟨b, off, none⟩) il ic, .slice ka 0 kc] wb) := HI.out.call hcn hgr (by omega)
              have HIFF : Hid (bb = true ↔ RightV d xj (deep - 1) ∧ m + 1 + cntL (its.take j) + cntV d xj ≤ 100) := hiff
              have HM : Hid (bb = true → m' = ((m + 1 + cntL (its.take j) + cntV d xj : Nat) : Int)) := hm'
              have HTK : Hid _ := htk
              have HLE : Hid _ := hle
              clear hih hcn hgr e0 e1 e2 e3 e4 q0 q1 q2 q3 q4 hiff hm' htk hle
              cases bb with
              | false =>
                have NO : Hid (¬ (RightV (d + 1) (5, 0, t, its, ks) deep ∧ m + cntV (d + 1) (5, 0, t, its, ks) ≤ 100)) := fun ⟨h1, h2⟩ => by
                  have h3 : RightV d xj (deep - 1) := h1.2.2 _ HMJ.out
                  have h4 : cntV (d + 1) (5, 0, t, its, ks) = 1 + cntL its := rfl
                  have h5 := HTK.out
                  have h6 := HLE.out
                  exact absurd (HIFF.out.2 ⟨h3, by omega⟩) (by simp)
                clear HIFF HM
                go_wp2
                go_ret
                exact HB.out.no NO.out
              | true =>
                obtain ⟨hr9, hc9⟩ := HIFF.out.1 rfl
                have hm9 := HM.out rfl
                have HN : Hid (S1 w g ((m + 1 + cntL (its.take (j + 1)) : Nat) : Int) #[.int .i64 5, .int .i64 0, .string t, .slice (some ⟨b, off, none⟩) il ic, .slice ka 0 kc] wb) := by
                  show S1 w g ((m + 1 + cntL (its.take (j + 1)) : Nat) : Int) #[.int .i64 5, .int .i64 0, .string t, .slice (some ⟨b, off, none⟩) il ic, .slice ka 0 kc] wb
                  rw [HTK.out]
                  have h9 := HB.out
                  rw [hm9] at h9
                  have e9 : m + 1 + cntL (its.take j) + cntV d xj = m + 1 + (cntL (its.take j) + cntV d xj) := by omega
                  rw [e9] at h9
                  exact h9
                have HR : Hid (∀ x ∈ its.take (j + 1), RightV d x (deep - 1)) := fun x hx => by
                  rw [HT0.out, List.mem_append] at hx
                  rcases hx with hx | hx
                  · exact HA.out x hx
                  · have : x = xj := by simpa using hx
                    rw [this]; exact hr9
                have HC : Hid (m + 1 + cntL (its.take (j + 1)) ≤ 100) := by show m + 1 + cntL (its.take (j + 1)) ≤ 100; rw [HTK.out]; omega
                clear hr9 hc9 hm9 HIFF HM
                go_wp2
                go_roundw
                case rel => exact ⟨j + 1, by omega, by go_num, HR.out, HC.out, HN.out⟩
                case measure => exact meas_step hlt
          · obtain rfl : j = il := by omega
            have hn9 : ¬ (j : Int) < (j : Int) := by omega
            have hfull : its.take j = its := List.take_of_length_le (by have := HIL.out; omega)
            have YES : Hid (RightV (d + 1) (5, 0, t, its, ks) deep ∧ m + cntV (d + 1) (5, 0, t, its, ks) ≤ 100) := by
              have h1 := HA.out
              rw [hfull] at h1 hc100
              exact ⟨⟨by omega, ⟨by omega, by omega, fun _ _ => rfl, fun h => by omega, fun h => by omega, fun _ => ht0, fun h => by omega, fun h => by omega, fun _ => HK0.out, fun h => by omega⟩, h1⟩, by have h4 : cntV (d + 1) (5, 0, t, its, ks) = 1 + cntL its := rfl; omega⟩
            have CNT : Hid (((m + 1 + cntL (its.take j) : Nat) : Int) = ((m + cntV (d + 1) (5, 0, t, its, ks) : Nat) : Int)) := by
              show ((m + 1 + cntL (its.take j) : Nat) : Int) = ((m + cntV (d + 1) (5, 0, t, its, ks) : Nat) : Int)
              have h4 : cntV (d + 1) (5, 0, t, its, ks) = 1 + cntL its := rfl
              rw [hfull, h4]; omega
            clear hc100 HA hfull
            go_wp2
            go_ret
            exact HI.out.yes YES.out CNT.out
    · by_cases ht0 : t.toList = []
      rotate_left
      · have ht1 : t.toList.isEmpty = false := by simpa using ht0
        have NO : Hid (¬ (RightV (d + 1) (6, n, t, its, ks) deep ∧ m + cntV (d + 1) (6, n, t, its, ks) ≤ 100)) := fun ⟨h1, h2⟩ => by exact ht0 (h1.2.1.ht (by omega))
        go_enter Try.func50, Try.ntmps50
        go_wp2
        go_ret
        exact HS.out.no NO.out
      have ht1 : t.toList.isEmpty = true := by rw [ht0]; rfl
      by_cases hn0 : n = 0
      rotate_left
      · have hn1 : (n != 0) = true := by simpa using hn0
        have NO : Hid (¬ (RightV (d + 1) (6, n, t, its, ks) deep ∧ m + cntV (d + 1) (6, n, t, its, ks) ≤ 100)) := fun ⟨h1, h2⟩ => by exact hn0 (h1.2.1.hn (by omega) (by omega))
        go_enter Try.func50, Try.ntmps50
        go_wp2
        go_ret
        exact HS.out.no NO.out
      subst hn0
      by_cases hbig : 100 < il
      · have hbig' : decide ((100 : Int) < (il : Int)) = true := decide_eq_true (by omega)
        have NO : Hid (¬ (RightV (d + 1) (6, 0, t, its, ks) deep ∧ m + cntV (d + 1) (6, 0, t, its, ks) ≤ 100)) := fun ⟨h1, h2⟩ => by have h3 := cntL_len its (deep - 1) h1.2.2; have h4 : cntV (d + 1) (6, 0, t, its, ks) = 1 + cntL its := rfl; have h5 := HIL.out; omega
        clear hbig
        go_enter Try.func50, Try.ntmps50
        go_wp2
        go_ret
        exact HS.out.no NO.out
      have hbig' : decide ((100 : Int) < (il : Int)) = false := decide_eq_false (by omega)
      by_cases hlk : kl = il
      rotate_left
      · have hlk' : ((kl : Int) != (il : Int)) = true := by simp; omega
        have NO : Hid (¬ (RightV (d + 1) (6, 0, t, its, ks) deep ∧ m + cntV (d + 1) (6, 0, t, its, ks) ≤ 100)) := fun ⟨h1, h2⟩ => hlk (by have h3 := (h1.2.1.h6 rfl).1; have h4 := HIL.out; have h5 := HKL.out; omega)
        go_enter Try.func50, Try.ntmps50
        go_wp2
        go_ret
        exact HS.out.no NO.out
      have HLK : Hid (ks.length = its.length) := by have h4 := HIL.out; have h5 := HKL.out; show ks.length = its.length; omega
      have hlk' : ((kl : Int) != (il : Int)) = false := by simp; omega
      clear hlk hbig
      have HSW : Hid _ := HS.out
      go_enter Try.func50, Try.ntmps50
      go_wp2_with fail
      clear hW0 hW1 z0 z1 g0 g1 HS c0 c1 c2 c3 c4
      go_loopw [7] (fun i wr => ∃ a : Nat, a ≤ kl ∧ i = .int .i64 (a : Int) ∧ (∀ (c : Nat) (h : c < ks.length), c < a → textB ks[c] = true ∧ ks[c] ∉ ks.take c) ∧ S1 w g ((m : Int) + 1) #[.int .i64 6, .int .i64 0, .string t, .slice ia il ic, .slice ka kl kc] wr) (fun i _ => kl - (intOf i).toNat)
      case atStart => exact ⟨0, Nat.zero_le _, rfl, fun c h h2 => by omega, HSW.out⟩
      case round =>
        obtain ⟨a, hal, rfl, hdone, hSI⟩ := hrel
        obtain ⟨wk, hwk⟩ : ∃ z, z = wr := ⟨_, rfl⟩
        subst hwk
        have HD : Hid (∀ (c : Nat) (h : c < ks.length), c < a → textB ks[c] = true ∧ ks[c] ∉ ks.take c) := hdone
        have HK : Hid (S1 w g ((m : Int) + 1) #[.int .i64 6, .int .i64 0, .string t, .slice ia il ic, .slice ka kl kc] wk) := hSI
        obtain ⟨c0, c1, c2, c3, c4⟩ := five_in hSI.box
        clear hdone hSI HSW
        by_cases hla9 : a < kl
        · have hla' : (a : Int) < (kl : Int) := by omega
          have hla : a < ks.length := by have := HKL.out; omega
          obtain ⟨b, off, ha, hbg, hca⟩ := HKC.out a (.string ks[a]) (by simp [hla])
          subst ha
          have hsz := hkx ks[a] (List.getElem_mem hla)
          obtain ⟨ta, hta⟩ : ∃ z, ks[a] = z := ⟨_, rfl⟩
          rw [hta] at hca hsz
          have HTA : Hid (ks[a] = ta) := hta
          have ea := HK.out.cell hbg hgw hca
          have htx := specText ta wk hsz
          obtain ⟨bb, hbb⟩ : ∃ z, textB ta = z := ⟨_, rfl⟩
          rw [hbb] at htx
          have HBB : Hid (textB ta = bb) := hbb
          clear hca hta hbb
          go_wp2_with fail
          go_at_call 63
          refine htx.mono ?_
          rintro e W2 ⟨rfl, hW2⟩
          obtain rfl : wk = W2 := hW2
          clear htx
          cases bb with
          | false =>
            have NO : Hid (¬ (RightV (d + 1) (6, 0, t, its, ks) deep ∧ m + cntV (d + 1) (6, 0, t, its, ks) ≤ 100)) := fun ⟨h1, h2⟩ => by
              have h3 := ((h1.2.1.h6 rfl).2 a hla).1
              rw [HTA.out, HBB.out] at h3; cases h3
            go_wp2
            go_ret
            exact HK.out.no NO.out
          | true =>
            go_wp2_with fail
            go_loopw [8] (fun i wr => ∃ c : Nat, c ≤ a ∧ i = .int .i64 (c : Int) ∧ (∀ y ∈ ks.take c, y ≠ ta) ∧ S1 w g ((m : Int) + 1) #[.int .i64 6, .int .i64 0, .string t, .slice ia il ic, .slice (some ⟨b, off, none⟩) kl kc] wr) (fun i _ => a - (intOf i).toNat)
            case atStart => exact ⟨0, Nat.zero_le _, rfl, by simp, HK.out⟩
            case round =>
              obtain ⟨c, hca, rfl, hun, hSI⟩ := hrel
              obtain ⟨wc, hwc⟩ : ∃ z, z = wr := ⟨_, rfl⟩
              subst hwc
              have HU : Hid (∀ y ∈ ks.take c, y ≠ ta) := hun
              have HC : Hid (S1 w g ((m : Int) + 1) #[.int .i64 6, .int .i64 0, .string t, .slice ia il ic, .slice (some ⟨b, off, none⟩) kl kc] wc) := hSI
              obtain ⟨q0, q1, q2, q3, q4⟩ := five_in hSI.box
              obtain ⟨b', off', ha', -, hca2⟩ := HKC.out a (.string ks[a]) (by simp [hla])
              injection ha' with ha'
              injection ha' with ha1 ha2 ha3
              subst ha1
              subst ha2
              rw [HTA.out] at hca2
              have ea2 := HC.out.cell hbg hgw hca2
              clear hun hSI c0 c1 c2 c3 c4 ea hca2
              by_cases hlc : c < a
              · have hlc' : (c : Int) < (a : Int) := by omega
                have hcl : c < ks.length := by omega
                have hcl' : (c : Int) < (kl : Int) := by omega
                obtain ⟨b', off', ha', -, hcc⟩ := HKC.out c (.string ks[c]) (by simp [hcl])
                injection ha' with ha'
                injection ha' with ha1 ha2 ha3
                subst ha1
                subst ha2
                obtain ⟨tc, htc⟩ : ∃ z, ks[c] = z := ⟨_, rfl⟩
                rw [htc] at hcc
                have HTC : Hid (ks[c] = tc) := htc
                have ec := HC.out.cell hbg hgw hcc
                clear hcc htc
                by_cases heq : tc = ta
                · have NO : Hid (¬ (RightV (d + 1) (6, 0, t, its, ks) deep ∧ m + cntV (d + 1) (6, 0, t, its, ks) ≤ 100)) := fun ⟨h1, h2⟩ => by
                    have h3 := ((h1.2.1.h6 rfl).2 a hla).2
                    rw [HTA.out, ← heq, ← HTC.out] at h3
                    exact h3 (List.mem_take_iff_getElem.2 ⟨c, by omega, rfl⟩)
                  have heq' : (tc.toList == ta.toList) = true := by rw [heq]; exact beq_self_eq_true _
                  clear heq
                  go_wp2_with fail
                  go_region
                  go_wp2
                  go_ret
                  exact HC.out.drew.no NO.out
                · have heq' : (tc.toList == ta.toList) = false := text_ne heq
                  have HU2 : Hid (∀ y ∈ ks.take (c + 1), y ≠ ta) := fun y hy => by
                    rw [List.take_succ_eq_append_getElem hcl, List.mem_append] at hy
                    rcases hy with hy | hy
                    · exact HU.out y hy
                    · have : y = ks[c] := by simpa using hy
                      rw [this, HTC.out]; exact heq
                  clear heq
                  go_wp2_with fail
                  go_region
                  go_wp2
                  go_roundw
                  case rel => exact ⟨c + 1, by omega, by go_num, HU2.out, HC.out.drew⟩
                  case measure => exact meas_step hlc
              · obtain rfl : c = a := by omega
                have hlc' : ¬ (c : Int) < (c : Int) := by omega
                have HD2 : Hid (∀ (z : Nat) (h : z < ks.length), z < c + 1 → textB ks[z] = true ∧ ks[z] ∉ ks.take z) := fun z h h2 => by
                  by_cases hz : z < c
                  · exact HD.out z h hz
                  · obtain rfl : z = c := by omega
                    exact ⟨by rw [HTA.out, HBB.out], fun hm => HU.out _ hm HTA.out⟩
                clear ea2
                go_wp2
                go_roundw
                case rel => exact ⟨c + 1, by omega, by go_num, HD2.out, HC.out⟩
                case measure => exact meas_step hla9
        · obtain rfl : kl = a := by omega
          have hna : ¬ (kl : Int) < (kl : Int) := by omega
          have HKB : Hid (KeysB ks) := fun i h => HD.out i h (by have := HKL.out; omega)
          have HSW : Hid (S1 w g ((m : Int) + 1) #[.int .i64 6, .int .i64 0, .string t, .slice ia il ic, .slice ka kl kc] wk) := HK.out
          clear HD hla9
          go_wp2_with fail
          have HI0 : Hid (S1 w g ((m + 1 + cntL (its.take 0) : Nat) : Int) #[.int .i64 6, .int .i64 0, .string t, .slice ia il ic, .slice ka kl kc] wk) := by
            show S1 w g ((m + 1 + cntL (its.take 0) : Nat) : Int) #[.int .i64 6, .int .i64 0, .string t, .slice ia il ic, .slice ka kl kc] wk
            simpa [cntL] using HSW.out
          go_loopw [9] (fun i wr => ∃ j : Nat, j ≤ il ∧ i = .int .i64 (j : Int) ∧ (∀ x ∈ its.take j, RightV d x (deep - 1)) ∧ m + 1 + cntL (its.take j) ≤ 100 ∧ S1 w g ((m + 1 + cntL (its.take j) : Nat) : Int) #[.int .i64 6, .int .i64 0, .string t, .slice ia il ic, .slice ka kl kc] wr) (fun i _ => il - (intOf i).toNat)
          case atStart => exact ⟨0, Nat.zero_le _, rfl, by simp, by simp [cntL]; omega, HI0.out⟩
          case round =>
            obtain ⟨j, hj, rfl, hall, hc100, hSI⟩ := hrel
            obtain ⟨wa, hwa⟩ : ∃ z, z = wr := ⟨_, rfl⟩
            subst hwa
            have HA : Hid (∀ x ∈ its.take j, RightV d x (deep - 1)) := hall
            have HI : Hid (S1 w g ((m + 1 + cntL (its.take j) : Nat) : Int) #[.int .i64 6, .int .i64 0, .string t, .slice ia il ic, .slice ka kl kc] wa) := hSI
            obtain ⟨q0, q1, q2, q3, q4⟩ := five_in hSI.box
            clear hall hSI c0 c1 c2 c3 c4 HI0 HSW
            by_cases hlt : j < il
            · have hlt' : (j : Int) < (il : Int) := by omega
              have hk0 : (0 : Int) ≤ (j : Int) := by omega
              have hlt2 : j < its.length := by have := HIL.out; omega
              obtain ⟨xj, hxj⟩ : ∃ x, its[j] = x := ⟨_, rfl⟩
              have htk0 : its.take (j + 1) = its.take j ++ [xj] := by rw [List.take_succ_eq_append_getElem hlt2, hxj]
              have HMJ : Hid (xj ∈ its) := by show xj ∈ its; rw [← hxj]; exact List.getElem_mem hlt2
              obtain ⟨b, off, cs, ha, hbg, hcl, hcell, hrv⟩ := HIC.out j xj (by rw [← hxj]; simp [hlt2])
              have htk : cntL (its.take (j + 1)) = cntL (its.take j) + cntV d xj := by rw [cntL_take its j hlt2, hxj]
              have HT0 : Hid _ := htk0
              clear hxj htk0 hlt2
              subst ha
              match cs, hcl with
              | [x0, x1, x2, x3, x4], _ =>
                have e0 := HI.out.cell hbg hgw (hcell 0 (by omega))
                have e1 := HI.out.cell hbg hgw (hcell 1 (by omega))
                have e2 := HI.out.cell hbg hgw (hcell 2 (by omega))
                have e3 := HI.out.cell hbg hgw (hcell 3 (by omega))
                have e4 := HI.out.cell hbg hgw (hcell 4 (by omega))
                rw [Nat.add_zero] at e0
                have hrd := hrv.grown HI.out.gr (by omega)
                have hih := ih xj [x0, x1, x2, x3, x4] (deep - 1) (m + 1 + cntL (its.take j)) g wa hc100 (by omega) (by omega) (by have := HI.out.gr.size; omega) hrd HI.out.cnt
                have hwd : IntKind.i64.wrap (deep - 1) = deep - 1 := IntWalk.i64_in _ (by omega)
                have hle := cntL_le its (j + 1)
                clear hcell hrv hrd
                go_wp2_with fail
                go_at_call 50
                refine hih.mono ?_
                rintro e wb ⟨bb, m', rfl, hiff, hcn, hm', hgr⟩
                have HB : Hid (S1 w g m' #[.int .i64 6, .int .i64 0, .string t, .slice (some ⟨b, off, none⟩) il ic, .slice ka kl kc] wb) := HI.out.call hcn hgr (by omega)
                have HIFF : Hid (bb = true ↔ RightV d xj (deep - 1) ∧ m + 1 + cntL (its.take j) + cntV d xj ≤ 100) := hiff
                have HM : Hid (bb = true → m' = ((m + 1 + cntL (its.take j) + cntV d xj : Nat) : Int)) := hm'
                have HTK : Hid _ := htk
                have HLE : Hid _ := hle
                clear hih hcn hgr e0 e1 e2 e3 e4 q0 q1 q2 q3 q4 hiff hm' htk hle
                cases bb with
                | false =>
                  have NO : Hid (¬ (RightV (d + 1) (6, 0, t, its, ks) deep ∧ m + cntV (d + 1) (6, 0, t, its, ks) ≤ 100)) := fun ⟨h1, h2⟩ => by
                    have h3 : RightV d xj (deep - 1) := h1.2.2 _ HMJ.out
                    have h4 : cntV (d + 1) (6, 0, t, its, ks) = 1 + cntL its := rfl
                    have h5 := HTK.out
                    have h6 := HLE.out
                    exact absurd (HIFF.out.2 ⟨h3, by omega⟩) (by simp)
                  clear HIFF HM
                  go_wp2
                  go_ret
                  exact HB.out.no NO.out
                | true =>
                  obtain ⟨hr9, hc9⟩ := HIFF.out.1 rfl
                  have hm9 := HM.out rfl
                  have HN : Hid (S1 w g ((m + 1 + cntL (its.take (j + 1)) : Nat) : Int) #[.int .i64 6, .int .i64 0, .string t, .slice (some ⟨b, off, none⟩) il ic, .slice ka kl kc] wb) := by
                    show S1 w g ((m + 1 + cntL (its.take (j + 1)) : Nat) : Int) #[.int .i64 6, .int .i64 0, .string t, .slice (some ⟨b, off, none⟩) il ic, .slice ka kl kc] wb
                    rw [HTK.out]
                    have h9 := HB.out
                    rw [hm9] at h9
                    have e9 : m + 1 + cntL (its.take j) + cntV d xj = m + 1 + (cntL (its.take j) + cntV d xj) := by omega
                    rw [e9] at h9
                    exact h9
                  have HR : Hid (∀ x ∈ its.take (j + 1), RightV d x (deep - 1)) := fun x hx => by
                    rw [HT0.out, List.mem_append] at hx
                    rcases hx with hx | hx
                    · exact HA.out x hx
                    · have : x = xj := by simpa using hx
                      rw [this]; exact hr9
                  have HC : Hid (m + 1 + cntL (its.take (j + 1)) ≤ 100) := by show m + 1 + cntL (its.take (j + 1)) ≤ 100; rw [HTK.out]; omega
                  clear hr9 hc9 hm9 HIFF HM
                  go_wp2
                  go_roundw
                  case rel => exact ⟨j + 1, by omega, by go_num, HR.out, HC.out, HN.out⟩
                  case measure => exact meas_step hlt
            · obtain rfl : j = il := by omega
              have hn9 : ¬ (j : Int) < (j : Int) := by omega
              have hfull : its.take j = its := List.take_of_length_le (by have := HIL.out; omega)
              have YES : Hid (RightV (d + 1) (6, 0, t, its, ks) deep ∧ m + cntV (d + 1) (6, 0, t, its, ks) ≤ 100) := by
                have h1 := HA.out
                rw [hfull] at h1 hc100
                exact ⟨⟨by omega, ⟨by omega, by omega, fun _ _ => rfl, fun h => by omega, fun h => by omega, fun _ => ht0, fun h => by omega, fun h => by omega, fun h => absurd rfl h, fun _ => ⟨HLK.out, HKB.out⟩⟩, h1⟩, by have h4 : cntV (d + 1) (6, 0, t, its, ks) = 1 + cntL its := rfl; omega⟩
              have CNT : Hid (((m + 1 + cntL (its.take j) : Nat) : Int) = ((m + cntV (d + 1) (6, 0, t, its, ks) : Nat) : Int)) := by
                show ((m + 1 + cntL (its.take j) : Nat) : Int) = ((m + cntV (d + 1) (6, 0, t, its, ks) : Nat) : Int)
                have h4 : cntV (d + 1) (6, 0, t, its, ks) = 1 + cntL its := rfl
                rw [hfull, h4]; omega
              clear hc100 HA hfull
              go_wp2
              go_ret
              exact HI.out.yes YES.out CNT.out
    · obtain ⟨k1, k2, k3, k4, k5, k6⟩ : (k == 1) = false ∧ (k == 2) = false ∧ (k == 3) = false ∧ (k == 4) = false ∧ (k == 5) = false ∧ (k == 6) = false := by simp; omega
      obtain ⟨n2, n3, n4, n6⟩ : (k != 2) = true ∧ (k != 3) = true ∧ (k != 4) = true ∧ (k != 6) = true := by simp; omega
      have NK : Hid (¬ (1 ≤ k ∧ k ≤ 6)) := fun h => by omega
      by_cases hk5 : k < 5
      · have hk5' : decide (k < 5) = true := decide_eq_true hk5
        clear hk hk5
        by_cases ht0 : t.toList = []
        rotate_left
        · have ht1 : t.toList.isEmpty = false := by simpa using ht0
          have NO : Hid (¬ (RightV (d + 1) (k, n, t, its, ks) deep ∧ m + cntV (d + 1) (k, n, t, its, ks) ≤ 100)) := fun ⟨h1, h2⟩ => by exact NK.out ⟨h1.2.1.lo, h1.2.1.hi⟩
          go_enter Try.func50, Try.ntmps50
          go_wp2
          go_ret
          exact HS.out.no NO.out
        have ht1 : t.toList.isEmpty = true := by rw [ht0]; rfl
        by_cases hk0 : kl = 0
        rotate_left
        · have hk1 : 0 < kl := by omega
          have NO : Hid (¬ (RightV (d + 1) (k, n, t, its, ks) deep ∧ m + cntV (d + 1) (k, n, t, its, ks) ≤ 100)) := fun ⟨h1, h2⟩ => by exact NK.out ⟨h1.2.1.lo, h1.2.1.hi⟩
          go_enter Try.func50, Try.ntmps50
          go_wp2
          go_ret
          exact HS.out.no NO.out
        subst hk0
        have HK0 : Hid (ks = []) := List.eq_nil_of_length_eq_zero HKL.out
        by_cases hi0 : il = 0
        rotate_left
        · have hi1 : 0 < il := by omega
          have NO : Hid (¬ (RightV (d + 1) (k, n, t, its, ks) deep ∧ m + cntV (d + 1) (k, n, t, its, ks) ≤ 100)) := fun ⟨h1, h2⟩ => by exact NK.out ⟨h1.2.1.lo, h1.2.1.hi⟩
          go_enter Try.func50, Try.ntmps50
          go_wp2
          go_ret
          exact HS.out.no NO.out
        subst hi0
        have HI0 : Hid (its = []) := List.eq_nil_of_length_eq_zero HIL.out
        by_cases hn0 : n = 0
        rotate_left
        · have hn1 : (n != 0) = true := by simpa using hn0
          have NO : Hid (¬ (RightV (d + 1) (k, n, t, its, ks) deep ∧ m + cntV (d + 1) (k, n, t, its, ks) ≤ 100)) := fun ⟨h1, h2⟩ => by exact NK.out ⟨h1.2.1.lo, h1.2.1.hi⟩
          go_enter Try.func50, Try.ntmps50
          go_wp2
          go_ret
          exact HS.out.no NO.out
        subst hn0
        have NO : Hid (¬ (RightV (d + 1) (k, 0, t, its, ks) deep ∧ m + cntV (d + 1) (k, 0, t, its, ks) ≤ 100)) := fun ⟨h1, h2⟩ => by exact NK.out ⟨h1.2.1.lo, h1.2.1.hi⟩
        go_enter Try.func50, Try.ntmps50
        go_wp2
        go_ret
        exact HS.out.no NO.out
      · have hk5' : decide (k < 5) = false := decide_eq_false hk5
        clear hk hk5
        by_cases ht0 : t.toList = []
        rotate_left
        · have ht1 : t.toList.isEmpty = false := by simpa using ht0
          have NO : Hid (¬ (RightV (d + 1) (k, n, t, its, ks) deep ∧ m + cntV (d + 1) (k, n, t, its, ks) ≤ 100)) := fun ⟨h1, h2⟩ => by exact NK.out ⟨h1.2.1.lo, h1.2.1.hi⟩
          go_enter Try.func50, Try.ntmps50
          go_wp2
          go_ret
          exact HS.out.no NO.out
        have ht1 : t.toList.isEmpty = true := by rw [ht0]; rfl
        by_cases hk0 : kl = 0
        rotate_left
        · have hk1 : 0 < kl := by omega
          have NO : Hid (¬ (RightV (d + 1) (k, n, t, its, ks) deep ∧ m + cntV (d + 1) (k, n, t, its, ks) ≤ 100)) := fun ⟨h1, h2⟩ => by exact NK.out ⟨h1.2.1.lo, h1.2.1.hi⟩
          go_enter Try.func50, Try.ntmps50
          go_wp2
          go_ret
          exact HS.out.no NO.out
        subst hk0
        have HK0 : Hid (ks = []) := List.eq_nil_of_length_eq_zero HKL.out
        by_cases hn0 : n = 0
        rotate_left
        · have hn1 : (n != 0) = true := by simpa using hn0
          have NO : Hid (¬ (RightV (d + 1) (k, n, t, its, ks) deep ∧ m + cntV (d + 1) (k, n, t, its, ks) ≤ 100)) := fun ⟨h1, h2⟩ => by exact NK.out ⟨h1.2.1.lo, h1.2.1.hi⟩
          go_enter Try.func50, Try.ntmps50
          go_wp2
          go_ret
          exact HS.out.no NO.out
        subst hn0
        have NO : Hid (¬ (RightV (d + 1) (k, 0, t, its, ks) deep ∧ m + cntV (d + 1) (k, 0, t, its, ks) ≤ 100)) := fun ⟨h1, h2⟩ => by exact NK.out ⟨h1.2.1.lo, h1.2.1.hi⟩
        go_enter Try.func50, Try.ntmps50
        go_wp2
        go_ret
        exact HS.out.no NO.out

theorem specL1 : ∀ (d : Nat) (x : Val d) (cs : List Value) (deep : Int) (m g : Nat) (w : World), m ≤ 100 → 0 ≤ deep → deep ≤ 6 → g < w.heap.size → RdVL d w g cs x → w.heap[g]? = some (.cells #[.int .i64 (m : Int)] 2 (0, 0)) →
    Calls Try.prog 50 #[.agg cs.toArray, .int .i64 deep, .pointer (some ⟨g, 0, none⟩)] w (L1P x deep m g w)
  | 0, _, _, _, _, _, _, _, _, _, _, h, _ => h.elim
  | d + 1, (k, n, t, its, ks), cs, deep, m, g, w, h1, h2, h3, h4, h5, h6 => stepL1 (specL1 d) k n t its ks cs deep m g w h1 h2 h3 h4 h5 h6

end Go.Proofs.Ytepahapocgmhiaa
