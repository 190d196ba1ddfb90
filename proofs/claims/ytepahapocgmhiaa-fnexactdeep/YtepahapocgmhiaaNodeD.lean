/-
  Chapter 1: impl.nodeAt.
-/
import Derived.Test.YtepahapocgmhiaaNodeC
namespace Go.Proofs.Ytepahapocgmhiaa
open Go.RowKit
set_option linter.unusedVariables false
set_option linter.unusedSimpArgs false
set_option maxHeartbeats 8000000
set_option maxRecDepth 20000

/-- The budget, the value in its box. -/
structure S2 (w : World) (g : Nat) (l : Int) (c : Array Value) (W : World) : Prop where
  bud : W.heap[g]? = some (.cells #[.int .i64 l] 83 (0, 0))
  box : W.heap[w.heap.size]? = some (.cells c 30 (0, 0))
  gr : w.grownBy W (some g)
theorem S2.below {w W W' : World} {g : Nat} {l : Int} {c : Array Value} (h : S2 w g l c W) (hb : Below W.heap.size W W') : S2 w g l c W' :=
  ⟨box_step h.bud hb, box_step h.box hb, ⟨hb.os.trans h.gr.os, hb.tape.trans h.gr.tape, hb.output.trans h.gr.output, Nat.le_trans h.gr.size hb.size, fun k hk hne => (hb.block k (Nat.lt_of_lt_of_le hk h.gr.size)).trans (h.gr.block k hk hne)⟩⟩
theorem S2.call {w W W' : World} {g : Nat} {l l' : Int} {c : Array Value} (h : S2 w g l c W) (hc : W'.heap[g]? = some (.cells #[.int .i64 l'] 83 (0, 0))) (hg : W.grownBy W' (some g)) (hne : w.heap.size ≠ g) : S2 w g l' c W' :=
  ⟨hc, (hg.block _ (Array.getElem?_eq_some_iff.1 h.box).1 (fun e => hne (Option.some.inj e))).trans h.box, grown_trans h.gr hg⟩
theorem S2.cell {w W : World} {g b o : Nat} {l : Int} {c : Array Value} {v : Value} (h : S2 w g l c W) (hb : b < g) (hgw : g < w.heap.size) (hc : w.cell? ⟨b, o, none⟩ = some v) : W.cell? ⟨b, o, none⟩ = some v :=
  (World.cell?_of_block (h.gr.block b (by omega) (fun e => by cases e; omega))).trans hc

theorem S2.no {d : Nat} {x : Val d} {level left l : Int} {g : Nat} {w W : World} {c : Array Value} {v : Value} (h : S2 w g l c W) (hn : ¬ (RightV d x (7 - level) ∧ (cntV d x : Int) ≤ left)) (hv : v.oneCell' = true) : NodeP x level left g w (.returned (.tuple #[v, .bool false])) W :=
  ⟨v, false, l, rfl, ⟨fun e => Bool.noConfusion e, fun e => absurd e hn⟩, h.bud, fun e => Bool.noConfusion e, hv, h.gr⟩
theorem S2.yes {d : Nat} {x : Val d} {level left l : Int} {g : Nat} {w W : World} {c : Array Value} {v : Value} (h : S2 w g l c W) (hn : RightV d x (7 - level) ∧ (cntV d x : Int) ≤ left) (hl : l = left - cntV d x) (hi : IsN d W (fun k => w.heap.size ≤ k ∧ k < W.heap.size) g v x) (hv : v.oneCell' = true) : NodeP x level left g w (.returned (.tuple #[v, .bool true])) W :=
  ⟨v, true, l, rfl, ⟨fun _ => hn, fun _ => rfl⟩, h.bud, fun _ => ⟨hl, hi⟩, hv, h.gr⟩

theorem stepNode {d : Nat} (ih : NAt d) : NAt (d + 1) := by
  intro x cs level left g w h1 h7 hl0 hl1 hgw hr hg
  obtain ⟨k, n, t, its, ks⟩ := x
  obtain ⟨iv, kv, rfl, ⟨ia, ic, rfl, hic⟩, hil, ⟨ka, kc, rfl, hkcap, hkc⟩, hkl, htl, hkx⟩ := hr
  have HKR : Hid (ReadsL w g (.slice ka (ks.map Value.string).length kc) (ks.map .string)) := ⟨ka, kc, rfl, hkcap, hkc⟩
  rw [List.length_map] at hkcap HKR
  rw [List.length_map]
  have HIC : Hid _ := hic
  have hwl : IntKind.i64.wrap (level + 1) = level + 1 := IntWalk.i64_in _ (by omega)
  obtain ⟨il, hil9⟩ : ∃ z, its.length = z := ⟨_, rfl⟩
  obtain ⟨kl, hkl9⟩ : ∃ z, ks.length = z := ⟨_, rfl⟩
  rw [hil9] at hil ⊢
  rw [hkl9] at hkl hkcap HKR ⊢
  have HIL : Hid (its.length = il) := hil9
  have HKL : Hid (ks.length = kl) := hkl9
  clear hil9 hkl9 hic hkc
  obtain ⟨W0, hW0⟩ : ∃ W, w.alloc (.cells #[.int .i64 k, .int .i64 n, .string t, .slice ia il ic, .slice ka kl kc] 30) = W := ⟨_, rfl⟩
  have HS0 : Hid (S2 w g left #[.int .i64 k, .int .i64 n, .string t, .slice ia il ic, .slice ka kl kc] W0) := by
    show S2 w g left #[.int .i64 k, .int .i64 n, .string t, .slice ia il ic, .slice ka kl kc] W0
    rw [← hW0]
    exact ⟨(old_block hgw).trans hg, heap_alloc_new w _, ⟨rfl, rfl, rfl, by simp, fun b hb _ => old_block hb⟩⟩
  have hgne : w.heap.size ≠ g := by omega
  have had := admits g left level W0 (by omega) (by omega) HS0.out.bud
  obtain ⟨ab, hab⟩ : ∃ b, (decide (0 ≤ left - 1) && decide (level ≤ 6)) = b := ⟨_, rfl⟩
  rw [hab] at had
  have HAB : Hid ((decide (0 ≤ left - 1) && decide (level ≤ 6)) = ab) := hab
  clear hg hab
  go_enter Try.func52, Try.ntmps52
  go_wp2_with fail
  go_at_call 64
  clear hW0
  refine had.mono ?_
  rintro e W1 ⟨rfl, hb1, hg1⟩
  have HS1 : Hid (S2 w g (left - 1) #[.int .i64 k, .int .i64 n, .string t, .slice ia il ic, .slice ka kl kc] W1) := HS0.out.call hb1 hg1 hgne
  clear had hb1 hg1 HS0
  cases ab with
  | false =>
    have NO : Hid (¬ (RightV (d + 1) (k, n, t, its, ks) (7 - level) ∧ (cntV (d + 1) (k, n, t, its, ks) : Int) ≤ left)) := fun ⟨h8, h9⟩ => by
      have h10 := HAB.out
      have h11 := right_pos h8
      have h12 : (1 : Int) ≤ 7 - level := h8.1
      rw [decide_eq_true (by omega), decide_eq_true (by omega)] at h10
      cases h10
    go_wp2
    go_ret2
    exact HS1.out.no NO.out rfl
  | true =>
    have hbl : 0 ≤ left - 1 ∧ level ≤ 6 := by
      have h10 := HAB.out
      simp only [Bool.and_eq_true, decide_eq_true_eq] at h10
      exact h10
    obtain ⟨hleft, hlev⟩ := hbl
    obtain ⟨c0, c1, c2, c3, c4⟩ := five_in HS1.out.box
    have hko := kindOnly k n t ia il ic ka kl kc W1
    clear HAB
    go_wp2_with fail
    go_at_call 65
    refine hko.mono ?_
    rintro e W2 ⟨kb, rfl, hkb, hB2⟩
    have HS : Hid (S2 w g (left - 1) #[.int .i64 k, .int .i64 n, .string t, .slice ia il ic, .slice ka kl kc] W2) := HS1.out.below hB2
    have HKB : Hid (kb = true ↔ KindO k n t il kl) := hkb
    clear hko hkb hB2 HS1 c0 c1 c2 c3 c4
    obtain ⟨c0, c1, c2, c3, c4⟩ := five_in HS.out.box
    cases kb with
    | false =>
      have NO : Hid (¬ (RightV (d + 1) (k, n, t, its, ks) (7 - level) ∧ (cntV (d + 1) (k, n, t, its, ks) : Int) ≤ left)) := fun ⟨h8, h9⟩ => by
        have hl := h8.2.1
        have e1 := HIL.out
        have e2 := HKL.out
        refine Bool.noConfusion (HKB.out.2 ⟨fun a b => hl.hn a b, fun a => hl.ht a, fun a b => ?_, fun a => ?_⟩)
        · have := hl.hm (by have := hl.lo; have := hl.hi; omega); omega
        · have h3 := hl.hk a; rw [h3] at e2; simp at e2; omega
      go_wp2
      go_ret2
      exact HS.out.no NO.out rfl
    | true =>
      have HKO : Hid (KindO k n t il kl) := HKB.out.1 rfl
      clear HKB
      obtain rfl | rfl | rfl | rfl | rfl | rfl | hk : k = 1 ∨ k = 2 ∨ k = 3 ∨ k = 4 ∨ k = 5 ∨ k = 6 ∨ (k < 1 ∨ 6 < k) := by omega
      · have HI0 : Hid (its = []) := List.eq_nil_of_length_eq_zero (by have h8 := HKO.out.2.2.1 (by omega) (by omega); have h9 := HIL.out; omega)
        have HK0 : Hid (ks = []) := List.eq_nil_of_length_eq_zero (by have h8 := HKO.out.2.2.2 (by omega); have h9 := HKL.out; omega)
        have C1 : Hid (cntV (d + 1) (1, n, t, its, ks) = 1) := by show cntV (d + 1) (1, n, t, its, ks) = 1; rw [HI0.out]; rfl
        have YES : Hid (RightV (d + 1) (1, n, t, its, ks) (7 - level) ∧ (cntV (d + 1) (1, n, t, its, ks) : Int) ≤ left) := ⟨⟨by omega, ⟨by omega, by omega, fun a b => HKO.out.1 a b, fun h => by omega, fun h => by omega, fun a => HKO.out.2.1 a, fun h => by omega, fun _ => by have h8 := HKO.out.2.2.1 (by omega) (by omega); have h9 := HIL.out; omega, fun _ => HK0.out, fun h => by omega⟩, fun x hx => by rw [HI0.out] at hx; simp at hx⟩, by rw [C1.out]; omega⟩
        go_wp2
        go_ret2
        exact HS.out.yes YES.out (by rw [C1.out]; rfl) ⟨fun _ => rfl, fun h => by omega, fun h => by omega, fun h => by omega, fun h => by omega, fun h => by omega⟩ rfl
      · have HI0 : Hid (its = []) := List.eq_nil_of_length_eq_zero (by have h8 := HKO.out.2.2.1 (by omega) (by omega); have h9 := HIL.out; omega)
        have HK0 : Hid (ks = []) := List.eq_nil_of_length_eq_zero (by have h8 := HKO.out.2.2.2 (by omega); have h9 := HKL.out; omega)
        have C1 : Hid (cntV (d + 1) (2, n, t, its, ks) = 1) := by show cntV (d + 1) (2, n, t, its, ks) = 1; rw [HI0.out]; rfl
        have hcall := newBool n W2
        obtain ⟨vb, hvb⟩ : ∃ b, (decide (n = 0) || decide (n = 1)) = b := ⟨_, rfl⟩
        rw [hvb] at hcall
        have HVB : Hid ((decide (n = 0) || decide (n = 1)) = vb) := hvb
        clear hvb
        go_wp2_with fail
        go_at_call 66
        refine hcall.mono ?_
        rintro e W3 ⟨rfl, hW3⟩
        obtain rfl : W2 = W3 := hW3
        clear hcall
        cases vb with
        | false =>
          have NO : Hid (¬ (RightV (d + 1) (2, n, t, its, ks) (7 - level) ∧ (cntV (d + 1) (2, n, t, its, ks) : Int) ≤ left)) := fun ⟨h8, h9⟩ => by
            have h10 := HVB.out
            have h11 := h8.2.1.h2 rfl
            simp only [Bool.or_eq_false_iff, decide_eq_false_iff_not] at h10
            omega
          go_wp2
          go_ret2
          exact HS.out.no NO.out rfl
        | true =>
          have hvt := HVB.out
          have hvp : 0 ≤ n ∧ n ≤ 1 := by
            simp only [Bool.or_eq_true, decide_eq_true_eq] at hvt; omega
          have YES : Hid (RightV (d + 1) (2, n, t, its, ks) (7 - level) ∧ (cntV (d + 1) (2, n, t, its, ks) : Int) ≤ left) := ⟨⟨by omega, ⟨by omega, by omega, fun a b => HKO.out.1 a b, fun _ => hvp, fun h => by omega, fun a => HKO.out.2.1 a, fun h => by omega, fun _ => by have h8 := HKO.out.2.2.1 (by omega) (by omega); have h9 := HIL.out; omega, fun _ => HK0.out, fun h => by omega⟩, fun x hx => by rw [HI0.out] at hx; simp at hx⟩, by rw [C1.out]; omega⟩
          clear hvt hvp
          go_wp2
          go_ret2
          exact HS.out.yes YES.out (by rw [C1.out]; rfl) ⟨fun h => by omega, fun _ => rfl, fun h => by omega, fun h => by omega, fun h => by omega, fun h => by omega⟩ rfl
      · have HI0 : Hid (its = []) := List.eq_nil_of_length_eq_zero (by have h8 := HKO.out.2.2.1 (by omega) (by omega); have h9 := HIL.out; omega)
        have HK0 : Hid (ks = []) := List.eq_nil_of_length_eq_zero (by have h8 := HKO.out.2.2.2 (by omega); have h9 := HKL.out; omega)
        have C1 : Hid (cntV (d + 1) (3, n, t, its, ks) = 1) := by show cntV (d + 1) (3, n, t, its, ks) = 1; rw [HI0.out]; rfl
        have hcall := newNum n W2
        obtain ⟨vb, hvb⟩ : ∃ b, (decide (-999999999 ≤ n) && decide (n ≤ 999999999)) = b := ⟨_, rfl⟩
        rw [hvb] at hcall
        have HVB : Hid ((decide (-999999999 ≤ n) && decide (n ≤ 999999999)) = vb) := hvb
        clear hvb
        go_wp2_with fail
        go_at_call 67
        refine hcall.mono ?_
        rintro e W3 ⟨rfl, hW3⟩
        obtain rfl : W2 = W3 := hW3
        clear hcall
        cases vb with
        | false =>
          have NO : Hid (¬ (RightV (d + 1) (3, n, t, its, ks) (7 - level) ∧ (cntV (d + 1) (3, n, t, its, ks) : Int) ≤ left)) := fun ⟨h8, h9⟩ => by
            have h10 := HVB.out
            have h11 := h8.2.1.h3 rfl
            rw [decide_eq_true h11.1, decide_eq_true h11.2] at h10
            cases h10
          go_wp2
          go_ret2
          exact HS.out.no NO.out rfl
        | true =>
          have hvt := HVB.out
          have hvp : -999999999 ≤ n ∧ n ≤ 999999999 := by
            simp only [Bool.and_eq_true, decide_eq_true_eq] at hvt; exact hvt
          have YES : Hid (RightV (d + 1) (3, n, t, its, ks) (7 - level) ∧ (cntV (d + 1) (3, n, t, its, ks) : Int) ≤ left) := ⟨⟨by omega, ⟨by omega, by omega, fun a b => HKO.out.1 a b, fun h => by omega, fun _ => hvp, fun a => HKO.out.2.1 a, fun h => by omega, fun _ => by have h8 := HKO.out.2.2.1 (by omega) (by omega); have h9 := HIL.out; omega, fun _ => HK0.out, fun h => by omega⟩, fun x hx => by rw [HI0.out] at hx; simp at hx⟩, by rw [C1.out]; omega⟩
          clear hvt hvp
          go_wp2
          go_ret2
          exact HS.out.yes YES.out (by rw [C1.out]; rfl) ⟨fun h => by omega, fun h => by omega, fun _ => rfl, fun h => by omega, fun h => by omega, fun h => by omega⟩ rfl
      · have HI0 : Hid (its = []) := List.eq_nil_of_length_eq_zero (by have h8 := HKO.out.2.2.1 (by omega) (by omega); have h9 := HIL.out; omega)
        have HK0 : Hid (ks = []) := List.eq_nil_of_length_eq_zero (by have h8 := HKO.out.2.2.2 (by omega); have h9 := HKL.out; omega)
        have C1 : Hid (cntV (d + 1) (4, n, t, its, ks) = 1) := by show cntV (d + 1) (4, n, t, its, ks) = 1; rw [HI0.out]; rfl
        have hcall := newText t W2 htl
        obtain ⟨vb, hvb⟩ : ∃ b, textB t = b := ⟨_, rfl⟩
        rw [hvb] at hcall
        have HVB : Hid (textB t = vb) := hvb
        clear hvb
        go_wp2_with fail
        go_at_call 68
        refine hcall.mono ?_
        rintro e W3 ⟨rfl, hW3⟩
        obtain rfl : W2 = W3 := hW3
        clear hcall
        cases vb with
        | false =>
          have NO : Hid (¬ (RightV (d + 1) (4, n, t, its, ks) (7 - level) ∧ (cntV (d + 1) (4, n, t, its, ks) : Int) ≤ left)) := fun ⟨h8, h9⟩ => by
            have h10 := HVB.out
            have h11 := h8.2.1.h4 rfl
            rw [h11] at h10
            cases h10
          go_wp2
          go_ret2
          exact HS.out.no NO.out rfl
        | true =>
          have hvt := HVB.out
          have hvp : textB t = true := hvt
          have YES : Hid (RightV (d + 1) (4, n, t, its, ks) (7 - level) ∧ (cntV (d + 1) (4, n, t, its, ks) : Int) ≤ left) := ⟨⟨by omega, ⟨by omega, by omega, fun a b => HKO.out.1 a b, fun h => by omega, fun h => by omega, fun a => HKO.out.2.1 a, fun _ => hvp, fun _ => by have h8 := HKO.out.2.2.1 (by omega) (by omega); have h9 := HIL.out; omega, fun _ => HK0.out, fun h => by omega⟩, fun x hx => by rw [HI0.out] at hx; simp at hx⟩, by rw [C1.out]; omega⟩
          clear hvt hvp
          go_wp2
          go_ret2
          exact HS.out.yes YES.out (by rw [C1.out]; rfl) ⟨fun h => by omega, fun h => by omega, fun h => by omega, fun _ => rfl, fun h => by omega, fun h => by omega⟩ rfl
      · have hcall := nodesAt ih its ia il ic (level + 1) (left - 1) g W2 (by omega) (by omega) hleft (by omega) (by have := HS.out.gr.size; omega) HIL.out hil (fun j x hx => by
          obtain ⟨b, off, cs, e1, e2, e3, e4, e5⟩ := HIC.out j x hx
          refine ⟨b, off, cs, e1, e2, e3, fun q hq => ?_, e5.grown HS.out.gr (by omega)⟩
          have h8 := e4 q hq
          rw [List.getElem?_eq_getElem (by omega)] at h8 ⊢
          exact HS.out.cell e2 hgw h8) HS.out.bud
        go_wp2_with fail
        go_at_call 69
        refine hcall.mono ?_
        rintro e W3 ⟨ua, um, uc, nb, l', rfl, hiff, hbu, hyes, hgr⟩
        have HS3 : Hid (S2 w g l' #[.int .i64 5, .int .i64 n, .string t, .slice ia il ic, .slice ka kl kc] W3) := HS.out.call hbu hgr hgne
        have HIFF : Hid (nb = true ↔ (∀ x ∈ its, RightV d x (7 - (level + 1))) ∧ (cntL its : Int) ≤ left - 1) := hiff
        have HY : Hid (nb = true → l' = left - 1 - cntL its ∧ um = its.length ∧ RowN W3 (fun k => W2.heap.size ≤ k ∧ k < W3.heap.size) (IsN d W3 (fun k => W2.heap.size ≤ k ∧ k < W3.heap.size) g) ua its) := hyes
        have HSZ : Hid (w.heap.size ≤ W2.heap.size) := HS.out.gr.size
        have H4 : Hid (cntV (d + 1) (5, n, t, its, ks) = 1 + cntL its) := rfl
        clear hcall hiff hbu hyes hgr HS c0 c1 c2 c3 c4
        obtain ⟨c0, c1, c2, c3, c4⟩ := five_in HS3.out.box
        have h76 : (7 : Int) - (level + 1) = 7 - level - 1 := by omega
        have H76 : Hid ((7 : Int) - (level + 1) = 7 - level - 1) := h76
        clear h76
        cases nb with
        | false =>
          have NO : Hid (¬ (RightV (d + 1) (5, n, t, its, ks) (7 - level) ∧ (cntV (d + 1) (5, n, t, its, ks) : Int) ≤ left)) := fun ⟨h8, h9⟩ => by
            have h10 := H4.out
            exact Bool.noConfusion (HIFF.out.2 ⟨fun x hx => by rw [H76.out]; exact h8.2.2 x hx, by omega⟩)
          go_wp2
          go_ret2
          exact HS3.out.no NO.out rfl
        | true =>
          obtain ⟨hal, hcl⟩ := HIFF.out.1 rfl
          obtain ⟨hl9, hum, hrow⟩ := HY.out rfl
          have HAL : Hid (∀ x ∈ its, RightV d x (7 - level - 1)) := fun x hx => by have h8 := hal x hx; rw [H76.out] at h8; exact h8
          have HCL : Hid ((cntL its : Int) ≤ left - 1) := hcl
          have HLL : Hid (l' = left - cntV (d + 1) (5, n, t, its, ks)) := by show l' = left - cntV (d + 1) (5, n, t, its, ks); rw [H4.out]; omega
          have hum2 : um = il := by rw [hum]; exact HIL.out
          subst hum2
          have HROW : Hid (RowN W3 (fun k => w.heap.size ≤ k ∧ k < W3.heap.size) (IsN d W3 (fun k => w.heap.size ≤ k ∧ k < W3.heap.size) g) ua its) := hrow.keep (fun _ _ => rfl) (fun b hb => ⟨Nat.le_trans HSZ.out hb.1, hb.2⟩) (fun v x hx => hx.keep (fun _ _ => rfl) (fun _ _ => rfl) (fun b hb => ⟨Nat.le_trans HSZ.out hb.1, hb.2⟩))
          clear hal hcl hl9 hum hrow HIFF HY
          have HK0 : Hid (ks = []) := List.eq_nil_of_length_eq_zero (by have h8 := HKO.out.2.2.2 (by omega); have h9 := HKL.out; omega)
          have YES : Hid (RightV (d + 1) (5, n, t, its, ks) (7 - level) ∧ (cntV (d + 1) (5, n, t, its, ks) : Int) ≤ left) := ⟨⟨by omega, ⟨by omega, by omega, fun a b => HKO.out.1 a b, fun h => by omega, fun h => by omega, fun a => HKO.out.2.1 a, fun h => by omega, fun h => by omega, fun _ => HK0.out, fun h => by omega⟩, HAL.out⟩, by have := H4.out; have := HCL.out; omega⟩
          have HISN : Hid (IsN (d + 1) W3 (fun k => w.heap.size ≤ k ∧ k < W3.heap.size) g (.iface 86 (.agg #[.slice ua um uc])) (5, n, t, its, ks)) := ⟨fun h => by omega, fun h => by omega, fun h => by omega, fun h => by omega, fun _ => ⟨ua, uc, by rw [HIL.out], HROW.out⟩, fun h => by omega⟩
          go_wp2
          go_ret2
          exact HS3.out.yes YES.out HLL.out HISN.out rfl
      · have hcall := nodesAt ih its ia il ic (level + 1) (left - 1) g W2 (by omega) (by omega) hleft (by omega) (by have := HS.out.gr.size; omega) HIL.out hil (fun j x hx => by
          obtain ⟨b, off, cs, e1, e2, e3, e4, e5⟩ := HIC.out j x hx
          refine ⟨b, off, cs, e1, e2, e3, fun q hq => ?_, e5.grown HS.out.gr (by omega)⟩
          have h8 := e4 q hq
          rw [List.getElem?_eq_getElem (by omega)] at h8 ⊢
          exact HS.out.cell e2 hgw h8) HS.out.bud
        go_wp2_with fail
        go_at_call 69
        refine hcall.mono ?_
        rintro e W3 ⟨ua, um, uc, nb, l', rfl, hiff, hbu, hyes, hgr⟩
        have HS3 : Hid (S2 w g l' #[.int .i64 6, .int .i64 n, .string t, .slice ia il ic, .slice ka kl kc] W3) := HS.out.call hbu hgr hgne
        have HIFF : Hid (nb = true ↔ (∀ x ∈ its, RightV d x (7 - (level + 1))) ∧ (cntL its : Int) ≤ left - 1) := hiff
        have HY : Hid (nb = true → l' = left - 1 - cntL its ∧ um = its.length ∧ RowN W3 (fun k => W2.heap.size ≤ k ∧ k < W3.heap.size) (IsN d W3 (fun k => W2.heap.size ≤ k ∧ k < W3.heap.size) g) ua its) := hyes
        have HSZ : Hid (w.heap.size ≤ W2.heap.size) := HS.out.gr.size
        have H4 : Hid (cntV (d + 1) (6, n, t, its, ks) = 1 + cntL its) := rfl
        clear hcall hiff hbu hyes hgr HS c0 c1 c2 c3 c4
        obtain ⟨c0, c1, c2, c3, c4⟩ := five_in HS3.out.box
        have h76 : (7 : Int) - (level + 1) = 7 - level - 1 := by omega
        have H76 : Hid ((7 : Int) - (level + 1) = 7 - level - 1) := h76
        clear h76
        cases nb with
        | false =>
          have NO : Hid (¬ (RightV (d + 1) (6, n, t, its, ks) (7 - level) ∧ (cntV (d + 1) (6, n, t, its, ks) : Int) ≤ left)) := fun ⟨h8, h9⟩ => by
            have h10 := H4.out
            exact Bool.noConfusion (HIFF.out.2 ⟨fun x hx => by rw [H76.out]; exact h8.2.2 x hx, by omega⟩)
          go_wp2
          go_ret2
          exact HS3.out.no NO.out rfl
        | true =>
          obtain ⟨hal, hcl⟩ := HIFF.out.1 rfl
          obtain ⟨hl9, hum, hrow⟩ := HY.out rfl
          have HAL : Hid (∀ x ∈ its, RightV d x (7 - level - 1)) := fun x hx => by have h8 := hal x hx; rw [H76.out] at h8; exact h8
          have HCL : Hid ((cntL its : Int) ≤ left - 1) := hcl
          have HLL : Hid (l' = left - cntV (d + 1) (6, n, t, its, ks)) := by show l' = left - cntV (d + 1) (6, n, t, its, ks); rw [H4.out]; omega
          have hum2 : um = il := by rw [hum]; exact HIL.out
          subst hum2
          have HROW : Hid (RowN W3 (fun k => w.heap.size ≤ k ∧ k < W3.heap.size) (IsN d W3 (fun k => w.heap.size ≤ k ∧ k < W3.heap.size) g) ua its) := hrow.keep (fun _ _ => rfl) (fun b hb => ⟨Nat.le_trans HSZ.out hb.1, hb.2⟩) (fun v x hx => hx.keep (fun _ _ => rfl) (fun _ _ => rfl) (fun b hb => ⟨Nat.le_trans HSZ.out hb.1, hb.2⟩))
          clear hal hcl hl9 hum hrow HIFF HY
          have HKR3 : Hid (ReadsL W3 g (.slice ka kl kc) (ks.map .string)) := HKR.out.keep (fun a v ha hv => (World.cell?_of_block (HS3.out.gr.block a.block (by omega) (fun e => by cases e; omega))).trans hv) (Nat.le_refl _)
          have hnm := newMap ks kl ka kc ua um uc W3 HKL.out hkl hkcap hkx HKR3.out.rd
          go_wp2_with fail
          go_at_call 70
          refine hnm.mono ?_
          rintro e W4 ⟨⟨v, mb, rfl, hmb, hmv, hone⟩, hW4⟩
          obtain rfl : W3 = W4 := hW4
          have HMB : Hid (mb = true ↔ ks.length = um ∧ KeysB ks) := hmb
          have HMV : Hid (mb = true → v = .iface 88 (.agg #[.slice ua um uc, .slice ka kl kc])) := hmv
          have HONE : Hid (v.oneCell' = true) := hone
          clear hnm hmb hmv hone
          cases mb with
          | false =>
            have NO : Hid (¬ (RightV (d + 1) (6, n, t, its, ks) (7 - level) ∧ (cntV (d + 1) (6, n, t, its, ks) : Int) ≤ left)) := fun ⟨h8, h9⟩ => by
              have h10 := h8.2.1.h6 rfl
              exact Bool.noConfusion (HMB.out.2 ⟨by rw [h10.1]; exact HIL.out, h10.2⟩)
            go_wp2
            go_ret2
            exact HS3.out.no NO.out HONE.out
          | true =>
            obtain ⟨hkm, hkb⟩ := HMB.out.1 rfl
            have hve := HMV.out rfl
            subst hve
            have HKM : Hid (ks.length = its.length ∧ KeysB ks) := ⟨by rw [HIL.out]; exact hkm, hkb⟩
            have YES : Hid (RightV (d + 1) (6, n, t, its, ks) (7 - level) ∧ (cntV (d + 1) (6, n, t, its, ks) : Int) ≤ left) := ⟨⟨by omega, ⟨by omega, by omega, fun a b => HKO.out.1 a b, fun h => by omega, fun h => by omega, fun a => HKO.out.2.1 a, fun h => by omega, fun h => by omega, fun h => absurd rfl h, fun _ => HKM.out⟩, HAL.out⟩, by have := H4.out; have := HCL.out; omega⟩
            have HISN : Hid (IsN (d + 1) W3 (fun k => w.heap.size ≤ k ∧ k < W3.heap.size) g (.iface 88 (.agg #[.slice ua um uc, .slice ka kl kc])) (6, n, t, its, ks)) := ⟨fun h => by omega, fun h => by omega, fun h => by omega, fun h => by omega, fun h => by omega, fun _ => ⟨ua, uc, ka, kc, by rw [HIL.out, HKL.out], HROW.out, by rw [HKL.out]; exact HKR3.out⟩⟩
            clear hkm hkb HMB HMV
            go_wp2
            go_ret2
            exact HS3.out.yes YES.out HLL.out HISN.out rfl
      · obtain ⟨k1, k2, k3, k4, k5, k6⟩ : (k == 1) = false ∧ (k == 2) = false ∧ (k == 3) = false ∧ (k == 4) = false ∧ (k == 5) = false ∧ (k == 6) = false := by simp; omega
        have NK : Hid (¬ (1 ≤ k ∧ k ≤ 6)) := fun h => by omega
        have NO9 : Hid (¬ (RightV (d + 1) (k, n, t, its, ks) (7 - level) ∧ (cntV (d + 1) (k, n, t, its, ks) : Int) ≤ left)) := fun ⟨h8, h9⟩ => NK.out ⟨h8.2.1.lo, h8.2.1.hi⟩
        clear hk
        have hcall := nodesAt ih its ia il ic (level + 1) (left - 1) g W2 (by omega) (by omega) hleft (by omega) (by have := HS.out.gr.size; omega) HIL.out hil (fun j x hx => by
          obtain ⟨b, off, cs, e1, e2, e3, e4, e5⟩ := HIC.out j x hx
          refine ⟨b, off, cs, e1, e2, e3, fun q hq => ?_, e5.grown HS.out.gr (by omega)⟩
          have h8 := e4 q hq
          rw [List.getElem?_eq_getElem (by omega)] at h8 ⊢
          exact HS.out.cell e2 hgw h8) HS.out.bud
        go_wp2_with fail
        go_at_call 69
        refine hcall.mono ?_
        rintro e W3 ⟨ua, um, uc, nb, l', rfl, hiff, hbu, hyes, hgr⟩
        have HS3 : Hid (S2 w g l' #[.int .i64 k, .int .i64 n, .string t, .slice ia il ic, .slice ka kl kc] W3) := HS.out.call hbu hgr hgne
        have HIFF : Hid (nb = true ↔ (∀ x ∈ its, RightV d x (7 - (level + 1))) ∧ (cntL its : Int) ≤ left - 1) := hiff
        have HY : Hid (nb = true → l' = left - 1 - cntL its ∧ um = its.length ∧ RowN W3 (fun k => W2.heap.size ≤ k ∧ k < W3.heap.size) (IsN d W3 (fun k => W2.heap.size ≤ k ∧ k < W3.heap.size) g) ua its) := hyes
        have HSZ : Hid (w.heap.size ≤ W2.heap.size) := HS.out.gr.size
        have H4 : Hid (cntV (d + 1) (k, n, t, its, ks) = 1 + cntL its) := rfl
        clear hcall hiff hbu hyes hgr HS c0 c1 c2 c3 c4
        obtain ⟨c0, c1, c2, c3, c4⟩ := five_in HS3.out.box
        have h76 : (7 : Int) - (level + 1) = 7 - level - 1 := by omega
        have H76 : Hid ((7 : Int) - (level + 1) = 7 - level - 1) := h76
        clear h76
        cases nb with
        | false =>
          have NO : Hid (¬ (RightV (d + 1) (k, n, t, its, ks) (7 - level) ∧ (cntV (d + 1) (k, n, t, its, ks) : Int) ≤ left)) := fun ⟨h8, h9⟩ => by
            have h10 := H4.out
            exact Bool.noConfusion (HIFF.out.2 ⟨fun x hx => by rw [H76.out]; exact h8.2.2 x hx, by omega⟩)
          go_wp2
          go_ret2
          exact HS3.out.no NO.out rfl
        | true =>
          clear HIFF HY
          go_wp2
          go_ret2
          exact HS3.out.no NO9.out rfl

theorem nodeAt : ∀ d, NAt d
  | 0 => fun _ _ _ _ _ _ _ _ _ _ _ h _ => h.elim
  | d + 1 => stepNode (nodeAt d)

end Go.Proofs.Ytepahapocgmhiaa
