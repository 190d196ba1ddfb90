/-
  Put together out of: OrderFns, RegionInv.
-/
import Derived.Test.YtmloeldgeegddaaG22ImplCircles
import Derived.Test.YtmloeldgeegddaaSpecCircles
import Derived.Deep.RegionHeld3
import Derived.Test.YtmloeldgeegddaaG00IntS
import Derived.Orders
/-
  What impl.Order calls: callsNoOther, its closure, the search for the first group that may come next.
-/
namespace Go.Proofs.Ytmloeldgeegddaa
open Go.RowKit
set_option linter.unusedVariables false
set_option maxHeartbeats 4000000
set_option maxRecDepth 20000

/-- The slice v holds the lists L. -/
def ReadsL (w : World) (v : Value) (L : List LV) : Prop :=
  ∃ ao cap, v = .slice ao L.length cap ∧ ∀ j x, L[j]? = some x → ∃ g off, ao = some ⟨g, off, none⟩ ∧ w.cell? ⟨g, off + j, none⟩ = some x.1 ∧ Reads w x.1 (nats x.2) ∧ x.2 ≠ []

theorem readsL_below {w w' : World} {v : Value} {L : List LV} (h : ReadsL w v L) (hb : Below w.heap.size w w') : ReadsL w' v L := by
  obtain ⟨ao, cap, rfl, hc⟩ := h
  refine ⟨ao, cap, rfl, fun j x hx => ?_⟩
  obtain ⟨g, off, hg, hcell, hr, h0⟩ := hc j x hx
  exact ⟨g, off, hg, (hb.cell (World.block_lt_of_cell? w _ hcell)).trans hcell, reads_below hr hb, h0⟩

theorem gr_readsL {w : World} {B : Nat} {gv : Value} {L : List LV} (h : GR w B gv L) : ReadsL w gv L := by
  rcases own_shape h.row with ⟨e1, e2, _⟩ | ⟨g, cap, e, hl, hc⟩
  · have : L = [] := List.eq_nil_of_length_eq_zero e2
    subst this
    exact ⟨none, 0, e1, fun j x hx => by simp at hx⟩
  · refine ⟨some ⟨g, 0, none⟩, cap, e, fun j x hx => ⟨g, 0, rfl, ?_, reads_own (h.each x (List.mem_of_getElem? hx)).2, (h.each x (List.mem_of_getElem? hx)).1⟩⟩
    have := hc j x.1 (by rw [List.getElem?_map, hx]; rfl)
    have e2 : (⟨g, 0, none⟩ : Addr).add j = ⟨g, 0 + j, none⟩ := by unfold Addr.add; split <;> simp_all
    rw [e2] at this
    exact this

/-- other[0] != group[0] && Contains(reached, other[0]) -/
theorem noOther1 (grp oth : List Nat) (A : List Int) (b : Bool) (hA : A.length ≤ 4) (gv rv ov : Value) (w : World) (G R : Nat) (hg0 : grp ≠ []) (ho0 : oth ≠ []) (hG : w.heap[G]? = some (.cells #[gv] 30 (0, 0))) (hR : w.heap[R]? = some (.cells #[rv] 30 (0, 0)))
    (hgr : Reads w gv (nats grp)) (hrr : Reads w rv (ints A)) (hor : Reads w ov (nats oth)) (hb : hasI A (hd oth : Nat) = b) :
    Calls Try.prog 115 #[ov, .pointer (some ⟨G, 0, none⟩), .pointer (some ⟨R, 0, none⟩)] w fun e w' => e = .returned (.bool (!Nat.beq (hd oth) (hd grp) && b)) ∧ Below w.heap.size w w' := by
  obtain ⟨g, off, n, cap, rfl, hn, c0⟩ := reads_hd hg0 hgr
  obtain ⟨g', off', n', cap', rfl, hn', c1⟩ := reads_hd ho0 hor
  obtain ⟨cG, _⟩ := one_cell hG
  obtain ⟨cR, _⟩ := one_cell hR
  obtain ⟨ra, rc, hrv, _⟩ := id hrr
  have c0 := cell_regrown c0
  have c1 := cell_regrown c1
  have cG := cell_regrown cG
  have cR := cell_regrown cR
  have hcon := fun W (h : Reads W rv (ints A)) => sliceContains A (hd oth : Nat) rv W (by unfold maxLen; omega) h
  rw [hb] at hcon
  have he : ∀ d os, _ := fun d os => Calls.regrown_of (w := w) (d := d) (os := os) ((hcon _ (reads_below hrr (below_regrown w d os))).mono (fun e w' ⟨h1, h2⟩ => ⟨h1, h2 ▸ Below.refl _ _⟩))
  have hni : (0 : Int) < (n : Int) := by omega
  have hni' : (0 : Int) < (n' : Int) := by omega
  have hbq : Nat.beq (hd oth) (hd grp) = decide (hd oth = hd grp) := by
    cases h : Nat.beq (hd oth) (hd grp) with
    | true => rw [Nat.eq_of_beq_eq_true h]; simp
    | false =>
      have : ¬ hd oth = hd grp := fun e => by rw [e, Nat.beq_refl] at h; cases h
      simp [this]
  rw [hbq]
  clear hgr hrr hor hcon hG hR hb hbq
  subst hrv
  generalize hd oth = x at *
  generalize hd grp = y at *
  by_cases hxy : x = y
  · subst hxy
    go_enter Try.func115, Try.ntmps115
    go_wp2
    refine wp_region_quiet_below (by kernel_rfl) (by kernel_rfl) ?_
    repeat (go_big_quiet_step (exact he _ _))
    refine wpQuiet_nil ?_
    intro _ hw'
    obtain ⟨⟨dq, osq⟩, hw''⟩ := hw'
    subst hw''
    have BW := below_regrown w dq osq
    go_wp2
    go_ret
    exact ⟨by simp, BW⟩
  · have hne : ¬ (x : Int) = (y : Int) := by omega
    have hnb : ((x : Int) != (y : Int)) = true := by simpa using hne
    go_enter Try.func115, Try.ntmps115
    go_wp2
    refine wp_region_quiet_below (by kernel_rfl) (by kernel_rfl) ?_
    repeat (go_big_quiet_step (exact he _ _))
    refine wpQuiet_nil ?_
    intro _ hw'
    obtain ⟨⟨dq, osq⟩, hw''⟩ := hw'
    subst hw''
    have BW := below_regrown w dq osq
    go_wp2
    go_ret
    exact ⟨by simp [hxy], BW⟩

theorem fidx_le {α : Type} (p : α → Bool) : ∀ (xs : List α), fidx p xs ≤ xs.length
  | [] => Nat.le_refl _
  | x :: xs => by
    have := fidx_le p xs
    unfold fidx
    cases p x <;> simp only [cond, List.length_cons] <;> omega

theorem fidx_take {α : Type} {p : α → Bool} : ∀ {xs : List α} {k : Nat} {x : α}, (xs.take k).any p = false → xs[k]? = some x → p x = true → fidx p xs = k
  | [], k, x, _, h, _ => by simp at h
  | y :: xs, 0, x, _, h, hp => by
    have : y = x := by simpa using h
    subst this
    unfold fidx
    rw [hp]; rfl
  | y :: xs, k + 1, x, h, hx, hp => by
    simp only [List.take_succ_cons, List.any_cons, Bool.or_eq_false_iff] at h
    have := fidx_take (xs := xs) (k := k) h.2 (by simpa using hx) hp
    unfold fidx
    rw [h.1, this]; rfl

theorem fidx_none {α : Type} {p : α → Bool} : ∀ {xs : List α}, xs.any p = false → fidx p xs = xs.length
  | [], _ => rfl
  | y :: xs, h => by
    simp only [List.any_cons, Bool.or_eq_false_iff] at h
    unfold fidx
    rw [h.1, fidx_none h.2]; rfl

theorem indexOther (L : List LV) (Pd : List Nat → Bool) (v : Value) (c1 c2 : Value) (w : World) (hl : L.length ≤ 4) (hv : ReadsL w v L)
    (hcl : ∀ x ∈ L, ∀ W, Below w.heap.size w W → Calls Try.prog 115 #[x.1, c1, c2] W fun e w' => e = .returned (.bool (Pd x.2)) ∧ Below W.heap.size W w') :
    Calls Try.prog 84 #[v, .func (.func 115) #[] #[c1, c2]] w fun e w' => e = .returned (.int .i64 (if (L.map Prod.snd).any Pd then (fidx Pd (L.map Prod.snd) : Int) else -1)) ∧ Below w.heap.size w w' := by
  obtain ⟨ao, cap, rfl, hc⟩ := hv
  have hl' : (L.length : Int) ≤ 4 := by omega
  obtain ⟨R, hR⟩ : ∃ R : Int, (if (L.map Prod.snd).any Pd then (fidx Pd (L.map Prod.snd) : Int) else -1) = R := ⟨_, rfl⟩
  rw [hR]
  have HR : Hid _ := hR
  clear hR
  go_enter Try.func84, Try.ntmps84
  go_wp2
  go_loopw [8] (fun kv wr => ∃ k : Nat, k ≤ L.length ∧ kv = .int .i64 k ∧ ((L.map Prod.snd).take k).any Pd = false ∧ Below w.heap.size w wr) (fun kv _ => L.length - (intOf kv).toNat)
  case atStart => exact ⟨0, Nat.zero_le _, rfl, by simp, Below.refl _ _⟩
  case round =>
    obtain ⟨k, hk, rfl, hno, hL⟩ := hrel
    have HNO : Hid _ := hno
    clear hno
    by_cases hlt : k < L.length
    · have hlt' : (k : Int) < (L.length : Int) := by omega
      obtain ⟨g, off, rfl, hg, hrd, _⟩ := hc k L[k] (by simp [hlt])
      have hg := (hL.cell (World.block_lt_of_cell? w _ hg)).trans hg
      have hcal := hcl L[k] (List.getElem_mem hlt) wr hL
      have hsn : ((L.map Prod.snd).take (k + 1)).any Pd = Pd L[k].2 := by
        rw [List.take_succ_eq_append_getElem (by simpa using hlt), List.any_append, HNO.out]
        simp
      have hget : (L.map Prod.snd)[k]? = some L[k].2 := by simp [hlt]
      obtain ⟨ua, un, uc, hus⟩ : ∃ a n c, L[k].1 = .slice a n c := by obtain ⟨a, c, e, _⟩ := hrd; exact ⟨_, _, _, e⟩
      rw [hus] at hg hcal
      have HSN : Hid _ := hsn
      have HGT : Hid _ := hget
      clear hc hsn hget hus hrd hcl
      cases hb : Pd L[k].2 with
      | true =>
        rw [hb] at hcal
        have HBT : Hid (R = (k : Int)) := by
          show R = (k : Int)
          have h1 : (L.map Prod.snd).any Pd = true := List.any_eq_true.2 ⟨_, List.mem_of_getElem? HGT.out, hb⟩
          rw [← HR.out, if_pos h1, fidx_take HNO.out HGT.out hb]
        clear HSN HGT hb
        go_wp2_with (go_at_call 115; refine hcal.mono ?_; rintro e w5 ⟨rfl, b5⟩)
        go_ret
        exact ⟨by rw [HBT.out]; rfl, hL.trans (b5.mono hL.size)⟩
      | false =>
        rw [hb] at hcal
        have HN2 : Hid _ := HSN.out.trans hb
        clear HSN HGT hb
        go_wp2_with (go_at_call 115; refine hcal.mono ?_; rintro e w5 ⟨rfl, b5⟩)
        go_roundw
        case rel => exact ⟨k + 1, by omega, by go_num, HN2.out, hL.trans (b5.mono hL.size)⟩
        case measure => simp [intOf]; omega
    · obtain rfl : k = L.length := by omega
      have HF : Hid (R = -1) := by
        show R = -1
        have := HNO.out
        rw [List.take_of_length_le (by simp)] at this
        rw [← HR.out, this]
        rfl
      go_wp2
      go_ret
      exact ⟨by rw [HF.out]; rfl, hL⟩

theorem indexOrder (L : List LV) (Pd : List Nat → Bool) (v : Value) (c1 c2 : Value) (w : World) (hl : L.length ≤ 4) (hv : ReadsL w v L)
    (hcl : ∀ x ∈ L, ∀ W, Below w.heap.size w W → Calls Try.prog 85 #[x.1, c1, c2] W fun e w' => e = .returned (.bool (Pd x.2)) ∧ Below W.heap.size W w') :
    Calls Try.prog 84 #[v, .func (.func 85) #[] #[c1, c2]] w fun e w' => e = .returned (.int .i64 (if (L.map Prod.snd).any Pd then (fidx Pd (L.map Prod.snd) : Int) else -1)) ∧ Below w.heap.size w w' := by
  obtain ⟨ao, cap, rfl, hc⟩ := hv
  have hl' : (L.length : Int) ≤ 4 := by omega
  obtain ⟨R, hR⟩ : ∃ R : Int, (if (L.map Prod.snd).any Pd then (fidx Pd (L.map Prod.snd) : Int) else -1) = R := ⟨_, rfl⟩
  rw [hR]
  have HR : Hid _ := hR
  clear hR
  go_enter Try.func84, Try.ntmps84
  go_wp2
  go_loopw [8] (fun kv wr => ∃ k : Nat, k ≤ L.length ∧ kv = .int .i64 k ∧ ((L.map Prod.snd).take k).any Pd = false ∧ Below w.heap.size w wr) (fun kv _ => L.length - (intOf kv).toNat)
  case atStart => exact ⟨0, Nat.zero_le _, rfl, by simp, Below.refl _ _⟩
  case round =>
    obtain ⟨k, hk, rfl, hno, hL⟩ := hrel
    have HNO : Hid _ := hno
    clear hno
    by_cases hlt : k < L.length
    · have hlt' : (k : Int) < (L.length : Int) := by omega
      obtain ⟨g, off, rfl, hg, hrd, _⟩ := hc k L[k] (by simp [hlt])
      have hg := (hL.cell (World.block_lt_of_cell? w _ hg)).trans hg
      have hcal := hcl L[k] (List.getElem_mem hlt) wr hL
      have hsn : ((L.map Prod.snd).take (k + 1)).any Pd = Pd L[k].2 := by
        rw [List.take_succ_eq_append_getElem (by simpa using hlt), List.any_append, HNO.out]
        simp
      have hget : (L.map Prod.snd)[k]? = some L[k].2 := by simp [hlt]
      obtain ⟨ua, un, uc, hus⟩ : ∃ a n c, L[k].1 = .slice a n c := by obtain ⟨a, c, e, _⟩ := hrd; exact ⟨_, _, _, e⟩
      rw [hus] at hg hcal
      have HSN : Hid _ := hsn
      have HGT : Hid _ := hget
      clear hc hsn hget hus hrd hcl
      cases hb : Pd L[k].2 with
      | true =>
        rw [hb] at hcal
        have HBT : Hid (R = (k : Int)) := by
          show R = (k : Int)
          have h1 : (L.map Prod.snd).any Pd = true := List.any_eq_true.2 ⟨_, List.mem_of_getElem? HGT.out, hb⟩
          rw [← HR.out, if_pos h1, fidx_take HNO.out HGT.out hb]
        clear HSN HGT hb
        go_wp2_with (go_at_call 85; refine hcal.mono ?_; rintro e w5 ⟨rfl, b5⟩)
        go_ret
        exact ⟨by rw [HBT.out]; rfl, hL.trans (b5.mono hL.size)⟩
      | false =>
        rw [hb] at hcal
        have HN2 : Hid _ := HSN.out.trans hb
        clear HSN HGT hb
        go_wp2_with (go_at_call 85; refine hcal.mono ?_; rintro e w5 ⟨rfl, b5⟩)
        go_roundw
        case rel => exact ⟨k + 1, by omega, by go_num, HN2.out, hL.trans (b5.mono hL.size)⟩
        case measure => simp [intOf]; omega
    · obtain rfl : k = L.length := by omega
      have HF : Hid (R = -1) := by
        show R = -1
        have := HNO.out
        rw [List.take_of_length_le (by simp)] at this
        rw [← HR.out, this]
        rfl
      go_wp2
      go_ret
      exact ⟨by rw [HF.out]; rfl, hL⟩

theorem containsOther (L : List LV) (Pd : List Nat → Bool) (v : Value) (c1 c2 : Value) (w : World) (hl : L.length ≤ 4) (hv : ReadsL w v L)
    (hcl : ∀ x ∈ L, ∀ W, Below w.heap.size w W → Calls Try.prog 115 #[x.1, c1, c2] W fun e w' => e = .returned (.bool (Pd x.2)) ∧ Below W.heap.size W w') :
    Calls Try.prog 114 #[v, .func (.func 115) #[] #[c1, c2]] w fun e w' => e = .returned (.bool ((L.map Prod.snd).any Pd)) ∧ Below w.heap.size w w' := by
  have hi := indexOther L Pd v c1 c2 w hl hv hcl
  obtain ⟨B, hB⟩ : ∃ B, (L.map Prod.snd).any Pd = B := ⟨_, rfl⟩
  rw [hB] at hi ⊢
  have hq : ∀ q : Int, (if B then (fidx Pd (L.map Prod.snd) : Int) else -1) = q → decide (0 ≤ q) = B ∧ -1 ≤ q ∧ q ≤ 4 := fun q e => by
    have := fidx_le Pd (L.map Prod.snd)
    rw [List.length_map] at this
    cases B <;> simp at e <;> subst e <;> simp <;> omega
  obtain ⟨q, hqe⟩ : ∃ q : Int, (if B then (fidx Pd (L.map Prod.snd) : Int) else -1) = q := ⟨_, rfl⟩
  obtain ⟨h1, h2, h3⟩ := hq q hqe
  rw [hqe] at hi
  have HR : Hid _ := h1
  clear hB hcl hv hq hqe h1
  go_enter Try.func114, Try.ntmps114
  go_wp2_with fail
  go_at_call 84
  refine hi.mono ?_
  rintro e w' ⟨rfl, b1⟩
  clear hi
  go_wp2
  go_ret
  exact ⟨by rw [← HR.out]; simp, b1⟩

end Go.Proofs.Ytmloeldgeegddaa

/-
  A region that draws its order, by an invariant over the set of the operations that have run: one proof an operation, whatever the order.
-/
namespace Go.Proofs.Ytmloeldgeegddaa
open Go.RowKit

section
variable {P : Program} {ops : Array Oper} {Q : Exit → Act → World → Prop}

theorem wp_then {o : Oper} {a : Act} {w : World} {K : Act → World → Prop} (h : o.wp P a w K (Exit.then K Q)) : o.wp P a w K Q := by
  unfold Oper.wp at *
  generalize (execOp a.eval o).run P w = r at *
  cases r with
  | ok n w' =>
    cases n <;> simp only [Oper.upon] at h ⊢ <;>
      first
        | exact h
        | exact Calls.mono h (fun e w'' he => by cases e <;> exact he)
  | halt x w' => cases x <;> simp only [Oper.upon] at h ⊢ <;> exact h

theorem wp_then_mk {o : Oper} {a : Act} {w : World} {K : Act → World → Prop} (h : o.wp P a w K Q) : o.wp P a w K (Exit.then K Q) := by
  unfold Oper.wp at *
  generalize (execOp a.eval o).run P w = r at *
  cases r with
  | ok n w' =>
    cases n <;> simp only [Oper.upon] at h ⊢ <;>
      first
        | exact h
        | exact Calls.mono h (fun e w'' he => by cases e <;> exact he)
  | halt x w' => cases x <;> simp only [Oper.upon] at h ⊢ <;> exact h

theorem wpOp_of_list {i : Nat} {o : Oper} {a : Act} {w : World} {K : Act → World → Prop} (ho : ops[i]? = some o) (h : wpList P ops (Exit.then K Q) [o] a w) : wpOp P ops Q i K a w := by
  unfold wpOp
  rw [ho]
  simp only
  unfold wpList at h
  split
  · rename_i hw
    rw [if_pos hw] at h
    rcases h with h | ⟨h1, h2⟩
    · exact .inl (wp_then h)
    · exact .inr ⟨h1, h2⟩
  · rename_i hw
    rw [if_neg hw] at h
    exact h

theorem wpList_mono_then {o : Oper} {a : Act} {w : World} {K K' : Act → World → Prop} (hk : ∀ a w, K a w → K' a w) (h : wpList P ops (Exit.then K Q) [o] a w) : wpList P ops (Exit.then K' Q) [o] a w := by
  unfold wpList at h ⊢
  split
  · rename_i hw
    rw [if_pos hw] at h
    rcases h with h | ⟨h1, h2⟩
    · refine .inl ?_
      have h3 : o.wp P a w K' Q := Oper.wp_mono hk (wp_then h)
      exact wp_then_mk h3
    · exact .inr ⟨h1, h2⟩
  · rename_i hw
    rw [if_neg hw] at h
    exact hk _ _ h

theorem count_set : ∀ (l : List Bool) (i : Nat), l[i]? = some false → (l.set i true).count false + 1 = l.count false
  | [], i, h => by simp at h
  | b :: l, 0, h => by simp at h; subst h; simp
  | b :: l, i + 1, h => by
    have := count_set l i (by simpa using h)
    cases b <;> simp [List.set_cons_succ] <;> omega

/-- Each operation waits only on operations ahead of it. -/
def lowB (ops : Array Oper) : Bool := (List.range ops.size).all fun i => ((ops[i]?).map (fun o => o.after.all fun e => !Region.binds .any e || decide (e.on < i))).getD true

theorem ready_some (hlow : lowB ops = true) {listed : Array Bool} (hs : listed.size = ops.size) {i : Nat} (hi : i < ops.size) (hl : listed.getD i false = false) :
    Region.ready .any ops listed ≠ [] := by
  induction i using Nat.strongRecOn with
  | ind i ih =>
    intro hnil
    have hg : listed.getD i true = false := by
      rw [Array.getD_eq_getD_getElem?] at *
      rw [Array.getElem?_eq_getElem (by omega)] at *
      simpa using hl
    have hlow1 := List.all_eq_true.1 hlow i (by simpa using hi)
    rw [Array.getElem?_eq_getElem hi] at hlow1
    simp only [Option.map_some, Option.getD_some] at hlow1
    have hmem : i ∈ Region.ready .any ops listed := by
      unfold Region.ready
      rw [List.mem_filter]
      refine ⟨by simpa using hi, ?_⟩
      rw [hg, Array.getElem?_eq_getElem hi]
      simp only [Bool.not_false, Bool.true_and, Option.map_some, Option.getD_some]
      rw [Array.all_eq_true] at hlow1 ⊢
      intro k hk
      have h1 := hlow1 k hk
      cases hb : Region.binds .any ops[i].after[k] with
      | false => simp
      | true =>
        rw [hb] at h1
        simp only [Bool.not_true, Bool.false_or, decide_eq_true_eq] at h1
        cases hd : listed.getD ops[i].after[k].on false with
        | true => simp
        | false => exact absurd hnil (ih _ h1 (by omega) hd)
    rw [hnil] at hmem
    cases hmem

theorem wp_region_inv {id : Nat} {a : Act} {w : World} (hm : P.follows .mixedOrders = true) (hlow : lowB ops = true) (I : (Nat → Bool) → Act → World → Prop) (h0 : I (fun _ => false) a w.drew)
    (hstep : ∀ (l : Nat → Bool) (i : Nat) (o : Oper) (a : Act) (w : World), ops[i]? = some o → I l a w → l i = false → (o.after.all fun e => !Region.binds .any e || l e.on) = true →
      wpList P ops (Exit.then (fun a' w' => I (fun j => j == i || l j) a' w') Q) [o] a w)
    (hend : ∀ (l : Nat → Bool) (a : Act) (w : World), I l a w → (∀ i, i < ops.size → l i = true) → Q .normal a w) : (Code.region id ops true).wp P Q a w := by
  refine wp_region_any hm ?_
  have key : ∀ (fuel : Nat) (listed : Array Bool) (a : Act) (w : World), listed.size = ops.size → listed.toList.count false ≤ fuel → I (fun j => listed.getD j false) a w → wpAny P .any ops Q fuel listed a w := by
    intro fuel
    have fin : ∀ (listed : Array Bool) (a : Act) (w : World), listed.size = ops.size → I (fun j => listed.getD j false) a w → Region.ready .any ops listed = [] → Q .normal a w := by
      intro listed a w hs hI hnil
      refine hend _ a w hI (fun i hi => ?_)
      cases hd : listed.getD i false with
      | true => rfl
      | false => exact absurd hnil (ready_some hlow hs hi hd)
    induction fuel with
    | zero =>
      intro listed a w hs hc hI
      have hnil : Region.ready .any ops listed = [] := by
        unfold Region.ready
        rw [List.filter_eq_nil_iff]
        intro i hi
        have hi' : i < listed.size := by rw [hs]; simpa using hi
        have hne : listed[i] = true := by
          cases hb : listed[i] with
          | true => rfl
          | false =>
            have hmem : false ∈ listed.toList := by
              rw [← hb]
              exact Array.getElem_mem_toList hi'
            have := List.count_pos_iff.2 hmem
            omega
        rw [Array.getD_eq_getD_getElem?, Array.getElem?_eq_getElem hi', hne]
        simp
      exact ⟨hnil, fin listed a w hs hI hnil⟩
    | succ fuel ih =>
      intro listed a w hs hc hI
      refine ⟨fin listed a w hs hI, fun i hi => ?_⟩
      unfold Region.ready at hi
      rw [List.mem_filter] at hi
      obtain ⟨hir, hc2⟩ := hi
      have hio : i < ops.size := by simpa using hir
      have hil : i < listed.size := by omega
      rw [Array.getElem?_eq_getElem hio] at hc2
      simp only [Bool.and_eq_true, Option.map_some, Option.getD_some] at hc2
      have hf : listed[i] = false := by
        have := hc2.1
        rw [Array.getD_eq_getD_getElem?, Array.getElem?_eq_getElem hil] at this
        simpa using this
      refine wpOp_of_list (Array.getElem?_eq_getElem hio) ?_
      have hst := hstep (fun j => listed.getD j false) i ops[i] a w (Array.getElem?_eq_getElem hio) hI (by rw [Array.getD_eq_getD_getElem?, Array.getElem?_eq_getElem hil, hf]; rfl) hc2.2
      refine wpList_mono_then (fun a' w' hI' => ih _ a' w' (by simpa using hs) ?_ ?_) hst
      · have := count_set listed.toList i (by rw [Array.getElem?_toList, Array.getElem?_eq_getElem hil, hf])
        rw [Array.toList_setIfInBounds]
        omega
      · have e : (fun j => (listed.setIfInBounds i true).getD j false) = fun j => j == i || listed.getD j false := by
          funext j
          rw [Array.getD_eq_getD_getElem?, Array.getElem?_setIfInBounds, Array.getD_eq_getD_getElem?]
          by_cases hj : i = j
          · subst hj
            simp [hil]
          · rw [if_neg hj]
            have : (j == i) = false := by simp; omega
            rw [this, Bool.false_or]
        rw [e]
        exact hI'
  refine key ops.size (Array.replicate ops.size false) a _ (by simp) (by simp) ?_
  have e : (fun j => (Array.replicate ops.size false).getD j false) = fun _ => false := by
    funext j
    rw [Array.getD_eq_getD_getElem?, Array.getElem?_replicate]
    split <;> rfl
  rw [e]
  exact h0

end
end Go.Proofs.Ytmloeldgeegddaa
