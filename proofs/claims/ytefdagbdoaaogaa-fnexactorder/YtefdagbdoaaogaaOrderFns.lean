/-
  What impl.Order calls: callsNoOther, its closure, the search for the first group that may come next.
-/
import Derived.Test.YtefdagbdoaaogaaImplCircles
import Derived.Test.YtefdagbdoaaogaaSpecCircles
import Derived.Deep.RegionHeld3
namespace Go.Proofs.Ytefdagbdoaaogaa
open Go.RowKit
set_option linter.unusedVariables false
set_option maxHeartbeats 4000000
set_option maxRecDepth 20000

/-- The slice v holds the lists L. -/
def ReadsL (w : World) (v : Value) (L : List LV) : Prop :=
  ∃ ao cap, v = .slice ao L.length cap ∧ ∀ j x, L[j]? = some x → ∃ g off, ao = some ⟨g, off, none⟩ ∧ w.cell? ⟨g, off + j, none⟩ = some x.1 ∧ Reads w x.1 (nats x.2) ∧ x.2 ≠ []

theorem readsL_below {w w' : World} {v : Value} {L : List LV} (h : ReadsL w v L) (hb : Below w.heap.size w w') : ReadsL w' v L := by
  obtain ⟨ao, cap, rfl, hc⟩ := h
  refine ⟨ao, cap, rfl, fun j x hx => ?_⟩
  obtain ⟨g, off, hg, hcell, hr, h0⟩ := hc j x hx
  exact ⟨g, off, hg, (hb.cell (World.block_lt_of_cell? w _ hcell)).trans hcell, reads_below hr hb, h0⟩

theorem gr_readsL {w : World} {B : Nat} {gv : Value} {L : List LV} (h : GR w B gv L) : ReadsL w gv L := by
  rcases own_shape h.row with ⟨e1, e2, _⟩ | ⟨g, cap, e, hl, hc⟩
  · have : L = [] := List.eq_nil_of_length_eq_zero e2
    subst this
    exact ⟨none, 0, e1, fun j x hx => by simp at hx⟩
  · refine ⟨some ⟨g, 0, none⟩, cap, e, fun j x hx => ⟨g, 0, rfl, ?_, reads_own (h.each x (List.mem_of_getElem? hx)).2, (h.each x (List.mem_of_getElem? hx)).1⟩⟩
    have := hc j x.1 (by rw [List.getElem?_map, hx]; rfl)
    have e2 : (⟨g, 0, none⟩ : Addr).add j = ⟨g, 0 + j, none⟩ := by unfold Addr.add; split <;> simp_all
    rw [e2] at this
    exact this

/-- other[0] != group[0] && Contains(reached, other[0]) -/
theorem noOther1 (grp oth : List Nat) (A : List Int) (b : Bool) (hA : A.length ≤ 4) (gv rv ov : Value) (w : World) (G R : Nat) (hg0 : grp ≠ []) (ho0 : oth ≠ []) (hG : w.heap[G]? = some (.cells #[gv] 32 (0, 0))) (hR : w.heap[R]? = some (.cells #[rv] 32 (0, 0)))
    (hgr : Reads w gv (nats grp)) (hrr : Reads w rv (ints A)) (hor : Reads w ov (nats oth)) (hb : hasI A (hd oth : Nat) = b) :
    Calls Try.prog 72 #[ov, .pointer (some ⟨G, 0, none⟩), .pointer (some ⟨R, 0, none⟩)] w fun e w' => e = .returned (.bool (!Nat.beq (hd oth) (hd grp) && b)) ∧ Below w.heap.size w w' := by
  obtain ⟨g, off, n, cap, rfl, hn, c0⟩ := reads_hd hg0 hgr
  obtain ⟨g', off', n', cap', rfl, hn', c1⟩ := reads_hd ho0 hor
  obtain ⟨cG, _⟩ := one_cell hG
  obtain ⟨cR, _⟩ := one_cell hR
  obtain ⟨ra, rc, hrv, _⟩ := id hrr
  have c0 := cell_regrown c0
  have c1 := cell_regrown c1
  have cG := cell_regrown cG
  have cR := cell_regrown cR
  have hcon := fun W (h : Reads W rv (ints A)) => sliceContains A (hd oth : Nat) rv W (by unfold maxLen; omega) h
  rw [hb] at hcon
  have he : ∀ d os, _ := fun d os => Calls.regrown_of (w := w) (d := d) (os := os) ((hcon _ (reads_below hrr (below_regrown w d os))).mono (fun e w' ⟨h1, h2⟩ => ⟨h1, h2 ▸ Below.refl _ _⟩))
  have hni : (0 : Int) < (n : Int) := by omega
  have hni' : (0 : Int) < (n' : Int) := by omega
  have hbq : Nat.beq (hd oth) (hd grp) = decide (hd oth = hd grp) := by
    cases h : Nat.beq (hd oth) (hd grp) with
    | true => rw [Nat.eq_of_beq_eq_true h]; simp
    | false =>
      have : ¬ hd oth = hd grp := fun e => by rw [e, Nat.beq_refl] at h; cases h
      simp [this]
  rw [hbq]
  clear hgr hrr hor hcon hG hR hb hbq
  subst hrv
  generalize hd oth = x at *
  generalize hd grp = y at *
  by_cases hxy : x = y
  · subst hxy
    go_enter Try.func72, Try.ntmps72
    go_wp2
    refine wp_region_quiet_below (by kernel_rfl) (by kernel_rfl) ?_
    repeat (go_big_quiet_step (exact he _ _))
    refine wpQuiet_nil ?_
    intro _ hw'
    obtain ⟨⟨dq, osq⟩, hw''⟩ := hw'
    subst hw''
    have BW := below_regrown w dq osq
    go_wp2
    go_ret
    exact ⟨by simp, BW⟩
  · have hne : ¬ (x : Int) = (y : Int) := by omega
    have hnb : ((x : Int) != (y : Int)) = true := by simpa using hne
    go_enter Try.func72, Try.ntmps72
    go_wp2
    refine wp_region_quiet_below (by kernel_rfl) (by kernel_rfl) ?_
    repeat (go_big_quiet_step (exact he _ _))
    refine wpQuiet_nil ?_
    intro _ hw'
    obtain ⟨⟨dq, osq⟩, hw''⟩ := hw'
    subst hw''
    have BW := below_regrown w dq osq
    go_wp2
    go_ret
    exact ⟨by simp [hxy], BW⟩

theorem fidx_le {α : Type} (p : α → Bool) : ∀ (xs : List α), fidx p xs ≤ xs.length
  | [] => Nat.le_refl _
  | x :: xs => by
    have := fidx_le p xs
    unfold fidx
    cases p x <;> simp only [cond, List.length_cons] <;> omega

theorem fidx_take {α : Type} {p : α → Bool} : ∀ {xs : List α} {k : Nat} {x : α}, (xs.take k).any p = false → xs[k]? = some x → p x = true → fidx p xs = k
  | [], k, x, _, h, _ => by simp at h
  | y :: xs, 0, x, _, h, hp => by
    have : y = x := by simpa using h
    subst this
    unfold fidx
    rw [hp]; rfl
  | y :: xs, k + 1, x, h, hx, hp => by
    simp only [List.take_succ_cons, List.any_cons, Bool.or_eq_false_iff] at h
    have := fidx_take (xs := xs) (k := k) h.2 (by simpa using hx) hp
    unfold fidx
    rw [h.1, this]; rfl

theorem fidx_none {α : Type} {p : α → Bool} : ∀ {xs : List α}, xs.any p = false → fidx p xs = xs.length
  | [], _ => rfl
  | y :: xs, h => by
    simp only [List.any_cons, Bool.or_eq_false_iff] at h
    unfold fidx
    rw [h.1, fidx_none h.2]; rfl

theorem indexOther (L : List LV) (Pd : List Nat → Bool) (v : Value) (c1 c2 : Value) (w : World) (hl : L.length ≤ 4) (hv : ReadsL w v L)
    (hcl : ∀ x ∈ L, ∀ W, Below w.heap.size w W → Calls Try.prog 72 #[x.1, c1, c2] W fun e w' => e = .returned (.bool (Pd x.2)) ∧ Below W.heap.size W w') :
    Calls Try.prog 36 #[v, .func (.func 72) #[] #[c1, c2]] w fun e w' => e = .returned (.int .i64 (if (L.map Prod.snd).any Pd then (fidx Pd (L.map Prod.snd) : Int) else -1)) ∧ Below w.heap.size w w' := by
  obtain ⟨ao, cap, rfl, hc⟩ := hv
  have hl' : (L.length : Int) ≤ 4 := by omega
  obtain ⟨R, hR⟩ : ∃ R : Int, (if (L.map Prod.snd).any Pd then (fidx Pd (L.map Prod.snd) : Int) else -1) = R := ⟨_, rfl⟩
  rw [hR]
  have HR : Hid _ := hR
  clear hR
  go_enter Try.func36, Try.ntmps36
  go_wp2
  go_loopw [8] (fun kv wr => ∃ k : Nat, k ≤ L.length ∧ kv = .int .i64 k ∧ ((L.map Prod.snd).take k).any Pd = false ∧ Below w.heap.size w wr) (fun kv _ => L.length - (intOf kv).toNat)
  case atStart => exact ⟨0, Nat.zero_le _, rfl, by simp, Below.refl _ _⟩
  case round =>
    obtain ⟨k, hk, rfl, hno, hL⟩ := hrel
    have HNO : Hid _ := hno
    clear hno
    by_cases hlt : k < L.length
    · have hlt' : (k : Int) < (L.length : Int) := by omega
      obtain ⟨g, off, rfl, hg, hrd, _⟩ := hc k L[k] (by simp [hlt])
      have hg := (hL.cell (World.block_lt_of_cell? w _ hg)).trans hg
      have hcal := hcl L[k] (List.getElem_mem hlt) wr hL
      have hsn : ((L.map Prod.snd).take (k + 1)).any Pd = Pd L[k].2 := by
        rw [List.take_succ_eq_append_getElem (by simpa using hlt), List.any_append, HNO.out]
        simp
      have hget : (L.map Prod.snd)[k]? = some L[k].2 := by simp [hlt]
      obtain ⟨ua, un, uc, hus⟩ : ∃ a n c, L[k].1 = .slice a n c := by obtain ⟨a, c, e, _⟩ := hrd; exact ⟨_, _, _, e⟩
      rw [hus] at hg hcal
      have HSN : Hid _ := hsn
      have HGT : Hid _ := hget
      clear hc hsn hget hus hrd hcl
      cases hb : Pd L[k].2 with
      | true =>
        rw [hb] at hcal
        have HBT : Hid (R = (k : Int)) := by
          show R = (k : Int)
          have h1 : (L.map Prod.snd).any Pd = true := List.any_eq_true.2 ⟨_, List.mem_of_getElem? HGT.out, hb⟩
          rw [← HR.out, if_pos h1, fidx_take HNO.out HGT.out hb]
        clear HSN HGT hb
        go_wp2_with (go_at_call 72; refine hcal.mono ?_; rintro e w5 ⟨rfl, b5⟩)
        go_ret
        exact ⟨by rw [HBT.out]; rfl, hL.trans (b5.mono hL.size)⟩
      | false =>
        rw [hb] at hcal
        have HN2 : Hid _ := HSN.out.trans hb
        clear HSN HGT hb
        go_wp2_with (go_at_call 72; refine hcal.mono ?_; rintro e w5 ⟨rfl, b5⟩)
        go_roundw
        case rel => exact ⟨k + 1, by omega, by go_num, HN2.out, hL.trans (b5.mono hL.size)⟩
        case measure => simp [intOf]; omega
    · obtain rfl : k = L.length := by omega
      have HF : Hid (R = -1) := by
        show R = -1
        have := HNO.out
        rw [List.take_of_length_le (by simp)] at this
        rw [← HR.out, this]
        rfl
      go_wp2
      go_ret
      exact ⟨by rw [HF.out]; rfl, hL⟩

theorem indexOrder (L : List LV) (Pd : List Nat → Bool) (v : Value) (c1 c2 : Value) (w : World) (hl : L.length ≤ 4) (hv : ReadsL w v L)
    (hcl : ∀ x ∈ L, ∀ W, Below w.heap.size w W → Calls Try.prog 37 #[x.1, c1, c2] W fun e w' => e = .returned (.bool (Pd x.2)) ∧ Below W.heap.size W w') :
    Calls Try.prog 36 #[v, .func (.func 37) #[] #[c1, c2]] w fun e w' => e = .returned (.int .i64 (if (L.map Prod.snd).any Pd then (fidx Pd (L.map Prod.snd) : Int) else -1)) ∧ Below w.heap.size w w' := by
  obtain ⟨ao, cap, rfl, hc⟩ := hv
  have hl' : (L.length : Int) ≤ 4 := by omega
  obtain ⟨R, hR⟩ : ∃ R : Int, (if (L.map Prod.snd).any Pd then (fidx Pd (L.map Prod.snd) : Int) else -1) = R := ⟨_, rfl⟩
  rw [hR]
  have HR : Hid _ := hR
  clear hR
  go_enter Try.func36, Try.ntmps36
  go_wp2
  go_loopw [8] (fun kv wr => ∃ k : Nat, k ≤ L.length ∧ kv = .int .i64 k ∧ ((L.map Prod.snd).take k).any Pd = false ∧ Below w.heap.size w wr) (fun kv _ => L.length - (intOf kv).toNat)
  case atStart => exact ⟨0, Nat.zero_le _, rfl, by simp, Below.refl _ _⟩
  case round =>
    obtain ⟨k, hk, rfl, hno, hL⟩ := hrel
    have HNO : Hid _ := hno
    clear hno
    by_cases hlt : k < L.length
    · have hlt' : (k : Int) < (L.length : Int) := by omega
      obtain ⟨g, off, rfl, hg, hrd, _⟩ := hc k L[k] (by simp [hlt])
      have hg := (hL.cell (World.block_lt_of_cell? w _ hg)).trans hg
      have hcal := hcl L[k] (List.getElem_mem hlt) wr hL
      have hsn : ((L.map Prod.snd).take (k + 1)).any Pd = Pd L[k].2 := by
        rw [List.take_succ_eq_append_getElem (by simpa using hlt), List.any_append, HNO.out]
        simp
      have hget : (L.map Prod.snd)[k]? = some L[k].2 := by simp [hlt]
      obtain ⟨ua, un, uc, hus⟩ : ∃ a n c, L[k].1 = .slice a n c := by obtain ⟨a, c, e, _⟩ := hrd; exact ⟨_, _, _, e⟩
      rw [hus] at hg hcal
      have HSN : Hid _ := hsn
      have HGT : Hid _ := hget
      clear hc hsn hget hus hrd hcl
      cases hb : Pd L[k].2 with
      | true =>
        rw [hb] at hcal
        have HBT : Hid (R = (k : Int)) := by
          show R = (k : Int)
          have h1 : (L.map Prod.snd).any Pd = true := List.any_eq_true.2 ⟨_, List.mem_of_getElem? HGT.out, hb⟩
          rw [← HR.out, if_pos h1, fidx_take HNO.out HGT.out hb]
        clear HSN HGT hb
        go_wp2_with (go_at_call 37; refine hcal.mono ?_; rintro e w5 ⟨rfl, b5⟩)
        go_ret
        exact ⟨by rw [HBT.out]; rfl, hL.trans (b5.mono hL.size)⟩
      | false =>
        rw [hb] at hcal
        have HN2 : Hid _ := HSN.out.trans hb
        clear HSN HGT hb
        go_wp2_with (go_at_call 37; refine hcal.mono ?_; rintro e w5 ⟨rfl, b5⟩)
        go_roundw
        case rel => exact ⟨k + 1, by omega, by go_num, HN2.out, hL.trans (b5.mono hL.size)⟩
        case measure => simp [intOf]; omega
    · obtain rfl : k = L.length := by omega
      have HF : Hid (R = -1) := by
        show R = -1
        have := HNO.out
        rw [List.take_of_length_le (by simp)] at this
        rw [← HR.out, this]
        rfl
      go_wp2
      go_ret
      exact ⟨by rw [HF.out]; rfl, hL⟩

theorem containsOther (L : List LV) (Pd : List Nat → Bool) (v : Value) (c1 c2 : Value) (w : World) (hl : L.length ≤ 4) (hv : ReadsL w v L)
    (hcl : ∀ x ∈ L, ∀ W, Below w.heap.size w W → Calls Try.prog 72 #[x.1, c1, c2] W fun e w' => e = .returned (.bool (Pd x.2)) ∧ Below W.heap.size W w') :
    Calls Try.prog 71 #[v, .func (.func 72) #[] #[c1, c2]] w fun e w' => e = .returned (.bool ((L.map Prod.snd).any Pd)) ∧ Below w.heap.size w w' := by
  have hi := indexOther L Pd v c1 c2 w hl hv hcl
  obtain ⟨B, hB⟩ : ∃ B, (L.map Prod.snd).any Pd = B := ⟨_, rfl⟩
  rw [hB] at hi ⊢
  have hq : ∀ q : Int, (if B then (fidx Pd (L.map Prod.snd) : Int) else -1) = q → decide (0 ≤ q) = B ∧ -1 ≤ q ∧ q ≤ 4 := fun q e => by
    have := fidx_le Pd (L.map Prod.snd)
    rw [List.length_map] at this
    cases B <;> simp at e <;> subst e <;> simp <;> omega
  obtain ⟨q, hqe⟩ : ∃ q : Int, (if B then (fidx Pd (L.map Prod.snd) : Int) else -1) = q := ⟨_, rfl⟩
  obtain ⟨h1, h2, h3⟩ := hq q hqe
  rw [hqe] at hi
  have HR : Hid _ := h1
  clear hB hcl hv hq hqe h1
  go_enter Try.func71, Try.ntmps71
  go_wp2_with fail
  go_at_call 36
  refine hi.mono ?_
  rintro e w' ⟨rfl, b1⟩
  clear hi
  go_wp2
  go_ret
  exact ⟨by rw [← HR.out]; simp, b1⟩

end Go.Proofs.Ytefdagbdoaaogaa
