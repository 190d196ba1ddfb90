/-
  Slices of Places: eqPlaceS, markPlaceS, heldPlaceS.
-/
import Derived.Test.YtnjbihfceckpfaaG01IntS
import Derived.Deep.RegionHeld3
namespace Go.Proofs.Ytnjbihfceckpfaa
open Go.RowKit
set_option linter.unusedVariables false
set_option linter.unusedSimpArgs false
set_option maxHeartbeats 4000000
set_option maxRecDepth 20000

/-- A slice of n Places (two cells each) that hold xs. -/
def Reads2 (w : World) (v : Value) (n : Nat) (xs : List Value) : Prop :=
  ∃ ao cap, v = .slice ao n cap ∧ ∀ j x, xs[j]? = some x → ∃ g off, ao = some ⟨g, off, none⟩ ∧ w.cell? ⟨g, off + j, none⟩ = some x

theorem reads2_own {w : World} {base : Nat} {e : TypeId} {v : Value} {n : Nat} {xs : List Value} (h : w.ownsRow base e 2 v n xs) : Reads2 w v n xs := by
  have hl := h.1
  rcases h.2 with ⟨rfl, hn⟩ | ⟨g, cap, cur, rfl, hr⟩
  · subst hn
    exact ⟨none, 0, rfl, fun j x hx => by rw [List.eq_nil_of_length_eq_zero (by omega : xs.length = 0)] at hx; simp at hx⟩
  · refine ⟨some ⟨g, 0, none⟩, cap, rfl, fun j x hx => ⟨g, 0, rfl, ?_⟩⟩
    have hj : j < xs.length := (List.getElem?_eq_some_iff.1 hx).1
    have := h.cellAt j (by omega)
    rw [Nat.zero_add, this, hx]

theorem reads2_below {w w' : World} {v : Value} {n : Nat} {xs : List Value} (h : Reads2 w v n xs) (hb : Below w.heap.size w w') : Reads2 w' v n xs := by
  obtain ⟨ao, cap, rfl, hc⟩ := h
  refine ⟨ao, cap, rfl, fun j x hx => ?_⟩
  obtain ⟨g, off, hg, hcell⟩ := hc j x hx
  exact ⟨g, off, hg, (hb.cell (World.block_lt_of_cell? w _ hcell)).trans hcell⟩

theorem own_cell2 {w : World} {base : Nat} {e : TypeId} {g n cap : Nat} {xs : List Value} (h : w.ownsRow base e 2 (.slice (some ⟨g, 0, none⟩) n cap) n xs) (j : Nat) (hj : j < n * 2) : ∃ x, w.cell? ⟨g, j, none⟩ = some x := ⟨_, (h.cellAt j hj).trans (List.getElem?_eq_getElem (by have := h.1; omega))⟩

theorem eqPlace (x y : Int) (w : World) : Calls Try.prog 56 #[.agg #[.int .i64 x, .int .i64 y], .agg #[.int .i64 x, .int .i64 y]] w fun e w' => e = .returned (.bool true) ∧ Below w.heap.size w w' := by
  go_enter Try.func56, Try.ntmps56
  go_wp2
  go_ret
  exact ⟨rfl, by go_grown⟩

theorem eqPlaceS (n : Nat) (xs : List Int) (v u : Value) (w : World) (hx : xs.length = 2 * n) (hl : n ≤ 1099511627776) (hv : Reads2 w v n (ints xs)) (hu : Reads2 w u n (ints xs)) :
    Calls Try.prog 27 #[v, u] w fun e w' => e = .returned (.bool true) ∧ Below w.heap.size w w' := by
  obtain ⟨ao, cap, rfl, hc⟩ := hv
  obtain ⟨bo, cap', rfl, hd⟩ := hu
  go_enter Try.func27, Try.ntmps27
  go_wp2
  go_loopw [5] (fun i wr => ∃ k : Nat, k ≤ n ∧ i = .int .i64 k ∧ Below w.heap.size w wr) (fun i _ => n - (intOf i).toNat)
  case atStart => exact ⟨0, Nat.zero_le _, rfl, Below.refl _ _⟩
  case round =>
    obtain ⟨k, hk, rfl, hb⟩ := hrel
    by_cases hlt : k < n
    · have k1 : k * 2 < xs.length := by omega
      have k2 : k * 2 + 1 < xs.length := by omega
      obtain ⟨g, off, rfl, h1⟩ := hc (k * 2) (.int .i64 xs[k * 2]) (by simp [ints, k1])
      obtain ⟨g9, off9, e9, h2⟩ := hc (k * 2 + 1) (.int .i64 xs[k * 2 + 1]) (by simp [ints, k2])
      cases e9
      obtain ⟨g', off', rfl, h3⟩ := hd (k * 2) (.int .i64 xs[k * 2]) (by simp [ints, k1])
      obtain ⟨g8, off8, e8, h4⟩ := hd (k * 2 + 1) (.int .i64 xs[k * 2 + 1]) (by simp [ints, k2])
      cases e8
      have h1 := (hb.cell (World.block_lt_of_cell? w _ h1)).trans h1
      have h2 := (hb.cell (World.block_lt_of_cell? w _ h2)).trans h2
      have h3 := (hb.cell (World.block_lt_of_cell? w _ h3)).trans h3
      have h4 := (hb.cell (World.block_lt_of_cell? w _ h4)).trans h4
      rw [← Nat.add_assoc] at h2 h4
      have hlt' : (k : Int) < (n : Int) := by omega
      have z1 := World.block_lt_of_cell? wr _ h1
      have z2 := World.block_lt_of_cell? wr _ h3
      have HB : Hid _ := hb
      clear hc hd hb
      generalize xs[k * 2] = x at *
      generalize xs[k * 2 + 1] = y at *
      go_wp2_with fail
      --HELD a
      refine wp_region_held_drew (S := fun w' => (w'.cell? ⟨g, off + k * 2, none⟩ = some (.int .i64 x) ∧ w'.cell? ⟨g, off + k * 2 + 1, none⟩ = some (.int .i64 y)) ∧ w'.cell? ⟨g', off' + k * 2, none⟩ = some (.int .i64 x) ∧ w'.cell? ⟨g', off' + k * 2 + 1, none⟩ = some (.int .i64 y)) (by kernel_rfl) ⟨⟨h1, h2⟩, h3, h4⟩ (fun hHeld => ?_)
      refine wpAnyH_take (i := 0) (oi := ?oip0) (v := .slice (some ⟨g, off, none⟩) n cap) ?hip0 (by kernel_rfl) (by kernel_rfl) (by kernel_rfl) ?hqp0 ?hyp0 hHeld ?hrp0
      case hip0 =>
        simp only [List.getElem?_toArray, List.getElem?_cons_succ, List.getElem?_cons_zero]
        rfl
      case hqp0 => exact fun _ _ _ h => h
      case hyp0 => exact Or.inl ⟨by kernel_rfl, fun w hSw => by go_simp⟩
      try simp only [Act.put, List.setIfInBounds_toArray, List.set_cons_zero, List.set_cons_succ]
      refine wpAnyH_take (i := 1) (oi := ?oip1) (v := .int .i64 (k : Int)) ?hip1 (by kernel_rfl) (by kernel_rfl) (by kernel_rfl) ?hqp1 ?hyp1 hHeld ?hrp1
      case hip1 =>
        simp only [List.getElem?_toArray, List.getElem?_cons_succ, List.getElem?_cons_zero]
        rfl
      case hqp1 => exact fun _ _ _ h => h
      case hyp1 => exact Or.inl ⟨by kernel_rfl, fun w hSw => by go_simp⟩
      try simp only [Act.put, List.setIfInBounds_toArray, List.set_cons_zero, List.set_cons_succ]
      refine wpAnyH_take (i := 2) (oi := ?oip2) (v := .pointer (some ⟨g, off + k * 2, none⟩)) ?hip2 (by kernel_rfl) (by kernel_rfl) (by kernel_rfl) ?hqp2 ?hyp2 hHeld ?hrp2
      case hip2 =>
        simp only [List.getElem?_toArray, List.getElem?_cons_succ, List.getElem?_cons_zero]
        rfl
      case hqp2 => exact fun _ _ _ h => h
      case hyp2 => exact Or.inl ⟨by kernel_rfl, fun w hSw => by go_simp⟩
      try simp only [Act.put, List.setIfInBounds_toArray, List.set_cons_zero, List.set_cons_succ]
      refine wpAnyH_take (i := 3) (oi := ?oip3) (v := .agg #[.int .i64 x, .int .i64 y]) ?hip3 (by kernel_rfl) (by kernel_rfl) (by kernel_rfl) ?hqp3 ?hyp3 hHeld ?hrp3
      case hip3 =>
        simp only [List.getElem?_toArray, List.getElem?_cons_succ, List.getElem?_cons_zero]
        rfl
      case hqp3 => exact fun _ _ _ h => h
      case hyp3 => exact Or.inl ⟨by kernel_rfl, fun w hSw => by obtain ⟨⟨s1, s2⟩, s3, s4⟩ := hSw; go_simp⟩
      try simp only [Act.put, List.setIfInBounds_toArray, List.set_cons_zero, List.set_cons_succ]
      refine wpAnyH_take (i := 4) (oi := ?oip4) (v := .slice (some ⟨g', off', none⟩) n cap') ?hip4 (by kernel_rfl) (by kernel_rfl) (by kernel_rfl) ?hqp4 ?hyp4 hHeld ?hrp4
      case hip4 =>
        simp only [List.getElem?_toArray, List.getElem?_cons_succ, List.getElem?_cons_zero]
        rfl
      case hqp4 => exact fun _ _ _ h => h
      case hyp4 => exact Or.inl ⟨by kernel_rfl, fun w hSw => by go_simp⟩
      try simp only [Act.put, List.setIfInBounds_toArray, List.set_cons_zero, List.set_cons_succ]
      refine wpAnyH_take (i := 5) (oi := ?oip5) (v := .int .i64 (k : Int)) ?hip5 (by kernel_rfl) (by kernel_rfl) (by kernel_rfl) ?hqp5 ?hyp5 hHeld ?hrp5
      case hip5 =>
        simp only [List.getElem?_toArray, List.getElem?_cons_succ, List.getElem?_cons_zero]
        rfl
      case hqp5 => exact fun _ _ _ h => h
      case hyp5 => exact Or.inl ⟨by kernel_rfl, fun w hSw => by go_simp⟩
      try simp only [Act.put, List.setIfInBounds_toArray, List.set_cons_zero, List.set_cons_succ]
      refine wpAnyH_take (i := 6) (oi := ?oip6) (v := .pointer (some ⟨g', off' + k * 2, none⟩)) ?hip6 (by kernel_rfl) (by kernel_rfl) (by kernel_rfl) ?hqp6 ?hyp6 hHeld ?hrp6
      case hip6 =>
        simp only [List.getElem?_toArray, List.getElem?_cons_succ, List.getElem?_cons_zero]
        rfl
      case hqp6 => exact fun _ _ _ h => h
      case hyp6 => exact Or.inl ⟨by kernel_rfl, fun w hSw => by go_simp⟩
      try simp only [Act.put, List.setIfInBounds_toArray, List.set_cons_zero, List.set_cons_succ]
      refine wpAnyH_take (i := 7) (oi := ?oip7) (v := .agg #[.int .i64 x, .int .i64 y]) ?hip7 (by kernel_rfl) (by kernel_rfl) (by kernel_rfl) ?hqp7 ?hyp7 hHeld ?hrp7
      case hip7 =>
        simp only [List.getElem?_toArray, List.getElem?_cons_succ, List.getElem?_cons_zero]
        rfl
      case hqp7 => exact fun _ _ _ h => h
      case hyp7 => exact Or.inl ⟨by kernel_rfl, fun w hSw => by obtain ⟨⟨s1, s2⟩, s3, s4⟩ := hSw; go_simp⟩
      try simp only [Act.put, List.setIfInBounds_toArray, List.set_cons_zero, List.set_cons_succ]
      refine wpAnyH_ready (rs := [8]) (by kernel_rfl) (by simp) ?_
      refine (AllReadyH.cons (o := ?oop8) ?hop8 (fun K hK => ?hkp8) AllReadyH.nil)
      case hop8 =>
        simp only [List.getElem?_toArray, List.getElem?_cons_succ, List.getElem?_cons_zero]
        rfl
      case hkp8 =>
        go_simp
        go_at_call 56
        refine (eqPlace x y wr.drew).mono ?_
        rintro e w5 ⟨rfl, b5⟩
        have B5 : Hid (Below wr.heap.size wr w5) := (Below.drew (Below.refl wr.heap.size wr)).trans b5
        clear b5
        try go_wp2_with fail
        refine hK.out _ _ ⟨⟨(B5.out.cell z1).trans h1, (B5.out.cell z1).trans h2⟩, (B5.out.cell z2).trans h3, (B5.out.cell z2).trans h4⟩ (fun hHeld => ?_)
        clear hK K
        try simp only [Act.put, List.setIfInBounds_toArray, List.set_cons_zero, List.set_cons_succ]
        refine wpAnyH_take (i := 9) (oi := ?oip9) (v := .bool false) ?hip9 (by kernel_rfl) (by kernel_rfl) (by kernel_rfl) ?hqp9 ?hyp9 hHeld ?hrp9
        case hip9 =>
          simp only [List.getElem?_toArray, List.getElem?_cons_succ, List.getElem?_cons_zero]
          rfl
        case hqp9 => exact fun _ _ _ h => h
        case hyp9 => exact Or.inl ⟨by kernel_rfl, fun w hSw => by go_simp⟩
        try simp only [Act.put, List.setIfInBounds_toArray, List.set_cons_zero, List.set_cons_succ]
        refine wpAnyH_done (by kernel_rfl) ?_ _
        go_wp2_with fail
        go_roundw
        case rel => exact ⟨k + 1, by omega, by go_num, HB.out.trans (B5.out.mono HB.out.size)⟩
        case measure => simp [intOf]; omega
      --DLEH a
    · go_wp2
      go_ret
      exact ⟨rfl, hb⟩

theorem markPlaceS {te : TypeId} (n : Nat) (xs : List Value) (v : Value) (base : Nat) (k : Int) (w : World) (hx : xs.length = 2 * n) (hl : n ≤ 2000000) (h1 : 1 ≤ k) (h2 : k ≤ 5000000000000) (hbase : base ≤ w.heap.size)
    (hv : w.ownsRow base te 2 v n xs) :
    Calls Try.prog 28 #[v, .int .i64 k] w fun e w' => e = .returned (.int .i64 (k + 2 * n)) ∧ w'.ownsRow base te 2 v n (markI k (2 * n)) ∧ Below base w w' ∧ w.grownBy w' v.ownBlock := by
  rcases hv.2 with ⟨rfl, hn⟩ | ⟨g, cap, cur, rfl, hbg, hg, hcap⟩
  · subst hn
    have hx0 : xs = [] := List.eq_nil_of_length_eq_zero hx
    subst hx0
    go_enter Try.func28, Try.ntmps28
    go_wp2
    refine wp_loop_rounds 1 ?_
    rw [rounds_succ]
    go_wp2
    go_ret
    exact ⟨ret_int (by simp), hv, Below.refl _ _, World.grownBy.refl _ _⟩
  · clear hcap
    have ml : (markI k (2 * n)).length = xs.length := by rw [markI_length, hx]
    go_enter Try.func28, Try.ntmps28
    go_wp2
    go_loopw [1, 5] (fun q i wr => ∃ j : Nat, j ≤ n ∧ i = .int .i64 j ∧ q = .int .i64 (k + 2 * j) ∧ wr.ownsRow base te 2 (.slice (some ⟨g, 0, none⟩) n cap) n (filled (markI k (2 * n)) xs (j * 2)) ∧ Below base w wr ∧ w.grownBy wr (some g)) (fun _ i _ => n - (intOf i).toNat)
    case atStart => exact ⟨0, Nat.zero_le _, rfl, by simp, by simpa [filled] using hv, Below.refl _ _, World.grownBy.refl _ _⟩
    case round =>
      obtain ⟨j, hj, rfl, rfl, hown, hb, hgr⟩ := hrel
      by_cases hlt : j < n
      · have hlt' : (j : Int) < (n : Int) := by omega
        have hfr := hown.frozenAt (j * 2)
        have hfr2 := hown.frozenAt (j * 2 + 1)
        obtain ⟨x, hcl⟩ := own_cell2 hown (j * 2) (by omega)
        obtain ⟨y, hcl2⟩ := own_cell2 hown (j * 2 + 1) (by omega)
        have hst := hown.stored (j * 2) (.int .i64 (k + 2 * j))
        have hset := filled_set (markI k (2 * n)) xs (j * 2) _ ml (by rw [markI_get _ k (j * 2) (by omega)]; congr 2; push_cast; omega : (markI k (2 * n))[j * 2]? = some (.int .i64 (k + 2 * j)))
        rw [hset] at hst
        have hst2 := hst.1.stored (j * 2 + 1) (.int .i64 (k + 2 * j + 1))
        have hset2 := filled_set (markI k (2 * n)) xs (j * 2 + 1) _ ml (by rw [markI_get _ k (j * 2 + 1) (by omega)]; congr 2; push_cast; omega : (markI k (2 * n))[j * 2 + 1]? = some (.int .i64 (k + 2 * j + 1)))
        rw [hset2] at hst2
        have HST : Hid _ := hst
        have HST2 : Hid _ := hst2
        clear hst hset hst2 hset2 ml
        go_wp2
        have e9 : (j + 1) * 2 = j * 2 + 1 + 1 := by omega
        refine ⟨⟨j + 1, by omega, by go_num, by go_num, by rw [e9]; exact HST2.out.1, (hb.setCell (show _ ≤ (⟨g, j * 2, none⟩ : Addr).block from hbg) _).setCell (show _ ≤ (⟨g, j * 2 + 1, none⟩ : Addr).block from hbg) _, grown_trans (grown_trans hgr HST.out.2) HST2.out.2⟩, ?_⟩
        simp [intOf]; omega
      · have hjj : j = n := by omega
        subst hjj
        rw [filled_all _ _ _ ml (by omega)] at hown
        go_wp2
        go_ret
        exact ⟨rfl, hown, hb, hgr⟩

theorem heldPlaceS (n : Nat) (v : Value) (k : Int) (w : World) (hl : n ≤ 1000000) (h1 : 1 ≤ k) (h2 : k ≤ 1099511627776) (hv : Reads2 w v n (markI k (2 * n))) :
    Calls Try.prog 29 #[v, .int .i64 k] w fun e w' => e = .returned (.int .i64 (k + 2 * n)) ∧ Below w.heap.size w w' := by
  obtain ⟨ao, cap, rfl, hc⟩ := hv
  go_enter Try.func29, Try.ntmps29
  go_wp2
  go_loopw [1, 5] (fun q i wr => ∃ j : Nat, j ≤ n ∧ i = .int .i64 j ∧ q = .int .i64 (k + 2 * j) ∧ w = wr) (fun _ i _ => n - (intOf i).toNat)
  case atStart => exact ⟨0, Nat.zero_le _, rfl, by simp, rfl⟩
  case round =>
    obtain ⟨j, hj, rfl, rfl, rfl⟩ := hrel
    by_cases hlt : j < n
    · have hlt' : (j : Int) < (n : Int) := by omega
      obtain ⟨g, off, rfl, hg⟩ := hc (j * 2) _ (markI_get (2 * n) k (j * 2) (by omega))
      obtain ⟨g9, off9, e9, hg2⟩ := hc (j * 2 + 1) _ (markI_get (2 * n) k (j * 2 + 1) (by omega))
      cases e9
      have e1 : k + ((j * 2 : Nat) : Int) = k + 2 * j := by push_cast; omega
      have e2 : k + ((j * 2 + 1 : Nat) : Int) = k + 2 * j + 1 := by push_cast; omega
      rw [e1] at hg
      rw [e2, ← Nat.add_assoc] at hg2
      clear hc e1 e2
      go_wp2
      go_roundw
      case rel => exact ⟨j + 1, by omega, by go_num, by go_num, by trivial⟩
      case measure => simp [intOf]; omega
    · have hjj : j = n := by omega
      subst hjj
      go_wp2
      go_ret
      exact ⟨rfl, Below.refl _ _⟩

end Go.Proofs.Ytnjbihfceckpfaa
