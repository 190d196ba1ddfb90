/-
  slices.Replace over statements: one in place of one, one that goes.
-/
import Derived.Test.YtoflfeegllpifaaCopyS
import Derived.BigRegion
import Derived.Deep.RegionHeld3
namespace Go.Proofs.Ytoflfeegllpifaa
open Go.RowKit
set_option linter.unusedVariables false
set_option linter.unusedSimpArgs false
set_option maxHeartbeats 4000000
set_option maxRecDepth 20000

theorem lit_cells {w : World} {b : Nat} {k x y : Int} (h : w.heap[b]? = some (.cells #[.int .i64 k, .int .i64 x, .int .i64 y] 37 (0, 0))) : ∀ j u, (cells3 [⟨k, x, y⟩])[j]? = some u → w.cell? ((⟨b, 0, none⟩ : Addr).add j) = some u := by
  intro j u hj
  rw [Addr.add_lit, Nat.zero_add, cell_of_row w b j _ _ (0, 0) h, ← hj]
  simp [cells3]

theorem lit_kept {w w' : World} {b g : Nat} {o : Obj} (h : w.heap[b]? = some o) (hg : w.grownBy w' (some g)) (hne : b ≠ g) : w'.heap[b]? = some o :=
  (hg.block b (Array.getElem?_eq_some_iff.1 h).1 (fun e => hne (Option.some.inj e))).trans h

theorem clear0 (x : Option Addr) (c : Nat) (ty : TypeId) (W : World) : (Builtin.clear_ #[32] ty #[.slice x 0 c]).run Try.prog W = .ok (.tuple #[]) W := by
  cases x <;> simp [Builtin.clear_, run_underlying Try.underlying32]

theorem replSet (A B : List Stm) (s0 : Stm) (k x y : Int) (g cap b base n a : Nat) (w : World) (ha : A.length = a) (hn : a + 1 + B.length = n) (hl : n ≤ 100) (hne : b ≠ g)
    (hv : w.ownsRow base 37 3 (.slice (some ⟨g, 0, none⟩) n cap) n (cells3 (A ++ s0 :: B))) (hb : w.heap[b]? = some (.cells #[.int .i64 k, .int .i64 x, .int .i64 y] 37 (0, 0))) :
    Calls Try.prog 61 #[.slice (some ⟨g, 0, none⟩) n cap, .int .i64 (a : Int), .int .i64 ((a + 1 : Nat) : Int), .slice (some ⟨b, 0, none⟩) 1 1] w fun e w' => e = .returned (.slice (some ⟨g, 0, none⟩) n cap) ∧ w'.ownsRow base 37 3 (.slice (some ⟨g, 0, none⟩) n cap) n (cells3 (A ++ ⟨k, x, y⟩ :: B)) ∧ w.grownBy w' (some g) := by
  obtain ⟨i0, hi, hz0, hz1, hz2⟩ := info_parts infoStmt
  obtain ⟨sp, hg, hsp, hnc, hcm, hbg⟩ := own_open hv
  unfold maxLen at hcm
  clear hv
  have e1 : cells3 (A ++ s0 :: B) ++ sp = cells3 A ++ (cells3 [s0] ++ (cells3 B ++ sp)) := by rw [cells3_append]; simp [cells3]
  have e2 : ∀ X : List Value, cells3 A ++ (cells3 [⟨k, x, y⟩] ++ (cells3 B ++ X)) = cells3 (A ++ ⟨k, x, y⟩ :: B) ++ X := fun X => by rw [cells3_append]; simp [cells3]
  rw [e1] at hg
  have hlA := cells3_length A
  have hlB := cells3_length B
  rw [ha] at hlA
  have L1 := lit_cells hb
  have hsz := infoStmt_size
  have hfin : ∀ w' : World, w'.heap[g]? = some (.cells (cells3 A ++ (cells3 [⟨k, x, y⟩] ++ (cells3 B ++ sp))).toArray 37 (0, 0)) → w'.ownsRow base 37 3 (.slice (some ⟨g, 0, none⟩) n cap) n (cells3 (A ++ ⟨k, x, y⟩ :: B)) := fun w' h => by
    rw [e2] at h
    exact own_shut h (by rw [cells3_length]; simp; omega) hsp hnc (by unfold maxLen; omega) hbg
  have HF : Hid _ := hfin
  have HG : Hid (w.heap[g]? = some (.cells (cells3 A ++ (cells3 [s0] ++ (cells3 B ++ sp))).toArray 37 (0, 0))) := hg
  clear hfin e1 e2 hg
  obtain ⟨J, hJ⟩ : ∃ J, a + 1 = J := ⟨_, rfl⟩
  rw [hJ]
  have HJ : Hid _ := hJ
  have h1 : (a : Int) ≤ (J : Int) := by omega
  have h2 : (J : Int) ≤ (n : Int) := by omega
  have h3 : (n : Int) ≤ (cap : Int) := by omega
  have h4 : ¬ (a : Int) = (J : Int) := by omega
  have h5 : (a : Int) ≤ (cap : Int) := by omega
  have h6 : ¬ cap = a := by omega
  by_cases hBn : J = n
  · have h7 : (J : Int) = (n : Int) := by omega
    subst hBn
    have hB0 : B = [] := List.eq_nil_of_length_eq_zero (by omega)
    subst hB0
    go_enter Try.func61, Try.ntmps61
    go_wp2_with (first
      | (at_builtin; refine wpList_appS rfl (.tmp 32) (.tmp 33) 32 rfl 37 i0 3 Try.underlying32 hi hz1 g a cap rfl _ _ HG.out ⟨b, 0, none⟩ 1 1 rfl (cells3 [⟨k, x, y⟩]) rfl L1 (cells3_one _) (by omega) (by simp [cells3_length]; omega) ?_; intro w2 hg2 gr2))
    go_ret
    refine ⟨rfl, HF.out w2 ?_, gr2⟩
    have h9 := hg2.out
    rw [splice_mid _ _ _ _ _ hlA (by simp [cells3])] at h9
    exact h9
  · have h7 : ¬ (J : Int) = (n : Int) := by omega
    have h8 : ¬ cap = J := by omega
    have h9 : (J : Int) ≤ (cap : Int) := by omega
    obtain ⟨m, hm⟩ : ∃ m, B.length = m := ⟨_, rfl⟩
    have h10 : n - J = m := by omega
    have h13 : (a : Int) + 1 + (m : Int) = (n : Int) := by omega
    have HM : Hid _ := hm
    have hmn : Nat.min m (n - J) = m := by rw [h10]; exact Nat.min_self _
    have h11 : ¬ (cap : Int) < (n : Int) := by omega
    have h12 : (n : Int) ≤ (cap : Int) := by omega
    have hgA : ∀ w2 : World, w2.heap[g]? = some (.cells (splice (cells3 A ++ (cells3 [s0] ++ (cells3 B ++ sp))) (a * 3) (cells3 [⟨k, x, y⟩])).toArray 37 (0, 0)) → w2.heap[g]? = some (.cells (cells3 A ++ (cells3 [⟨k, x, y⟩] ++ (cells3 B ++ sp))).toArray 37 (0, 0)) := fun w2 h => by
      rw [splice_mid _ _ _ _ _ hlA (by simp [cells3])] at h
      exact h
    have HGA : Hid _ := hgA
    have hsrc : ∀ w2 : World, w2.heap[g]? = some (.cells (cells3 A ++ (cells3 [⟨k, x, y⟩] ++ (cells3 B ++ sp))).toArray 37 (0, 0)) → ∀ j u, (cells3 B)[j]? = some u → w2.cell? ((⟨g, J * 3, none⟩ : Addr).add j) = some u := fun w2 h j u hj => by
      have hjl := (List.getElem?_eq_some_iff.1 hj).1
      rw [Addr.add_lit, row_cell h, ← List.append_assoc, List.getElem?_append_right (by simp [cells3_length, ha]; omega), List.getElem?_append_left (by simp [cells3_length, ha]; omega), ← hj]
      congr 1
      simp [cells3_length, ha]
      omega
    have HSR : Hid _ := hsrc
    have HGD : Hid (w.drew.heap[g]? = some (.cells (cells3 A ++ (cells3 [s0] ++ (cells3 B ++ sp))).toArray 37 (0, 0))) := HG.out
    have L1D : Hid (∀ j u, (cells3 [⟨k, x, y⟩])[j]? = some u → w.drew.cell? ((⟨b, 0, none⟩ : Addr).add j) = some u) := L1
    have grD : w.grownBy w.drew (some g) := grown_of_below (Below.drew (Below.refl _ _)) _
    have HGR : Hid _ := grD
    have HQ1 : Hid ((cells3 [(⟨k, x, y⟩ : Stm)]).length = Nat.min 1 (n - a) * 3) := by
      have : Nat.min 1 (n - a) = 1 := Nat.min_eq_left (by omega)
      show _ = _
      rw [this]; rfl
    have HQ2 : Hid (a * 3 + (cells3 [(⟨k, x, y⟩ : Stm)]).length ≤ (cells3 A ++ (cells3 [s0] ++ (cells3 B ++ sp))).length) := by
      show _ ≤ _
      simp [cells3_length, ha]
    have HQ3 : Hid ((cells3 B).length = Nat.min m m * 3) := by
      show _ = _
      have hmm : Nat.min m m = m := Nat.min_self m
      rw [hmm, cells3_length, hm]
    have HQ4 : Hid (J * 3 + (cells3 B).length ≤ (cells3 A ++ (cells3 [⟨k, x, y⟩] ++ (cells3 B ++ sp))).length) := by
      show _ ≤ _
      simp [cells3_length, ha]
      omega
    have HGB : Hid (∀ w2 : World, w2.heap[g]? = some (.cells (splice (cells3 A ++ (cells3 [⟨k, x, y⟩] ++ (cells3 B ++ sp))) (J * 3) (cells3 B)).toArray 37 (0, 0)) → w2.heap[g]? = some (.cells (cells3 A ++ (cells3 [⟨k, x, y⟩] ++ (cells3 B ++ sp))).toArray 37 (0, 0))) := fun w2 h => by
      rw [← List.append_assoc, splice_mid _ _ _ _ _ (by simp [cells3_length, ha]; omega) rfl, List.append_assoc] at h
      exact h
    have hJi : (a : Int) + 1 = (J : Int) := by omega
    have h13b : (J : Int) + (m : Int) = (n : Int) := by omega
    clear h13
    have hwJ : IntKind.i64.wrap (J : Int) = (J : Int) := IntWalk.i64_in _ (by omega)
    have hwN : IntKind.i64.wrap (n : Int) = (n : Int) := IntWalk.i64_in _ (by omega)
    have hwM : IntKind.i64.wrap (m : Int) = (m : Int) := IntWalk.i64_in _ (by omega)
    clear hgA hsrc hJ hm hn L1 grD
    go_enter Try.func61, Try.ntmps61
    go_wp2_with fail
    go_region
    go_wp2_with (first
      | (refine wpList_copyS rfl (.tmp 95) (.tmp 96) 32 32 rfl 37 3 (by decide) Try.underlying32 hsz _ _ _ _ _ _ rfl rfl g (a * 3) _ _ HGD.out (cells3 [⟨k, x, y⟩]) HQ1.out (fun _ => ⟨rfl, _, rfl, L1D.out⟩) HQ2.out (cells3_one _) ?_; intro w2 hg2 gr2))
    have HG3 : Hid (w2.drew.heap[g]? = _) := HGA.out w2 hg2.out
    have HB2 : Hid (∀ j u, (cells3 B)[j]? = some u → w2.drew.cell? ((⟨g, J * 3, none⟩ : Addr).add j) = some u) := HSR.out w2.drew HG3.out
    have grE : w.grownBy w2.drew (some g) := grown_trans (grown_trans HGR.out gr2) (grown_of_below (Below.drew (Below.refl _ _)) _)
    have HGE : Hid _ := grE
    clear gr2 grE
    dsimp only [Act.put]
    simp only [List.setIfInBounds_toArray, List.set_cons_zero, List.set_cons_succ]
    refine wp_region_held_drew (S := fun _ => True) (by kernel_rfl) trivial (fun hHeld => ?_)
    refine wpAnyH_take (i := 0) (oi := ?oira0) (v := .slice (some ⟨g, 0, none⟩) n (cap)) ?hira0 (by kernel_rfl) (by kernel_rfl) (by kernel_rfl) ?hqra0 ?hyra0 hHeld ?hrra0
    case hira0 =>
      simp only [List.getElem?_toArray, List.getElem?_cons_succ, List.getElem?_cons_zero]
      rfl
    case hqra0 => exact fun _ _ _ h => h
    case hyra0 => exact Or.inl ⟨by kernel_rfl, fun w hSw => by go_simp⟩
    try simp only [Act.put, List.setIfInBounds_toArray, List.set_cons_zero, List.set_cons_succ]
    refine wpAnyH_take (i := 1) (oi := ?oira1) (v := .int .i64 (a : Int)) ?hira1 (by kernel_rfl) (by kernel_rfl) (by kernel_rfl) ?hqra1 ?hyra1 hHeld ?hrra1
    case hira1 =>
      simp only [List.getElem?_toArray, List.getElem?_cons_succ, List.getElem?_cons_zero]
      rfl
    case hqra1 => exact fun _ _ _ h => h
    case hyra1 => exact Or.inl ⟨by kernel_rfl, fun w hSw => by go_simp⟩
    try simp only [Act.put, List.setIfInBounds_toArray, List.set_cons_zero, List.set_cons_succ]
    refine wpAnyH_take (i := 2) (oi := ?oira2) (v := .slice (some ⟨b, 0, none⟩) 1 1) ?hira2 (by kernel_rfl) (by kernel_rfl) (by kernel_rfl) ?hqra2 ?hyra2 hHeld ?hrra2
    case hira2 =>
      simp only [List.getElem?_toArray, List.getElem?_cons_succ, List.getElem?_cons_zero]
      rfl
    case hqra2 => exact fun _ _ _ h => h
    case hyra2 => exact Or.inl ⟨by kernel_rfl, fun w hSw => by go_simp⟩
    try simp only [Act.put, List.setIfInBounds_toArray, List.set_cons_zero, List.set_cons_succ]
    refine wpAnyH_take (i := 3) (oi := ?oira3) (v := .int .i64 (1 : Int)) ?hira3 (by kernel_rfl) (by kernel_rfl) (by kernel_rfl) ?hqra3 ?hyra3 hHeld ?hrra3
    case hira3 =>
      simp only [List.getElem?_toArray, List.getElem?_cons_succ, List.getElem?_cons_zero]
      rfl
    case hqra3 => exact fun _ _ _ h => h
    case hyra3 => exact Or.inl ⟨by kernel_rfl, fun w hSw => by go_simp⟩
    try simp only [Act.put, List.setIfInBounds_toArray, List.set_cons_zero, List.set_cons_succ]
    refine wpAnyH_take (i := 4) (oi := ?oira4) (v := .int .i64 (J : Int)) ?hira4 (by kernel_rfl) (by kernel_rfl) (by kernel_rfl) ?hqra4 ?hyra4 hHeld ?hrra4
    case hira4 =>
      simp only [List.getElem?_toArray, List.getElem?_cons_succ, List.getElem?_cons_zero]
      rfl
    case hqra4 => exact fun _ _ _ h => h
    case hyra4 => exact Or.inl ⟨by kernel_rfl, fun w hSw => by go_simp⟩
    try simp only [Act.put, List.setIfInBounds_toArray, List.set_cons_zero, List.set_cons_succ]
    refine wpAnyH_take (i := 5) (oi := ?oira5) (v := .slice (some ⟨g, J * 3, none⟩) m (cap - J)) ?hira5 (by kernel_rfl) (by kernel_rfl) (by kernel_rfl) ?hqra5 ?hyra5 hHeld ?hrra5
    case hira5 =>
      simp only [List.getElem?_toArray, List.getElem?_cons_succ, List.getElem?_cons_zero]
      rfl
    case hqra5 => exact fun _ _ _ h => h
    case hyra5 => exact Or.inl ⟨by kernel_rfl, fun w hSw => by go_simp⟩
    try simp only [Act.put, List.setIfInBounds_toArray, List.set_cons_zero, List.set_cons_succ]
    refine wpAnyH_take (i := 6) (oi := ?oira6) (v := .slice (some ⟨g, 0, none⟩) n (cap)) ?hira6 (by kernel_rfl) (by kernel_rfl) (by kernel_rfl) ?hqra6 ?hyra6 hHeld ?hrra6
    case hira6 =>
      simp only [List.getElem?_toArray, List.getElem?_cons_succ, List.getElem?_cons_zero]
      rfl
    case hqra6 => exact fun _ _ _ h => h
    case hyra6 => exact Or.inl ⟨by kernel_rfl, fun w hSw => by go_simp⟩
    try simp only [Act.put, List.setIfInBounds_toArray, List.set_cons_zero, List.set_cons_succ]
    refine wpAnyH_take (i := 7) (oi := ?oira7) (v := .int .i64 (J : Int)) ?hira7 (by kernel_rfl) (by kernel_rfl) (by kernel_rfl) ?hqra7 ?hyra7 hHeld ?hrra7
    case hira7 =>
      simp only [List.getElem?_toArray, List.getElem?_cons_succ, List.getElem?_cons_zero]
      rfl
    case hqra7 => exact fun _ _ _ h => h
    case hyra7 => exact Or.inl ⟨by kernel_rfl, fun w hSw => by go_simp⟩
    try simp only [Act.put, List.setIfInBounds_toArray, List.set_cons_zero, List.set_cons_succ]
    refine wpAnyH_take (i := 8) (oi := ?oira8) (v := .slice (some ⟨g, J * 3, none⟩) m (cap - J)) ?hira8 (by kernel_rfl) (by kernel_rfl) (by kernel_rfl) ?hqra8 ?hyra8 hHeld ?hrra8
    case hira8 =>
      simp only [List.getElem?_toArray, List.getElem?_cons_succ, List.getElem?_cons_zero]
      rfl
    case hqra8 => exact fun _ _ _ h => h
    case hyra8 => exact Or.inl ⟨by kernel_rfl, fun w hSw => by go_simp⟩
    try simp only [Act.put, List.setIfInBounds_toArray, List.set_cons_zero, List.set_cons_succ]
    refine wpAnyH_ready (rs := [9]) (by kernel_rfl) (by simp) ?_
    refine (AllReadyH.cons (o := ?oora9) ?hora9 (fun K hK => ?hkra9) AllReadyH.nil)
    case hora9 =>
      simp only [List.getElem?_toArray, List.getElem?_cons_succ, List.getElem?_cons_zero]
      rfl
    case hkra9 =>
      refine step_copyS rfl (.tmp 103) (.tmp 106) 32 32 rfl 37 3 (by decide) Try.underlying32 hsz (some ⟨g, J * 3, none⟩) (some ⟨g, J * 3, none⟩) m (cap - J) m (cap - J)  rfl rfl g (J * 3) _ _ HG3.out (cells3 B) HQ3.out (fun _ => ⟨rfl, _, rfl, HB2.out⟩) HQ4.out (cells3_one _) ?_
      intro w3 hg4 gr4
      refine hK.out _ _ trivial (fun hHeld => ?_)
      clear hK K
      try simp only [Act.put, List.setIfInBounds_toArray, List.set_cons_zero, List.set_cons_succ]
      refine wpAnyH_done (by kernel_rfl) ?_ _
      have HG5 : Hid (w3.heap[g]? = _) := HGB.out w3 hg4.out
      have HGF : Hid (w.grownBy w3 (some g)) := grown_trans HGE.out gr4
      have hcl0 : ∀ (x : Option Addr) (c : Nat) (ty : TypeId) (W : World), (Builtin.clear_ #[32] ty #[.slice x 0 c]).run Try.prog W = .ok (.tuple #[]) W := fun x c ty W => clear0 x c ty W
      by_cases hcn : cap = n
      · go_wp2
        go_ret
        exact ⟨rfl, HF.out w3 HG5.out, HGF.out⟩
      · go_wp2
        go_ret
        exact ⟨rfl, HF.out w3 HG5.out, HGF.out⟩

theorem zero_stmt (W : World) : (zeroValue 37).run Try.prog W = .ok (.agg #[.int .i64 0, .int .i64 0, .int .i64 0]) W := by
  obtain ⟨i0, hi, hz0, hz1, hz2⟩ := info_parts infoStmt
  simp [zeroValue, typeInfo, hi, hz0]

theorem replDrop (A B : List Stm) (s0 : Stm) (g cap base n a : Nat) (w : World) (ha : A.length = a) (hn : a + 1 + B.length = n) (hl : n ≤ 100)
    (hv : w.ownsRow base 37 3 (.slice (some ⟨g, 0, none⟩) n cap) n (cells3 (A ++ s0 :: B))) :
    Calls Try.prog 61 #[.slice (some ⟨g, 0, none⟩) n cap, .int .i64 (a : Int), .int .i64 ((a + 1 : Nat) : Int), .slice none 0 0] w fun e w' => e = .returned (.slice (some ⟨g, 0, none⟩) (a + B.length) cap) ∧ w'.ownsRow base 37 3 (.slice (some ⟨g, 0, none⟩) (a + B.length) cap) (a + B.length) (cells3 (A ++ B)) ∧ w.grownBy w' (some g) := by
  obtain ⟨i0, hi, hz0, hz1, hz2⟩ := info_parts infoStmt
  obtain ⟨sp, hg, hsp, hnc, hcm, hbg⟩ := own_open hv
  unfold maxLen at hcm
  clear hv
  have e1 : cells3 (A ++ s0 :: B) ++ sp = cells3 A ++ (cells3 [s0] ++ (cells3 B ++ sp)) := by rw [cells3_append]; simp [cells3]
  rw [e1] at hg
  have hlA := cells3_length A
  have hlB := cells3_length B
  rw [ha] at hlA
  have hsz := infoStmt_size
  have hfin : ∀ (w' : World) (Z : List Value), Z.length = 3 → w'.heap[g]? = some (.cells (cells3 A ++ (cells3 B ++ (Z ++ sp))).toArray 37 (0, 0)) → w'.ownsRow base 37 3 (.slice (some ⟨g, 0, none⟩) (a + B.length) cap) (a + B.length) (cells3 (A ++ B)) := fun w' Z hZ h => by
    rw [← List.append_assoc (cells3 A), ← cells3_append] at h
    exact own_shut h (by rw [cells3_length]; simp; omega) (by rw [List.length_append, hsp, hZ]; omega) (by omega) (by unfold maxLen; omega) hbg
  have HF : Hid _ := hfin
  have HG : Hid (w.heap[g]? = some (.cells (cells3 A ++ (cells3 [s0] ++ (cells3 B ++ sp))).toArray 37 (0, 0))) := hg
  clear hfin e1 hg
  obtain ⟨J, hJ⟩ : ∃ J, a + 1 = J := ⟨_, rfl⟩
  rw [hJ]
  have HJ : Hid _ := hJ
  have h1 : (a : Int) ≤ (J : Int) := by omega
  have h2 : (J : Int) ≤ (n : Int) := by omega
  have h3 : (n : Int) ≤ (cap : Int) := by omega
  have h4 : ¬ (a : Int) = (J : Int) := by omega
  have h5 : (a : Int) ≤ (cap : Int) := by omega
  have h6 : ¬ cap = a := by omega
  have h6b : (a : Int) ≤ (n : Int) := by omega
  obtain ⟨m, hm⟩ : ∃ m, B.length = m := ⟨_, rfl⟩
  rw [hm] at HF hn hlB ⊢
  obtain ⟨N1, hN1⟩ : ∃ N1, a + m = N1 := ⟨_, rfl⟩
  rw [hN1] at HF ⊢
  have hgr0 := World.grownBy.refl w (some g)
  by_cases hBn : J = n
  · have h7 : (J : Int) = (n : Int) := by omega
    have hm0 : m = 0 := by omega
    subst hm0
    have hB0 : B = [] := List.eq_nil_of_length_eq_zero hm
    subst hB0
    obtain rfl : a = N1 := by omega
    have hna : n - a = 1 := by omega
    have hlt : (a : Int) < (n : Int) := by omega
    obtain ⟨w1, hr, gr1, hg1⟩ := clearS_run (P := Try.prog) w 32 37 0 (.agg #[.int .i64 0, .int .i64 0, .int .i64 0]) 3 Try.underlying32 zero_stmt rfl (by simp [Value.cells]; decide) (by decide) (some ⟨g, a * 3, none⟩) 1 (cap - a) g (a * 3) _ _ HG.out (.inr ⟨rfl, rfl, by simp [cells3, hlA]⟩)
    have HG1 : Hid (w1.ownsRow base 37 3 (.slice (some ⟨g, 0, none⟩) a cap) a (cells3 (A ++ []))) := by
      refine HF.out w1 [.int .i64 0, .int .i64 0, .int .i64 0] rfl ?_
      rw [splice_mid _ _ _ _ _ hlA (by rfl)] at hg1
      exact hg1
    have HGR : Hid _ := gr1
    subst hBn
    clear hg1 gr1 HF hJ hm hN1 hn
    go_enter Try.func61, Try.ntmps61
    go_wp2
    go_ret
    exact ⟨rfl, by simpa using HG1.out, HGR.out⟩
  · have h7 : ¬ (J : Int) = (n : Int) := by omega
    have h8 : ¬ cap = J := by omega
    have h9 : (J : Int) ≤ (cap : Int) := by omega
    have h10 : n - J = m := by omega
    have h13 : (a : Int) + (m : Int) = (N1 : Int) := by omega
    have h11 : ¬ (cap : Int) < (N1 : Int) := by omega
    have h12 : (N1 : Int) ≤ (cap : Int) := by omega
    have h14 : N1 - a = m := by omega
    have h15 : (a : Int) ≤ (N1 : Int) := by omega
    have h16 : n - N1 = 1 := by omega
    have h17 : ¬ cap = N1 := by omega
    have h18 : (N1 : Int) ≤ (n : Int) := by omega
    have hwA : IntKind.i64.wrap (a : Int) = (a : Int) := IntWalk.i64_in _ (by omega)
    have hwJ : IntKind.i64.wrap (J : Int) = (J : Int) := IntWalk.i64_in _ (by omega)
    have hwN : IntKind.i64.wrap (N1 : Int) = (N1 : Int) := IntWalk.i64_in _ (by omega)
    obtain ⟨Z, hZ⟩ : ∃ Z, (cells3 [s0] ++ cells3 B).drop (m * 3) = Z := ⟨_, rfl⟩
    have hZl : Z.length = 3 := by rw [← hZ]; simp [cells3_length, hm]
    have hsrc : ∀ w2 : World, w2.heap[g]? = some (.cells (cells3 A ++ (cells3 [s0] ++ (cells3 B ++ sp))).toArray 37 (0, 0)) → ∀ j u, (cells3 B)[j]? = some u → w2.cell? ((⟨g, J * 3, none⟩ : Addr).add j) = some u := fun w2 h j u hj => by
      have hjl := (List.getElem?_eq_some_iff.1 hj).1
      rw [Addr.add_lit, row_cell h, ← List.append_assoc, List.getElem?_append_right (by simp [cells3_length, ha]; omega), List.getElem?_append_left (by simp [cells3_length, ha]; omega), ← hj]
      congr 1
      simp [cells3_length, ha]
      omega
    have HGB : Hid (∀ w2 : World, w2.heap[g]? = some (.cells (splice (cells3 A ++ (cells3 [s0] ++ (cells3 B ++ sp))) (a * 3) (cells3 B)).toArray 37 (0, 0)) → w2.heap[g]? = some (.cells (cells3 A ++ (cells3 B ++ (Z ++ sp))).toArray 37 (0, 0))) := fun w2 h => by
      have e3 : cells3 A ++ (cells3 [s0] ++ (cells3 B ++ sp)) = cells3 A ++ ((cells3 [s0] ++ cells3 B).take (m * 3) ++ (Z ++ sp)) := by
        rw [← hZ, ← List.append_assoc (List.take _ _), List.take_append_drop, List.append_assoc]
      rw [e3, splice_mid _ _ _ _ _ hlA (by simp [cells3_length, hm])] at h
      exact h
    have HSR : Hid _ := hsrc
    have HQ3 : Hid ((cells3 B).length = Nat.min m m * 3) := by
      show _ = _
      have hmm : Nat.min m m = m := Nat.min_self m
      rw [hmm, cells3_length, hm]
    have HQ4 : Hid (a * 3 + (cells3 B).length ≤ (cells3 A ++ (cells3 [s0] ++ (cells3 B ++ sp))).length) := by
      show _ ≤ _
      simp [cells3_length, ha]
      omega
    have HGD : Hid (w.drew.heap[g]? = some (.cells (cells3 A ++ (cells3 [s0] ++ (cells3 B ++ sp))).toArray 37 (0, 0))) := HG.out
    have HGR : Hid (w.grownBy w.drew (some g)) := grown_of_below (Below.drew (Below.refl _ _)) _
    have HCL : Hid (∀ w3 : World, w3.heap[g]? = some (.cells (cells3 A ++ (cells3 B ++ (Z ++ sp))).toArray 37 (0, 0)) → ∃ w4, (Builtin.clear_ #[32] 0 #[.slice (some ⟨g, N1 * 3, none⟩) 1 (cap - N1)]).run Try.prog w3 = .ok (.tuple #[]) w4 ∧ w3.grownBy w4 (some g) ∧ w4.ownsRow base 37 3 (.slice (some ⟨g, 0, none⟩) N1 cap) N1 (cells3 (A ++ B))) := fun w3 h3 => by
      obtain ⟨w1, hr, gr1, hg1⟩ := clearS_run (P := Try.prog) w3 32 37 0 (.agg #[.int .i64 0, .int .i64 0, .int .i64 0]) 3 Try.underlying32 zero_stmt rfl (by simp [Value.cells]; decide) (by decide) (some ⟨g, N1 * 3, none⟩) 1 (cap - N1) g (N1 * 3) _ _ h3 (.inr ⟨rfl, rfl, by simp [hlA, hlB, hZl]; omega⟩)
      refine ⟨w1, hr, gr1, HF.out w1 [.int .i64 0, .int .i64 0, .int .i64 0] rfl ?_⟩
      rw [← List.append_assoc, splice_mid _ _ _ _ _ (by simp [hlA, hlB]; omega) (by rw [hZl]; rfl), List.append_assoc] at hg1
      exact hg1
    clear hsrc hJ hm hn hN1 hZ
    go_enter Try.func61, Try.ntmps61
    go_wp2_with fail
    go_region
    go_wp2_with (first
      | (refine wpList_copyS rfl (.tmp 95) (.tmp 96) 32 32 rfl 37 3 (by decide) Try.underlying32 hsz _ _ _ _ _ _ rfl rfl g 0 _ _ HGD.out [] (by simp [Nat.min]) (fun h => absurd h (by simp)) (by simp) (by simp) ?_; intro w2 hg2 gr2))
    have HG3 : Hid (w2.drew.heap[g]? = some (.cells (cells3 A ++ (cells3 [s0] ++ (cells3 B ++ sp))).toArray 37 (0, 0))) := by
      show w2.heap[g]? = _
      have := hg2.out
      simpa [splice] using this
    have HB2 : Hid (∀ j u, (cells3 B)[j]? = some u → w2.drew.cell? ((⟨g, J * 3, none⟩ : Addr).add j) = some u) := HSR.out w2.drew HG3.out
    have grE : w.grownBy w2.drew (some g) := grown_trans (grown_trans HGR.out gr2) (grown_of_below (Below.drew (Below.refl _ _)) _)
    have HGE : Hid _ := grE
    clear gr2 grE
    dsimp only [Act.put]
    simp only [List.setIfInBounds_toArray, List.set_cons_zero, List.set_cons_succ]
    refine wp_region_held_drew (S := fun _ => True) (by kernel_rfl) trivial (fun hHeld => ?_)
    refine wpAnyH_take (i := 0) (oi := ?oirb0) (v := .slice (some ⟨g, 0, none⟩) N1 (cap)) ?hirb0 (by kernel_rfl) (by kernel_rfl) (by kernel_rfl) ?hqrb0 ?hyrb0 hHeld ?hrrb0
    case hirb0 =>
      simp only [List.getElem?_toArray, List.getElem?_cons_succ, List.getElem?_cons_zero]
      rfl
    case hqrb0 => exact fun _ _ _ h => h
    case hyrb0 => exact Or.inl ⟨by kernel_rfl, fun w hSw => by go_simp⟩
    try simp only [Act.put, List.setIfInBounds_toArray, List.set_cons_zero, List.set_cons_succ]
    refine wpAnyH_take (i := 1) (oi := ?oirb1) (v := .int .i64 (a : Int)) ?hirb1 (by kernel_rfl) (by kernel_rfl) (by kernel_rfl) ?hqrb1 ?hyrb1 hHeld ?hrrb1
    case hirb1 =>
      simp only [List.getElem?_toArray, List.getElem?_cons_succ, List.getElem?_cons_zero]
      rfl
    case hqrb1 => exact fun _ _ _ h => h
    case hyrb1 => exact Or.inl ⟨by kernel_rfl, fun w hSw => by go_simp⟩
    try simp only [Act.put, List.setIfInBounds_toArray, List.set_cons_zero, List.set_cons_succ]
    refine wpAnyH_take (i := 2) (oi := ?oirb2) (v := .slice none 0 0) ?hirb2 (by kernel_rfl) (by kernel_rfl) (by kernel_rfl) ?hqrb2 ?hyrb2 hHeld ?hrrb2
    case hirb2 =>
      simp only [List.getElem?_toArray, List.getElem?_cons_succ, List.getElem?_cons_zero]
      rfl
    case hqrb2 => exact fun _ _ _ h => h
    case hyrb2 => exact Or.inl ⟨by kernel_rfl, fun w hSw => by go_simp⟩
    try simp only [Act.put, List.setIfInBounds_toArray, List.set_cons_zero, List.set_cons_succ]
    refine wpAnyH_take (i := 3) (oi := ?oirb3) (v := .int .i64 (0 : Int)) ?hirb3 (by kernel_rfl) (by kernel_rfl) (by kernel_rfl) ?hqrb3 ?hyrb3 hHeld ?hrrb3
    case hirb3 =>
      simp only [List.getElem?_toArray, List.getElem?_cons_succ, List.getElem?_cons_zero]
      rfl
    case hqrb3 => exact fun _ _ _ h => h
    case hyrb3 => exact Or.inl ⟨by kernel_rfl, fun w hSw => by go_simp⟩
    try simp only [Act.put, List.setIfInBounds_toArray, List.set_cons_zero, List.set_cons_succ]
    refine wpAnyH_take (i := 4) (oi := ?oirb4) (v := .int .i64 (a : Int)) ?hirb4 (by kernel_rfl) (by kernel_rfl) (by kernel_rfl) ?hqrb4 ?hyrb4 hHeld ?hrrb4
    case hirb4 =>
      simp only [List.getElem?_toArray, List.getElem?_cons_succ, List.getElem?_cons_zero]
      rfl
    case hqrb4 => exact fun _ _ _ h => h
    case hyrb4 => exact Or.inl ⟨by kernel_rfl, fun w hSw => by go_simp⟩
    try simp only [Act.put, List.setIfInBounds_toArray, List.set_cons_zero, List.set_cons_succ]
    refine wpAnyH_take (i := 5) (oi := ?oirb5) (v := .slice (some ⟨g, a * 3, none⟩) m (cap - a)) ?hirb5 (by kernel_rfl) (by kernel_rfl) (by kernel_rfl) ?hqrb5 ?hyrb5 hHeld ?hrrb5
    case hirb5 =>
      simp only [List.getElem?_toArray, List.getElem?_cons_succ, List.getElem?_cons_zero]
      rfl
    case hqrb5 => exact fun _ _ _ h => h
    case hyrb5 => exact Or.inl ⟨by kernel_rfl, fun w hSw => by go_simp⟩
    try simp only [Act.put, List.setIfInBounds_toArray, List.set_cons_zero, List.set_cons_succ]
    refine wpAnyH_take (i := 6) (oi := ?oirb6) (v := .slice (some ⟨g, 0, none⟩) n (cap)) ?hirb6 (by kernel_rfl) (by kernel_rfl) (by kernel_rfl) ?hqrb6 ?hyrb6 hHeld ?hrrb6
    case hirb6 =>
      simp only [List.getElem?_toArray, List.getElem?_cons_succ, List.getElem?_cons_zero]
      rfl
    case hqrb6 => exact fun _ _ _ h => h
    case hyrb6 => exact Or.inl ⟨by kernel_rfl, fun w hSw => by go_simp⟩
    try simp only [Act.put, List.setIfInBounds_toArray, List.set_cons_zero, List.set_cons_succ]
    refine wpAnyH_take (i := 7) (oi := ?oirb7) (v := .int .i64 (J : Int)) ?hirb7 (by kernel_rfl) (by kernel_rfl) (by kernel_rfl) ?hqrb7 ?hyrb7 hHeld ?hrrb7
    case hirb7 =>
      simp only [List.getElem?_toArray, List.getElem?_cons_succ, List.getElem?_cons_zero]
      rfl
    case hqrb7 => exact fun _ _ _ h => h
    case hyrb7 => exact Or.inl ⟨by kernel_rfl, fun w hSw => by go_simp⟩
    try simp only [Act.put, List.setIfInBounds_toArray, List.set_cons_zero, List.set_cons_succ]
    refine wpAnyH_take (i := 8) (oi := ?oirb8) (v := .slice (some ⟨g, J * 3, none⟩) m (cap - J)) ?hirb8 (by kernel_rfl) (by kernel_rfl) (by kernel_rfl) ?hqrb8 ?hyrb8 hHeld ?hrrb8
    case hirb8 =>
      simp only [List.getElem?_toArray, List.getElem?_cons_succ, List.getElem?_cons_zero]
      rfl
    case hqrb8 => exact fun _ _ _ h => h
    case hyrb8 => exact Or.inl ⟨by kernel_rfl, fun w hSw => by go_simp⟩
    try simp only [Act.put, List.setIfInBounds_toArray, List.set_cons_zero, List.set_cons_succ]
    refine wpAnyH_ready (rs := [9]) (by kernel_rfl) (by simp) ?_
    refine (AllReadyH.cons (o := ?oorb9) ?horb9 (fun K hK => ?hkrb9) AllReadyH.nil)
    case horb9 =>
      simp only [List.getElem?_toArray, List.getElem?_cons_succ, List.getElem?_cons_zero]
      rfl
    case hkrb9 =>
      refine step_copyS rfl (.tmp 103) (.tmp 106) 32 32 rfl 37 3 (by decide) Try.underlying32 hsz (some ⟨g, a * 3, none⟩) (some ⟨g, J * 3, none⟩) m (cap - a) m (cap - J)  rfl rfl g (a * 3) _ _ HG3.out (cells3 B) HQ3.out (fun _ => ⟨rfl, _, rfl, HB2.out⟩) HQ4.out (cells3_one _) ?_
      intro w3 hg4 gr4
      refine hK.out _ _ trivial (fun hHeld => ?_)
      clear hK K
      try simp only [Act.put, List.setIfInBounds_toArray, List.set_cons_zero, List.set_cons_succ]
      refine wpAnyH_done (by kernel_rfl) ?_ _
      have HG5 : Hid (w3.heap[g]? = _) := HGB.out w3 hg4.out
      have HGF : Hid (w.grownBy w3 (some g)) := grown_trans HGE.out gr4
      obtain ⟨w4, hcl, gr5, ow5⟩ := HCL.out w3 HG5.out
      have HO5 : Hid _ := ow5
      have HG6 : Hid (w.grownBy w4 (some g)) := grown_trans HGF.out gr5
      clear ow5 gr5
      go_wp2
      go_ret
      exact ⟨rfl, HO5.out, HG6.out⟩

end Go.Proofs.Ytoflfeegllpifaa
