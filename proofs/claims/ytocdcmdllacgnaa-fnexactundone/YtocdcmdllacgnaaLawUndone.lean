/-
  The law FnExactUndone: at every argument Undone answers as the specification and writes into no argument.
-/
import Derived.Test.YtocdcmdllacgnaaUndS
namespace Go.Proofs.Ytocdcmdllacgnaa
open Go.ChangeShapes Go.WideShapes Go.ChangeAt Go.RowKit
set_option linter.unusedVariables false
set_option linter.unusedSimpArgs false
set_option maxHeartbeats 8000000
set_option maxRecDepth 20000

theorem later13c {G : Prop} {F R : Nat → World → Prop} (h : (∀ X y, F X y → R X y) → G) (k : ∀ X y, F X y → R X y) : G := h k

theorem eqEdit (e : Edt) (w : World) : Calls Try.prog 16 #[edV e, edV e] w fun r w' => r = .returned (.bool true) ∧ Below w.heap.size w w' := by
  obtain ⟨k, pr, a, ⟨sk, sx, sy⟩⟩ := e
  unfold edV
  simp only
  go_enter Try.func16, Try.ntmps16
  go_wp2_with (go_at_call 32; refine (eqStmt sk sx sy _).mono ?_; rintro r w1 ⟨rfl, b1⟩)
  go_ret
  exact ⟨rfl, Below.trans (by go_grown) (b1.mono (by simp; omega))⟩

theorem walkUndone (ps : List (List Stm)) (e : Edt) (v : Value) (w : World) (hl : ps.length ≤ maxLen) (hp : ∀ p ∈ ps, p.length ≤ maxLen) (hv : ReadsP w v ps) :
    Calls Try.prog 4 #[.agg #[v], edV e] w fun r w' => r = .returned (.bool true) ∧ Below w.heap.size w w' := by
  have hsp := fun u W => specUndone ps e u W hl hp
  have him := fun u W => implUndone ps e u W hl hp
  have hte := toEdit e
  obtain ⟨A, hA⟩ : ∃ A, undone13 ps e = A := ⟨_, rfl⟩
  rw [hA] at hsp him
  obtain ⟨bb, hbb⟩ : ∃ bb, A.isSome = bb := ⟨_, rfl⟩
  obtain ⟨Q, hQ⟩ : ∃ Q, A.getD zeroE = Q := ⟨_, rfl⟩
  rw [hbb, hQ] at hsp him
  obtain ⟨ak, apr, aa, ⟨ask, asx, asy⟩⟩ := Q
  obtain ⟨k, pr, a, ⟨sk, sx, sy⟩⟩ := e
  unfold edV at *
  simp only at hsp him hte ⊢
  clear hA hbb hQ
  obtain ⟨W0, hW0⟩ : ∃ W0, (w.alloc (.cells #[v] 41)).alloc (.cells #[.int .i64 k, .int .i64 pr, .int .i64 a, .int .i64 sk, .int .i64 sx, .int .i64 sy] 44) = W0 := ⟨_, rfl⟩
  have L0 : LE w v k pr a sk sx sy W0 := by
    rw [← hW0]
    refine ⟨(old_block (by simp)).trans (heap_alloc_new w _), ?_, by go_grown, by simp⟩
    have := heap_alloc_new (w.alloc (.cells #[v] 41)) (.cells #[.int .i64 k, .int .i64 pr, .int .i64 a, .int .i64 sk, .int .i64 sx, .int .i64 sy] 44)
    simpa using this
  have hsz := szProgram ps v W0 hl hp (readsP_below hv L0.below)
  obtain ⟨p0, _⟩ := one_cell L0.p
  have hcm : Hid _ := hW0
  go_enter Try.func4, Try.ntmps4
  go_wp2_with fail
  go_at_call 13
  refine hsz.mono ?_
  rintro r w1 ⟨z, rfl, hz, b1⟩
  clear hsz hW0 hcm
  have L1 := L0.kept b1 L0.size
  by_cases h0 : z < 0
  · have hx : (decide (z < 0)) = true := by simpa using h0
    have HB : Hid _ := L1.below
    clear hz hsp him hte L1
    go_wp2
    go_ret
    exact ⟨rfl, HB.out⟩
  have hx : (decide (z < 0)) = false := by simpa using h0
  obtain ⟨hl', hp'⟩ := hz (by omega)
  have htp := fun W hW => toProgram ps v W hl' hp' hW
  have HL1 : Hid (LE w v k pr a sk sx sy w1) := L1
  clear hz p0 L0 b1 L1
  obtain ⟨⟨p0, e0, e1, e2, e3, e4, e5⟩, -, -⟩ := HL1.out.cells
  go_wp2_with fail
  obtain ⟨n1, hn1⟩ : ∃ n1, w1.heap.size = n1 := ⟨_, rfl⟩
  have HN1 : Hid (w1.heap.size = n1) := hn1
  have lW : w.heap.size ≤ n1 := by (have := HL1.out.size; omega)
  have lP : w.heap.size < n1 := by (have := HL1.out.size; omega)
  have lE : w.heap.size + 1 < n1 := by (have := HL1.out.size; omega)
  have lS : w.heap.size + 2 ≤ n1 := by (have := HL1.out.size; omega)
  clear hn1
  refine later13b (F := fun X (u : Value) wf => wf.heap[X]? = some (.cells #[.int .i64 ak, .int .i64 apr, .int .i64 aa, .int .i64 ask, .int .i64 asx, .int .i64 asy] 30 (0, 0)) ∧ n1 ≤ X ∧ Below n1 w1 wf) (R := ?Rqs) (fun hk => ?tqs) ?restqs
  case tqs =>
    refine wp_region_held_drew (S := fun w' => w'.cell? ⟨w.heap.size, 0, none⟩ = some v ∧ w'.cell? ⟨w.heap.size + 1, 0, none⟩ = some (.int .i64 k) ∧ w'.cell? ⟨w.heap.size + 1, 1, none⟩ = some (.int .i64 pr) ∧ w'.cell? ⟨w.heap.size + 1, 2, none⟩ = some (.int .i64 a) ∧ w'.cell? ⟨w.heap.size + 1, 3, none⟩ = some (.int .i64 sk) ∧ w'.cell? ⟨w.heap.size + 1, 4, none⟩ = some (.int .i64 sx) ∧ w'.cell? ⟨w.heap.size + 1, 5, none⟩ = some (.int .i64 sy)) (by kernel_rfl) ⟨p0, e0, e1, e2, e3, e4, e5⟩ (fun hHeld => ?_)
    refine wpAnyH_take (i := 0) (oi := ?oiqs0) (v := .agg #[v]) ?hiqs0 (by kernel_rfl) (by kernel_rfl) (by kernel_rfl) ?hqqs0 ?hyqs0 hHeld ?hrqs0
    case hiqs0 =>
      simp only [List.getElem?_toArray, List.getElem?_cons_succ, List.getElem?_cons_zero]
      rfl
    case hqqs0 => exact fun _ _ _ h => h
    case hyqs0 => exact Or.inl ⟨by kernel_rfl, fun w hSw => by obtain ⟨s0, s1, s2, s3, s4, s5, s6⟩ := hSw; go_simp⟩
    try simp only [Act.put, List.setIfInBounds_toArray, List.set_cons_zero, List.set_cons_succ]
    refine wpAnyH_take (i := 2) (oi := ?oiqs2) (v := .agg #[.int .i64 k, .int .i64 pr, .int .i64 a, .int .i64 sk, .int .i64 sx, .int .i64 sy]) ?hiqs2 (by kernel_rfl) (by kernel_rfl) (by kernel_rfl) ?hqqs2 ?hyqs2 hHeld ?hrqs2
    case hiqs2 =>
      simp only [List.getElem?_toArray, List.getElem?_cons_succ, List.getElem?_cons_zero]
      rfl
    case hqqs2 => exact fun _ _ _ h => h
    case hyqs2 => exact Or.inl ⟨by kernel_rfl, fun w hSw => by obtain ⟨s0, s1, s2, s3, s4, s5, s6⟩ := hSw; go_simp⟩
    try simp only [Act.put, List.setIfInBounds_toArray, List.set_cons_zero, List.set_cons_succ]
    refine wpAnyH_ready (rs := [1, 8]) (by kernel_rfl) (by simp) ?_
    refine (AllReadyH.cons (o := ?ooqs1) ?hoqs1 (fun K hK => ?hkqs1) (AllReadyH.cons (o := ?ooqs8) ?hoqs8 (fun K hK => ?hkqs8) AllReadyH.nil))
    case hoqs1 =>
      simp only [List.getElem?_toArray, List.getElem?_cons_succ, List.getElem?_cons_zero]
      rfl
    case hoqs8 =>
      simp only [List.getElem?_toArray, List.getElem?_cons_succ, List.getElem?_cons_zero]
      rfl
    case hkqs1 =>
      go_simp
      go_at_call 14
      refine (htp _ (readsP_below hv HL1.out.below.drew)).mono ?_
      rintro r qs0 ⟨u, rfl, ou, b_qs0⟩
      have B_qs0 : Hid (Below n1 w1 qs0) := Below.trans (Below.drew (Below.refl n1 w1)) (b_qs0.mono (Nat.le_of_eq HN1.out.symm))
      have OU_qs0 : Hid _ := ou
      clear ou
      try go_wp2_with fail
      refine hK.out _ _ ⟨(B_qs0.out.cell lP).trans p0, (B_qs0.out.cell lE).trans e0, (B_qs0.out.cell lE).trans e1, (B_qs0.out.cell lE).trans e2, (B_qs0.out.cell lE).trans e3, (B_qs0.out.cell lE).trans e4, (B_qs0.out.cell lE).trans e5⟩ (fun hHeld => ?_)
      clear hK K
      try simp only [Act.put, List.setIfInBounds_toArray, List.set_cons_zero, List.set_cons_succ]
      refine wpAnyH_ready (rs := [3, 8]) (by kernel_rfl) (by simp) ?_
      refine (AllReadyH.cons (o := ?ooqsa3) ?hoqsa3 (fun K hK => ?hkqsa3) (AllReadyH.cons (o := ?ooqsa8) ?hoqsa8 (fun K hK => ?hkqsa8) AllReadyH.nil))
      case hoqsa3 =>
        simp only [List.getElem?_toArray, List.getElem?_cons_succ, List.getElem?_cons_zero]
        rfl
      case hoqsa8 =>
        simp only [List.getElem?_toArray, List.getElem?_cons_succ, List.getElem?_cons_zero]
        rfl
      case hkqsa3 =>
        go_simp
        go_at_call 15
        refine (hte _).mono ?_
        rintro r qs1 ⟨rfl, b_qs1⟩
        have B_qs1 : Hid (Below n1 w1 qs1) := B_qs0.out.trans (b_qs1.mono (Nat.le_trans (Nat.le_of_eq HN1.out.symm) B_qs0.out.size))
        have OU_qs1 : Hid _ := ownP_kept OU_qs0.out b_qs1
        try go_wp2_with fail
        refine hK.out _ _ ⟨(B_qs1.out.cell lP).trans p0, (B_qs1.out.cell lE).trans e0, (B_qs1.out.cell lE).trans e1, (B_qs1.out.cell lE).trans e2, (B_qs1.out.cell lE).trans e3, (B_qs1.out.cell lE).trans e4, (B_qs1.out.cell lE).trans e5⟩ (fun hHeld => ?_)
        clear hK K
        try simp only [Act.put, List.setIfInBounds_toArray, List.set_cons_zero, List.set_cons_succ]
        refine wpAnyH_ready (rs := [4, 8]) (by kernel_rfl) (by simp) ?_
        refine (AllReadyH.cons (o := ?ooqsaa4) ?hoqsaa4 (fun K hK => ?hkqsaa4) (AllReadyH.cons (o := ?ooqsaa8) ?hoqsaa8 (fun K hK => ?hkqsaa8) AllReadyH.nil))
        case hoqsaa4 =>
          simp only [List.getElem?_toArray, List.getElem?_cons_succ, List.getElem?_cons_zero]
          rfl
        case hoqsaa8 =>
          simp only [List.getElem?_toArray, List.getElem?_cons_succ, List.getElem?_cons_zero]
          rfl
        case hkqsaa4 =>
          go_simp
          go_at_call 11
          refine (hsp _ _ (readsP_own OU_qs1.out)).mono ?_
          rintro r qs2 ⟨rfl, b_qs2⟩
          have B_qs2 : Hid (Below n1 w1 qs2) := B_qs1.out.trans (b_qs2.mono (Nat.le_trans (Nat.le_of_eq HN1.out.symm) B_qs1.out.size))
          try go_wp2_with fail
          refine hK.out _ _ ⟨(B_qs2.out.cell lP).trans p0, (B_qs2.out.cell lE).trans e0, (B_qs2.out.cell lE).trans e1, (B_qs2.out.cell lE).trans e2, (B_qs2.out.cell lE).trans e3, (B_qs2.out.cell lE).trans e4, (B_qs2.out.cell lE).trans e5⟩ (fun hHeld => ?_)
          clear hK K
          try simp only [Act.put, List.setIfInBounds_toArray, List.set_cons_zero, List.set_cons_succ]
          refine wpAnyH_take (i := 5) (oi := ?oiqsaaa5) (v := .tuple #[.agg #[.int .i64 ak, .int .i64 apr, .int .i64 aa, .int .i64 ask, .int .i64 asx, .int .i64 asy], .bool bb]) ?hiqsaaa5 (by kernel_rfl) (by kernel_rfl) (by kernel_rfl) ?hqqsaaa5 ?hyqsaaa5 hHeld ?hrqsaaa5
          case hiqsaaa5 =>
            simp only [List.getElem?_toArray, List.getElem?_cons_succ, List.getElem?_cons_zero]
            rfl
          case hqqsaaa5 => exact fun _ _ _ h => h
          case hyqsaaa5 => exact Or.inl ⟨by kernel_rfl, fun w hSw => by go_simp⟩
          try simp only [Act.put, List.setIfInBounds_toArray, List.set_cons_zero, List.set_cons_succ]
          refine wpAnyH_take (i := 6) (oi := ?oiqsaaa6) (v := .agg #[.int .i64 ak, .int .i64 apr, .int .i64 aa, .int .i64 ask, .int .i64 asx, .int .i64 asy]) ?hiqsaaa6 (by kernel_rfl) (by kernel_rfl) (by kernel_rfl) ?hqqsaaa6 ?hyqsaaa6 hHeld ?hrqsaaa6
          case hiqsaaa6 =>
            simp only [List.getElem?_toArray, List.getElem?_cons_succ, List.getElem?_cons_zero]
            rfl
          case hqqsaaa6 => exact fun _ _ _ h => h
          case hyqsaaa6 => exact Or.inl ⟨by kernel_rfl, fun w hSw => by go_simp⟩
          try simp only [Act.put, List.setIfInBounds_toArray, List.set_cons_zero, List.set_cons_succ]
          refine wpAnyH_take (i := 7) (oi := ?oiqsaaa7) (v := .bool bb) ?hiqsaaa7 (by kernel_rfl) (by kernel_rfl) (by kernel_rfl) ?hqqsaaa7 ?hyqsaaa7 hHeld ?hrqsaaa7
          case hiqsaaa7 =>
            simp only [List.getElem?_toArray, List.getElem?_cons_succ, List.getElem?_cons_zero]
            rfl
          case hqqsaaa7 => exact fun _ _ _ h => h
          case hyqsaaa7 => exact Or.inl ⟨by kernel_rfl, fun w hSw => by go_simp⟩
          try simp only [Act.put, List.setIfInBounds_toArray, List.set_cons_zero, List.set_cons_succ]
          refine wpAnyH_ready (rs := [8]) (by kernel_rfl) (by simp) ?_
          refine (AllReadyH.cons (o := ?ooqsaaa8) ?hoqsaaa8 (fun K hK => ?hkqsaaa8) AllReadyH.nil)
          case hoqsaaa8 =>
            simp only [List.getElem?_toArray, List.getElem?_cons_succ, List.getElem?_cons_zero]
            rfl
          case hkqsaaa8 =>
            go_simp
            try go_wp2_with fail
            have b_qsx : Below qs2.heap.size qs2 (qs2.alloc (.cells #[.int .i64 0, .int .i64 0, .int .i64 0, .int .i64 0, .int .i64 0, .int .i64 0] 30)) := by go_grown
            have B_qsx : Hid (Below n1 w1 (qs2.alloc (.cells #[.int .i64 0, .int .i64 0, .int .i64 0, .int .i64 0, .int .i64 0, .int .i64 0] 30))) := B_qs2.out.trans (b_qsx.mono (Nat.le_trans (Nat.le_of_eq HN1.out.symm) B_qs2.out.size))
            have HX_qsx : Hid ((qs2.alloc (.cells #[.int .i64 0, .int .i64 0, .int .i64 0, .int .i64 0, .int .i64 0, .int .i64 0] 30)).heap[qs2.heap.size]? = some (.cells #[.int .i64 0, .int .i64 0, .int .i64 0, .int .i64 0, .int .i64 0, .int .i64 0] 30 (0, 0))) := heap_alloc_new qs2 _
            generalize hz9 : (qs2.alloc (.cells #[.int .i64 0, .int .i64 0, .int .i64 0, .int .i64 0, .int .i64 0, .int .i64 0] 30)) = qsx at *
            clear hz9
            refine hK.out _ _ ⟨(B_qsx.out.cell lP).trans p0, (B_qsx.out.cell lE).trans e0, (B_qsx.out.cell lE).trans e1, (B_qsx.out.cell lE).trans e2, (B_qsx.out.cell lE).trans e3, (B_qsx.out.cell lE).trans e4, (B_qsx.out.cell lE).trans e5⟩ (fun hHeld => ?_)
            clear hK K
            try simp only [Act.put, List.setIfInBounds_toArray, List.set_cons_zero, List.set_cons_succ]
            refine wpAnyH_ready (rs := [9]) (by kernel_rfl) (by simp) ?_
            refine (AllReadyH.cons (o := ?ooqsaaa9) ?hoqsaaa9 (fun K hK => ?hkqsaaa9) AllReadyH.nil)
            case hoqsaaa9 =>
              simp only [List.getElem?_toArray, List.getElem?_cons_succ, List.getElem?_cons_zero]
              rfl
            case hkqsaaa9 =>
              obtain ⟨⟨z0, z1, z2, z3, z4, z5⟩, fz⟩ := six_cells HX_qsx.out
              have fz0 := fz 0
              have fz1 := fz 1
              have fz2 := fz 2
              have fz3 := fz 3
              have fz4 := fz 4
              have fz5 := fz 5
              clear fz
              go_simp
              try go_wp2_with fail
              have BS : Hid (Below n1 w1 (((((((qsx.setCell ⟨qs2.heap.size, 0, none⟩ (.int .i64 ak)).setCell ⟨qs2.heap.size, 1, none⟩ (.int .i64 apr)).setCell ⟨qs2.heap.size, 2, none⟩ (.int .i64 aa)).setCell ⟨qs2.heap.size, 3, none⟩ (.int .i64 ask)).setCell ⟨qs2.heap.size, 4, none⟩ (.int .i64 asx)).setCell ⟨qs2.heap.size, 5, none⟩ (.int .i64 asy)))) := below_six B_qsx.out (Nat.le_trans (Nat.le_of_eq HN1.out.symm) B_qs2.out.size) _ _ _ _ _ _
              refine hK.out _ _ ⟨(BS.out.cell lP).trans p0, (BS.out.cell lE).trans e0, (BS.out.cell lE).trans e1, (BS.out.cell lE).trans e2, (BS.out.cell lE).trans e3, (BS.out.cell lE).trans e4, (BS.out.cell lE).trans e5⟩ (fun hHeld => ?_)
              clear hK K
              try simp only [Act.put, List.setIfInBounds_toArray, List.set_cons_zero, List.set_cons_succ]
              refine wpAnyH_take (i := 10) (oi := ?oiqsaaa10) (v := .bool bb) ?hiqsaaa10 (by kernel_rfl) (by kernel_rfl) (by kernel_rfl) ?hqqsaaa10 ?hyqsaaa10 hHeld ?hrqsaaa10
              case hiqsaaa10 =>
                simp only [List.getElem?_toArray, List.getElem?_cons_succ, List.getElem?_cons_zero]
                rfl
              case hqqsaaa10 => exact fun _ _ _ h => h
              case hyqsaaa10 => exact Or.inl ⟨by kernel_rfl, fun w hSw => by go_simp⟩
              try simp only [Act.put, List.setIfInBounds_toArray, List.set_cons_zero, List.set_cons_succ]
              refine wpAnyH_done (by kernel_rfl) ?_ _
              have HF : (((((((qsx.setCell ⟨qs2.heap.size, 0, none⟩ (.int .i64 ak)).setCell ⟨qs2.heap.size, 1, none⟩ (.int .i64 apr)).setCell ⟨qs2.heap.size, 2, none⟩ (.int .i64 aa)).setCell ⟨qs2.heap.size, 3, none⟩ (.int .i64 ask)).setCell ⟨qs2.heap.size, 4, none⟩ (.int .i64 asx)).setCell ⟨qs2.heap.size, 5, none⟩ (.int .i64 asy))).heap[qs2.heap.size]? = some (.cells #[.int .i64 ak, .int .i64 apr, .int .i64 aa, .int .i64 ask, .int .i64 asx, .int .i64 asy] 30 (0, 0)) ∧ n1 ≤ qs2.heap.size ∧ Below n1 w1 (((((((qsx.setCell ⟨qs2.heap.size, 0, none⟩ (.int .i64 ak)).setCell ⟨qs2.heap.size, 1, none⟩ (.int .i64 apr)).setCell ⟨qs2.heap.size, 2, none⟩ (.int .i64 aa)).setCell ⟨qs2.heap.size, 3, none⟩ (.int .i64 ask)).setCell ⟨qs2.heap.size, 4, none⟩ (.int .i64 asx)).setCell ⟨qs2.heap.size, 5, none⟩ (.int .i64 asy))) := ⟨six_set _ _ _ _ _ _ HX_qsx.out, (Nat.le_trans (Nat.le_of_eq HN1.out.symm) B_qs2.out.size), BS.out⟩
              generalize ((((((qsx.setCell ⟨qs2.heap.size, 0, none⟩ (.int .i64 ak)).setCell ⟨qs2.heap.size, 1, none⟩ (.int .i64 apr)).setCell ⟨qs2.heap.size, 2, none⟩ (.int .i64 aa)).setCell ⟨qs2.heap.size, 3, none⟩ (.int .i64 ask)).setCell ⟨qs2.heap.size, 4, none⟩ (.int .i64 asx)).setCell ⟨qs2.heap.size, 5, none⟩ (.int .i64 asy)) = wf at HF ⊢
              generalize qs2.heap.size = X at HF ⊢
              exact hk X u wf HF
        case hkqsaa8 =>
          go_simp
          try go_wp2_with fail
          have b_qsx : Below qs1.heap.size qs1 (qs1.alloc (.cells #[.int .i64 0, .int .i64 0, .int .i64 0, .int .i64 0, .int .i64 0, .int .i64 0] 30)) := by go_grown
          have B_qsx : Hid (Below n1 w1 (qs1.alloc (.cells #[.int .i64 0, .int .i64 0, .int .i64 0, .int .i64 0, .int .i64 0, .int .i64 0] 30))) := B_qs1.out.trans (b_qsx.mono (Nat.le_trans (Nat.le_of_eq HN1.out.symm) B_qs1.out.size))
          have HX_qsx : Hid ((qs1.alloc (.cells #[.int .i64 0, .int .i64 0, .int .i64 0, .int .i64 0, .int .i64 0, .int .i64 0] 30)).heap[qs1.heap.size]? = some (.cells #[.int .i64 0, .int .i64 0, .int .i64 0, .int .i64 0, .int .i64 0, .int .i64 0] 30 (0, 0))) := heap_alloc_new qs1 _
          have OU_qsx : Hid _ := ownP_kept OU_qs1.out b_qsx
          generalize hz9 : (qs1.alloc (.cells #[.int .i64 0, .int .i64 0, .int .i64 0, .int .i64 0, .int .i64 0, .int .i64 0] 30)) = qsx at *
          clear hz9
          refine hK.out _ _ ⟨(B_qsx.out.cell lP).trans p0, (B_qsx.out.cell lE).trans e0, (B_qsx.out.cell lE).trans e1, (B_qsx.out.cell lE).trans e2, (B_qsx.out.cell lE).trans e3, (B_qsx.out.cell lE).trans e4, (B_qsx.out.cell lE).trans e5⟩ (fun hHeld => ?_)
          clear hK K
          try simp only [Act.put, List.setIfInBounds_toArray, List.set_cons_zero, List.set_cons_succ]
          refine wpAnyH_ready (rs := [4]) (by kernel_rfl) (by simp) ?_
          refine (AllReadyH.cons (o := ?ooqsaab4) ?hoqsaab4 (fun K hK => ?hkqsaab4) AllReadyH.nil)
          case hoqsaab4 =>
            simp only [List.getElem?_toArray, List.getElem?_cons_succ, List.getElem?_cons_zero]
            rfl
          case hkqsaab4 =>
            go_simp
            go_at_call 11
            refine (hsp _ _ (readsP_own OU_qsx.out)).mono ?_
            rintro r qs2 ⟨rfl, b_qs2⟩
            have B_qs2 : Hid (Below n1 w1 qs2) := B_qsx.out.trans (b_qs2.mono (Nat.le_trans (Nat.le_of_eq HN1.out.symm) B_qsx.out.size))
            have HX_qs2 : Hid (qs2.heap[qs1.heap.size]? = some (.cells #[.int .i64 0, .int .i64 0, .int .i64 0, .int .i64 0, .int .i64 0, .int .i64 0] 30 (0, 0))) := (b_qs2.block _ (Array.getElem?_eq_some_iff.1 HX_qsx.out).1).trans HX_qsx.out
            try go_wp2_with fail
            refine hK.out _ _ ⟨(B_qs2.out.cell lP).trans p0, (B_qs2.out.cell lE).trans e0, (B_qs2.out.cell lE).trans e1, (B_qs2.out.cell lE).trans e2, (B_qs2.out.cell lE).trans e3, (B_qs2.out.cell lE).trans e4, (B_qs2.out.cell lE).trans e5⟩ (fun hHeld => ?_)
            clear hK K
            try simp only [Act.put, List.setIfInBounds_toArray, List.set_cons_zero, List.set_cons_succ]
            refine wpAnyH_take (i := 5) (oi := ?oiqsaab5) (v := .tuple #[.agg #[.int .i64 ak, .int .i64 apr, .int .i64 aa, .int .i64 ask, .int .i64 asx, .int .i64 asy], .bool bb]) ?hiqsaab5 (by kernel_rfl) (by kernel_rfl) (by kernel_rfl) ?hqqsaab5 ?hyqsaab5 hHeld ?hrqsaab5
            case hiqsaab5 =>
              simp only [List.getElem?_toArray, List.getElem?_cons_succ, List.getElem?_cons_zero]
              rfl
            case hqqsaab5 => exact fun _ _ _ h => h
            case hyqsaab5 => exact Or.inl ⟨by kernel_rfl, fun w hSw => by go_simp⟩
            try simp only [Act.put, List.setIfInBounds_toArray, List.set_cons_zero, List.set_cons_succ]
            refine wpAnyH_take (i := 6) (oi := ?oiqsaab6) (v := .agg #[.int .i64 ak, .int .i64 apr, .int .i64 aa, .int .i64 ask, .int .i64 asx, .int .i64 asy]) ?hiqsaab6 (by kernel_rfl) (by kernel_rfl) (by kernel_rfl) ?hqqsaab6 ?hyqsaab6 hHeld ?hrqsaab6
            case hiqsaab6 =>
              simp only [List.getElem?_toArray, List.getElem?_cons_succ, List.getElem?_cons_zero]
              rfl
            case hqqsaab6 => exact fun _ _ _ h => h
            case hyqsaab6 => exact Or.inl ⟨by kernel_rfl, fun w hSw => by go_simp⟩
            try simp only [Act.put, List.setIfInBounds_toArray, List.set_cons_zero, List.set_cons_succ]
            refine wpAnyH_take (i := 7) (oi := ?oiqsaab7) (v := .bool bb) ?hiqsaab7 (by kernel_rfl) (by kernel_rfl) (by kernel_rfl) ?hqqsaab7 ?hyqsaab7 hHeld ?hrqsaab7
            case hiqsaab7 =>
              simp only [List.getElem?_toArray, List.getElem?_cons_succ, List.getElem?_cons_zero]
              rfl
            case hqqsaab7 => exact fun _ _ _ h => h
            case hyqsaab7 => exact Or.inl ⟨by kernel_rfl, fun w hSw => by go_simp⟩
            try simp only [Act.put, List.setIfInBounds_toArray, List.set_cons_zero, List.set_cons_succ]
            refine wpAnyH_ready (rs := [9]) (by kernel_rfl) (by simp) ?_
            refine (AllReadyH.cons (o := ?ooqsaab9) ?hoqsaab9 (fun K hK => ?hkqsaab9) AllReadyH.nil)
            case hoqsaab9 =>
              simp only [List.getElem?_toArray, List.getElem?_cons_succ, List.getElem?_cons_zero]
              rfl
            case hkqsaab9 =>
              obtain ⟨⟨z0, z1, z2, z3, z4, z5⟩, fz⟩ := six_cells HX_qs2.out
              have fz0 := fz 0
              have fz1 := fz 1
              have fz2 := fz 2
              have fz3 := fz 3
              have fz4 := fz 4
              have fz5 := fz 5
              clear fz
              go_simp
              try go_wp2_with fail
              have BS : Hid (Below n1 w1 (((((((qs2.setCell ⟨qs1.heap.size, 0, none⟩ (.int .i64 ak)).setCell ⟨qs1.heap.size, 1, none⟩ (.int .i64 apr)).setCell ⟨qs1.heap.size, 2, none⟩ (.int .i64 aa)).setCell ⟨qs1.heap.size, 3, none⟩ (.int .i64 ask)).setCell ⟨qs1.heap.size, 4, none⟩ (.int .i64 asx)).setCell ⟨qs1.heap.size, 5, none⟩ (.int .i64 asy)))) := below_six B_qs2.out (Nat.le_trans (Nat.le_of_eq HN1.out.symm) B_qs1.out.size) _ _ _ _ _ _
              refine hK.out _ _ ⟨(BS.out.cell lP).trans p0, (BS.out.cell lE).trans e0, (BS.out.cell lE).trans e1, (BS.out.cell lE).trans e2, (BS.out.cell lE).trans e3, (BS.out.cell lE).trans e4, (BS.out.cell lE).trans e5⟩ (fun hHeld => ?_)
              clear hK K
              try simp only [Act.put, List.setIfInBounds_toArray, List.set_cons_zero, List.set_cons_succ]
              refine wpAnyH_take (i := 10) (oi := ?oiqsaab10) (v := .bool bb) ?hiqsaab10 (by kernel_rfl) (by kernel_rfl) (by kernel_rfl) ?hqqsaab10 ?hyqsaab10 hHeld ?hrqsaab10
              case hiqsaab10 =>
                simp only [List.getElem?_toArray, List.getElem?_cons_succ, List.getElem?_cons_zero]
                rfl
              case hqqsaab10 => exact fun _ _ _ h => h
              case hyqsaab10 => exact Or.inl ⟨by kernel_rfl, fun w hSw => by go_simp⟩
              try simp only [Act.put, List.setIfInBounds_toArray, List.set_cons_zero, List.set_cons_succ]
              refine wpAnyH_done (by kernel_rfl) ?_ _
              have HF : (((((((qs2.setCell ⟨qs1.heap.size, 0, none⟩ (.int .i64 ak)).setCell ⟨qs1.heap.size, 1, none⟩ (.int .i64 apr)).setCell ⟨qs1.heap.size, 2, none⟩ (.int .i64 aa)).setCell ⟨qs1.heap.size, 3, none⟩ (.int .i64 ask)).setCell ⟨qs1.heap.size, 4, none⟩ (.int .i64 asx)).setCell ⟨qs1.heap.size, 5, none⟩ (.int .i64 asy))).heap[qs1.heap.size]? = some (.cells #[.int .i64 ak, .int .i64 apr, .int .i64 aa, .int .i64 ask, .int .i64 asx, .int .i64 asy] 30 (0, 0)) ∧ n1 ≤ qs1.heap.size ∧ Below n1 w1 (((((((qs2.setCell ⟨qs1.heap.size, 0, none⟩ (.int .i64 ak)).setCell ⟨qs1.heap.size, 1, none⟩ (.int .i64 apr)).setCell ⟨qs1.heap.size, 2, none⟩ (.int .i64 aa)).setCell ⟨qs1.heap.size, 3, none⟩ (.int .i64 ask)).setCell ⟨qs1.heap.size, 4, none⟩ (.int .i64 asx)).setCell ⟨qs1.heap.size, 5, none⟩ (.int .i64 asy))) := ⟨six_set _ _ _ _ _ _ HX_qs2.out, (Nat.le_trans (Nat.le_of_eq HN1.out.symm) B_qs1.out.size), BS.out⟩
              generalize ((((((qs2.setCell ⟨qs1.heap.size, 0, none⟩ (.int .i64 ak)).setCell ⟨qs1.heap.size, 1, none⟩ (.int .i64 apr)).setCell ⟨qs1.heap.size, 2, none⟩ (.int .i64 aa)).setCell ⟨qs1.heap.size, 3, none⟩ (.int .i64 ask)).setCell ⟨qs1.heap.size, 4, none⟩ (.int .i64 asx)).setCell ⟨qs1.heap.size, 5, none⟩ (.int .i64 asy)) = wf at HF ⊢
              generalize qs1.heap.size = X at HF ⊢
              exact hk X u wf HF
      case hkqsa8 =>
        go_simp
        try go_wp2_with fail
        have b_qsx : Below qs0.heap.size qs0 (qs0.alloc (.cells #[.int .i64 0, .int .i64 0, .int .i64 0, .int .i64 0, .int .i64 0, .int .i64 0] 30)) := by go_grown
        have B_qsx : Hid (Below n1 w1 (qs0.alloc (.cells #[.int .i64 0, .int .i64 0, .int .i64 0, .int .i64 0, .int .i64 0, .int .i64 0] 30))) := B_qs0.out.trans (b_qsx.mono (Nat.le_trans (Nat.le_of_eq HN1.out.symm) B_qs0.out.size))
        have HX_qsx : Hid ((qs0.alloc (.cells #[.int .i64 0, .int .i64 0, .int .i64 0, .int .i64 0, .int .i64 0, .int .i64 0] 30)).heap[qs0.heap.size]? = some (.cells #[.int .i64 0, .int .i64 0, .int .i64 0, .int .i64 0, .int .i64 0, .int .i64 0] 30 (0, 0))) := heap_alloc_new qs0 _
        have OU_qsx : Hid _ := ownP_kept OU_qs0.out b_qsx
        generalize hz9 : (qs0.alloc (.cells #[.int .i64 0, .int .i64 0, .int .i64 0, .int .i64 0, .int .i64 0, .int .i64 0] 30)) = qsx at *
        clear hz9
        refine hK.out _ _ ⟨(B_qsx.out.cell lP).trans p0, (B_qsx.out.cell lE).trans e0, (B_qsx.out.cell lE).trans e1, (B_qsx.out.cell lE).trans e2, (B_qsx.out.cell lE).trans e3, (B_qsx.out.cell lE).trans e4, (B_qsx.out.cell lE).trans e5⟩ (fun hHeld => ?_)
        clear hK K
        try simp only [Act.put, List.setIfInBounds_toArray, List.set_cons_zero, List.set_cons_succ]
        refine wpAnyH_ready (rs := [3]) (by kernel_rfl) (by simp) ?_
        refine (AllReadyH.cons (o := ?ooqsab3) ?hoqsab3 (fun K hK => ?hkqsab3) AllReadyH.nil)
        case hoqsab3 =>
          simp only [List.getElem?_toArray, List.getElem?_cons_succ, List.getElem?_cons_zero]
          rfl
        case hkqsab3 =>
          go_simp
          go_at_call 15
          refine (hte _).mono ?_
          rintro r qs1 ⟨rfl, b_qs1⟩
          have B_qs1 : Hid (Below n1 w1 qs1) := B_qsx.out.trans (b_qs1.mono (Nat.le_trans (Nat.le_of_eq HN1.out.symm) B_qsx.out.size))
          have OU_qs1 : Hid _ := ownP_kept OU_qsx.out b_qs1
          have HX_qs1 : Hid (qs1.heap[qs0.heap.size]? = some (.cells #[.int .i64 0, .int .i64 0, .int .i64 0, .int .i64 0, .int .i64 0, .int .i64 0] 30 (0, 0))) := (b_qs1.block _ (Array.getElem?_eq_some_iff.1 HX_qsx.out).1).trans HX_qsx.out
          try go_wp2_with fail
          refine hK.out _ _ ⟨(B_qs1.out.cell lP).trans p0, (B_qs1.out.cell lE).trans e0, (B_qs1.out.cell lE).trans e1, (B_qs1.out.cell lE).trans e2, (B_qs1.out.cell lE).trans e3, (B_qs1.out.cell lE).trans e4, (B_qs1.out.cell lE).trans e5⟩ (fun hHeld => ?_)
          clear hK K
          try simp only [Act.put, List.setIfInBounds_toArray, List.set_cons_zero, List.set_cons_succ]
          refine wpAnyH_ready (rs := [4]) (by kernel_rfl) (by simp) ?_
          refine (AllReadyH.cons (o := ?ooqsab4) ?hoqsab4 (fun K hK => ?hkqsab4) AllReadyH.nil)
          case hoqsab4 =>
            simp only [List.getElem?_toArray, List.getElem?_cons_succ, List.getElem?_cons_zero]
            rfl
          case hkqsab4 =>
            go_simp
            go_at_call 11
            refine (hsp _ _ (readsP_own OU_qs1.out)).mono ?_
            rintro r qs2 ⟨rfl, b_qs2⟩
            have B_qs2 : Hid (Below n1 w1 qs2) := B_qs1.out.trans (b_qs2.mono (Nat.le_trans (Nat.le_of_eq HN1.out.symm) B_qs1.out.size))
            have HX_qs2 : Hid (qs2.heap[qs0.heap.size]? = some (.cells #[.int .i64 0, .int .i64 0, .int .i64 0, .int .i64 0, .int .i64 0, .int .i64 0] 30 (0, 0))) := (b_qs2.block _ (Array.getElem?_eq_some_iff.1 HX_qs1.out).1).trans HX_qs1.out
            try go_wp2_with fail
            refine hK.out _ _ ⟨(B_qs2.out.cell lP).trans p0, (B_qs2.out.cell lE).trans e0, (B_qs2.out.cell lE).trans e1, (B_qs2.out.cell lE).trans e2, (B_qs2.out.cell lE).trans e3, (B_qs2.out.cell lE).trans e4, (B_qs2.out.cell lE).trans e5⟩ (fun hHeld => ?_)
            clear hK K
            try simp only [Act.put, List.setIfInBounds_toArray, List.set_cons_zero, List.set_cons_succ]
            refine wpAnyH_take (i := 5) (oi := ?oiqsab5) (v := .tuple #[.agg #[.int .i64 ak, .int .i64 apr, .int .i64 aa, .int .i64 ask, .int .i64 asx, .int .i64 asy], .bool bb]) ?hiqsab5 (by kernel_rfl) (by kernel_rfl) (by kernel_rfl) ?hqqsab5 ?hyqsab5 hHeld ?hrqsab5
            case hiqsab5 =>
              simp only [List.getElem?_toArray, List.getElem?_cons_succ, List.getElem?_cons_zero]
              rfl
            case hqqsab5 => exact fun _ _ _ h => h
            case hyqsab5 => exact Or.inl ⟨by kernel_rfl, fun w hSw => by go_simp⟩
            try simp only [Act.put, List.setIfInBounds_toArray, List.set_cons_zero, List.set_cons_succ]
            refine wpAnyH_take (i := 6) (oi := ?oiqsab6) (v := .agg #[.int .i64 ak, .int .i64 apr, .int .i64 aa, .int .i64 ask, .int .i64 asx, .int .i64 asy]) ?hiqsab6 (by kernel_rfl) (by kernel_rfl) (by kernel_rfl) ?hqqsab6 ?hyqsab6 hHeld ?hrqsab6
            case hiqsab6 =>
              simp only [List.getElem?_toArray, List.getElem?_cons_succ, List.getElem?_cons_zero]
              rfl
            case hqqsab6 => exact fun _ _ _ h => h
            case hyqsab6 => exact Or.inl ⟨by kernel_rfl, fun w hSw => by go_simp⟩
            try simp only [Act.put, List.setIfInBounds_toArray, List.set_cons_zero, List.set_cons_succ]
            refine wpAnyH_take (i := 7) (oi := ?oiqsab7) (v := .bool bb) ?hiqsab7 (by kernel_rfl) (by kernel_rfl) (by kernel_rfl) ?hqqsab7 ?hyqsab7 hHeld ?hrqsab7
            case hiqsab7 =>
              simp only [List.getElem?_toArray, List.getElem?_cons_succ, List.getElem?_cons_zero]
              rfl
            case hqqsab7 => exact fun _ _ _ h => h
            case hyqsab7 => exact Or.inl ⟨by kernel_rfl, fun w hSw => by go_simp⟩
            try simp only [Act.put, List.setIfInBounds_toArray, List.set_cons_zero, List.set_cons_succ]
            refine wpAnyH_ready (rs := [9]) (by kernel_rfl) (by simp) ?_
            refine (AllReadyH.cons (o := ?ooqsab9) ?hoqsab9 (fun K hK => ?hkqsab9) AllReadyH.nil)
            case hoqsab9 =>
              simp only [List.getElem?_toArray, List.getElem?_cons_succ, List.getElem?_cons_zero]
              rfl
            case hkqsab9 =>
              obtain ⟨⟨z0, z1, z2, z3, z4, z5⟩, fz⟩ := six_cells HX_qs2.out
              have fz0 := fz 0
              have fz1 := fz 1
              have fz2 := fz 2
              have fz3 := fz 3
              have fz4 := fz 4
              have fz5 := fz 5
              clear fz
              go_simp
              try go_wp2_with fail
              have BS : Hid (Below n1 w1 (((((((qs2.setCell ⟨qs0.heap.size, 0, none⟩ (.int .i64 ak)).setCell ⟨qs0.heap.size, 1, none⟩ (.int .i64 apr)).setCell ⟨qs0.heap.size, 2, none⟩ (.int .i64 aa)).setCell ⟨qs0.heap.size, 3, none⟩ (.int .i64 ask)).setCell ⟨qs0.heap.size, 4, none⟩ (.int .i64 asx)).setCell ⟨qs0.heap.size, 5, none⟩ (.int .i64 asy)))) := below_six B_qs2.out (Nat.le_trans (Nat.le_of_eq HN1.out.symm) B_qs0.out.size) _ _ _ _ _ _
              refine hK.out _ _ ⟨(BS.out.cell lP).trans p0, (BS.out.cell lE).trans e0, (BS.out.cell lE).trans e1, (BS.out.cell lE).trans e2, (BS.out.cell lE).trans e3, (BS.out.cell lE).trans e4, (BS.out.cell lE).trans e5⟩ (fun hHeld => ?_)
              clear hK K
              try simp only [Act.put, List.setIfInBounds_toArray, List.set_cons_zero, List.set_cons_succ]
              refine wpAnyH_take (i := 10) (oi := ?oiqsab10) (v := .bool bb) ?hiqsab10 (by kernel_rfl) (by kernel_rfl) (by kernel_rfl) ?hqqsab10 ?hyqsab10 hHeld ?hrqsab10
              case hiqsab10 =>
                simp only [List.getElem?_toArray, List.getElem?_cons_succ, List.getElem?_cons_zero]
                rfl
              case hqqsab10 => exact fun _ _ _ h => h
              case hyqsab10 => exact Or.inl ⟨by kernel_rfl, fun w hSw => by go_simp⟩
              try simp only [Act.put, List.setIfInBounds_toArray, List.set_cons_zero, List.set_cons_succ]
              refine wpAnyH_done (by kernel_rfl) ?_ _
              have HF : (((((((qs2.setCell ⟨qs0.heap.size, 0, none⟩ (.int .i64 ak)).setCell ⟨qs0.heap.size, 1, none⟩ (.int .i64 apr)).setCell ⟨qs0.heap.size, 2, none⟩ (.int .i64 aa)).setCell ⟨qs0.heap.size, 3, none⟩ (.int .i64 ask)).setCell ⟨qs0.heap.size, 4, none⟩ (.int .i64 asx)).setCell ⟨qs0.heap.size, 5, none⟩ (.int .i64 asy))).heap[qs0.heap.size]? = some (.cells #[.int .i64 ak, .int .i64 apr, .int .i64 aa, .int .i64 ask, .int .i64 asx, .int .i64 asy] 30 (0, 0)) ∧ n1 ≤ qs0.heap.size ∧ Below n1 w1 (((((((qs2.setCell ⟨qs0.heap.size, 0, none⟩ (.int .i64 ak)).setCell ⟨qs0.heap.size, 1, none⟩ (.int .i64 apr)).setCell ⟨qs0.heap.size, 2, none⟩ (.int .i64 aa)).setCell ⟨qs0.heap.size, 3, none⟩ (.int .i64 ask)).setCell ⟨qs0.heap.size, 4, none⟩ (.int .i64 asx)).setCell ⟨qs0.heap.size, 5, none⟩ (.int .i64 asy))) := ⟨six_set _ _ _ _ _ _ HX_qs2.out, (Nat.le_trans (Nat.le_of_eq HN1.out.symm) B_qs0.out.size), BS.out⟩
              generalize ((((((qs2.setCell ⟨qs0.heap.size, 0, none⟩ (.int .i64 ak)).setCell ⟨qs0.heap.size, 1, none⟩ (.int .i64 apr)).setCell ⟨qs0.heap.size, 2, none⟩ (.int .i64 aa)).setCell ⟨qs0.heap.size, 3, none⟩ (.int .i64 ask)).setCell ⟨qs0.heap.size, 4, none⟩ (.int .i64 asx)).setCell ⟨qs0.heap.size, 5, none⟩ (.int .i64 asy)) = wf at HF ⊢
              generalize qs0.heap.size = X at HF ⊢
              exact hk X u wf HF
    case hkqs8 =>
      go_simp
      try go_wp2_with fail
      have b_qsx : Below w1.heap.size w1 (w1.alloc (.cells #[.int .i64 0, .int .i64 0, .int .i64 0, .int .i64 0, .int .i64 0, .int .i64 0] 30)).drew := by go_grown
      have B_qsx : Hid (Below n1 w1 (w1.alloc (.cells #[.int .i64 0, .int .i64 0, .int .i64 0, .int .i64 0, .int .i64 0, .int .i64 0] 30)).drew) := b_qsx.mono (Nat.le_of_eq HN1.out.symm)
      have HX_qsx : Hid ((w1.alloc (.cells #[.int .i64 0, .int .i64 0, .int .i64 0, .int .i64 0, .int .i64 0, .int .i64 0] 30)).drew.heap[w1.heap.size]? = some (.cells #[.int .i64 0, .int .i64 0, .int .i64 0, .int .i64 0, .int .i64 0, .int .i64 0] 30 (0, 0))) := heap_alloc_new w1 _
      generalize hz9 : (w1.alloc (.cells #[.int .i64 0, .int .i64 0, .int .i64 0, .int .i64 0, .int .i64 0, .int .i64 0] 30)).drew = qsx at *
      clear hz9
      refine hK.out _ _ ⟨(B_qsx.out.cell lP).trans p0, (B_qsx.out.cell lE).trans e0, (B_qsx.out.cell lE).trans e1, (B_qsx.out.cell lE).trans e2, (B_qsx.out.cell lE).trans e3, (B_qsx.out.cell lE).trans e4, (B_qsx.out.cell lE).trans e5⟩ (fun hHeld => ?_)
      clear hK K
      try simp only [Act.put, List.setIfInBounds_toArray, List.set_cons_zero, List.set_cons_succ]
      refine wpAnyH_ready (rs := [1]) (by kernel_rfl) (by simp) ?_
      refine (AllReadyH.cons (o := ?ooqsb1) ?hoqsb1 (fun K hK => ?hkqsb1) AllReadyH.nil)
      case hoqsb1 =>
        simp only [List.getElem?_toArray, List.getElem?_cons_succ, List.getElem?_cons_zero]
        rfl
      case hkqsb1 =>
        go_simp
        go_at_call 14
        refine (htp _ (readsP_below hv (HL1.out.below.trans (B_qsx.out.mono lW)))).mono ?_
        rintro r qs0 ⟨u, rfl, ou, b_qs0⟩
        have B_qs0 : Hid (Below n1 w1 qs0) := B_qsx.out.trans (b_qs0.mono (Nat.le_trans (Nat.le_of_eq HN1.out.symm) B_qsx.out.size))
        have OU_qs0 : Hid _ := ou
        clear ou
        have HX_qs0 : Hid (qs0.heap[w1.heap.size]? = some (.cells #[.int .i64 0, .int .i64 0, .int .i64 0, .int .i64 0, .int .i64 0, .int .i64 0] 30 (0, 0))) := (b_qs0.block _ (Array.getElem?_eq_some_iff.1 HX_qsx.out).1).trans HX_qsx.out
        try go_wp2_with fail
        refine hK.out _ _ ⟨(B_qs0.out.cell lP).trans p0, (B_qs0.out.cell lE).trans e0, (B_qs0.out.cell lE).trans e1, (B_qs0.out.cell lE).trans e2, (B_qs0.out.cell lE).trans e3, (B_qs0.out.cell lE).trans e4, (B_qs0.out.cell lE).trans e5⟩ (fun hHeld => ?_)
        clear hK K
        try simp only [Act.put, List.setIfInBounds_toArray, List.set_cons_zero, List.set_cons_succ]
        refine wpAnyH_ready (rs := [3]) (by kernel_rfl) (by simp) ?_
        refine (AllReadyH.cons (o := ?ooqsb3) ?hoqsb3 (fun K hK => ?hkqsb3) AllReadyH.nil)
        case hoqsb3 =>
          simp only [List.getElem?_toArray, List.getElem?_cons_succ, List.getElem?_cons_zero]
          rfl
        case hkqsb3 =>
          go_simp
          go_at_call 15
          refine (hte _).mono ?_
          rintro r qs1 ⟨rfl, b_qs1⟩
          have B_qs1 : Hid (Below n1 w1 qs1) := B_qs0.out.trans (b_qs1.mono (Nat.le_trans (Nat.le_of_eq HN1.out.symm) B_qs0.out.size))
          have OU_qs1 : Hid _ := ownP_kept OU_qs0.out b_qs1
          have HX_qs1 : Hid (qs1.heap[w1.heap.size]? = some (.cells #[.int .i64 0, .int .i64 0, .int .i64 0, .int .i64 0, .int .i64 0, .int .i64 0] 30 (0, 0))) := (b_qs1.block _ (Array.getElem?_eq_some_iff.1 HX_qs0.out).1).trans HX_qs0.out
          try go_wp2_with fail
          refine hK.out _ _ ⟨(B_qs1.out.cell lP).trans p0, (B_qs1.out.cell lE).trans e0, (B_qs1.out.cell lE).trans e1, (B_qs1.out.cell lE).trans e2, (B_qs1.out.cell lE).trans e3, (B_qs1.out.cell lE).trans e4, (B_qs1.out.cell lE).trans e5⟩ (fun hHeld => ?_)
          clear hK K
          try simp only [Act.put, List.setIfInBounds_toArray, List.set_cons_zero, List.set_cons_succ]
          refine wpAnyH_ready (rs := [4]) (by kernel_rfl) (by simp) ?_
          refine (AllReadyH.cons (o := ?ooqsb4) ?hoqsb4 (fun K hK => ?hkqsb4) AllReadyH.nil)
          case hoqsb4 =>
            simp only [List.getElem?_toArray, List.getElem?_cons_succ, List.getElem?_cons_zero]
            rfl
          case hkqsb4 =>
            go_simp
            go_at_call 11
            refine (hsp _ _ (readsP_own OU_qs1.out)).mono ?_
            rintro r qs2 ⟨rfl, b_qs2⟩
            have B_qs2 : Hid (Below n1 w1 qs2) := B_qs1.out.trans (b_qs2.mono (Nat.le_trans (Nat.le_of_eq HN1.out.symm) B_qs1.out.size))
            have HX_qs2 : Hid (qs2.heap[w1.heap.size]? = some (.cells #[.int .i64 0, .int .i64 0, .int .i64 0, .int .i64 0, .int .i64 0, .int .i64 0] 30 (0, 0))) := (b_qs2.block _ (Array.getElem?_eq_some_iff.1 HX_qs1.out).1).trans HX_qs1.out
            try go_wp2_with fail
            refine hK.out _ _ ⟨(B_qs2.out.cell lP).trans p0, (B_qs2.out.cell lE).trans e0, (B_qs2.out.cell lE).trans e1, (B_qs2.out.cell lE).trans e2, (B_qs2.out.cell lE).trans e3, (B_qs2.out.cell lE).trans e4, (B_qs2.out.cell lE).trans e5⟩ (fun hHeld => ?_)
            clear hK K
            try simp only [Act.put, List.setIfInBounds_toArray, List.set_cons_zero, List.set_cons_succ]
            refine wpAnyH_take (i := 5) (oi := ?oiqsb5) (v := .tuple #[.agg #[.int .i64 ak, .int .i64 apr, .int .i64 aa, .int .i64 ask, .int .i64 asx, .int .i64 asy], .bool bb]) ?hiqsb5 (by kernel_rfl) (by kernel_rfl) (by kernel_rfl) ?hqqsb5 ?hyqsb5 hHeld ?hrqsb5
            case hiqsb5 =>
              simp only [List.getElem?_toArray, List.getElem?_cons_succ, List.getElem?_cons_zero]
              rfl
            case hqqsb5 => exact fun _ _ _ h => h
            case hyqsb5 => exact Or.inl ⟨by kernel_rfl, fun w hSw => by go_simp⟩
            try simp only [Act.put, List.setIfInBounds_toArray, List.set_cons_zero, List.set_cons_succ]
            refine wpAnyH_take (i := 6) (oi := ?oiqsb6) (v := .agg #[.int .i64 ak, .int .i64 apr, .int .i64 aa, .int .i64 ask, .int .i64 asx, .int .i64 asy]) ?hiqsb6 (by kernel_rfl) (by kernel_rfl) (by kernel_rfl) ?hqqsb6 ?hyqsb6 hHeld ?hrqsb6
            case hiqsb6 =>
              simp only [List.getElem?_toArray, List.getElem?_cons_succ, List.getElem?_cons_zero]
              rfl
            case hqqsb6 => exact fun _ _ _ h => h
            case hyqsb6 => exact Or.inl ⟨by kernel_rfl, fun w hSw => by go_simp⟩
            try simp only [Act.put, List.setIfInBounds_toArray, List.set_cons_zero, List.set_cons_succ]
            refine wpAnyH_take (i := 7) (oi := ?oiqsb7) (v := .bool bb) ?hiqsb7 (by kernel_rfl) (by kernel_rfl) (by kernel_rfl) ?hqqsb7 ?hyqsb7 hHeld ?hrqsb7
            case hiqsb7 =>
              simp only [List.getElem?_toArray, List.getElem?_cons_succ, List.getElem?_cons_zero]
              rfl
            case hqqsb7 => exact fun _ _ _ h => h
            case hyqsb7 => exact Or.inl ⟨by kernel_rfl, fun w hSw => by go_simp⟩
            try simp only [Act.put, List.setIfInBounds_toArray, List.set_cons_zero, List.set_cons_succ]
            refine wpAnyH_ready (rs := [9]) (by kernel_rfl) (by simp) ?_
            refine (AllReadyH.cons (o := ?ooqsb9) ?hoqsb9 (fun K hK => ?hkqsb9) AllReadyH.nil)
            case hoqsb9 =>
              simp only [List.getElem?_toArray, List.getElem?_cons_succ, List.getElem?_cons_zero]
              rfl
            case hkqsb9 =>
              obtain ⟨⟨z0, z1, z2, z3, z4, z5⟩, fz⟩ := six_cells HX_qs2.out
              have fz0 := fz 0
              have fz1 := fz 1
              have fz2 := fz 2
              have fz3 := fz 3
              have fz4 := fz 4
              have fz5 := fz 5
              clear fz
              go_simp
              try go_wp2_with fail
              have BS : Hid (Below n1 w1 (((((((qs2.setCell ⟨w1.heap.size, 0, none⟩ (.int .i64 ak)).setCell ⟨w1.heap.size, 1, none⟩ (.int .i64 apr)).setCell ⟨w1.heap.size, 2, none⟩ (.int .i64 aa)).setCell ⟨w1.heap.size, 3, none⟩ (.int .i64 ask)).setCell ⟨w1.heap.size, 4, none⟩ (.int .i64 asx)).setCell ⟨w1.heap.size, 5, none⟩ (.int .i64 asy)))) := below_six B_qs2.out (Nat.le_of_eq HN1.out.symm) _ _ _ _ _ _
              refine hK.out _ _ ⟨(BS.out.cell lP).trans p0, (BS.out.cell lE).trans e0, (BS.out.cell lE).trans e1, (BS.out.cell lE).trans e2, (BS.out.cell lE).trans e3, (BS.out.cell lE).trans e4, (BS.out.cell lE).trans e5⟩ (fun hHeld => ?_)
              clear hK K
              try simp only [Act.put, List.setIfInBounds_toArray, List.set_cons_zero, List.set_cons_succ]
              refine wpAnyH_take (i := 10) (oi := ?oiqsb10) (v := .bool bb) ?hiqsb10 (by kernel_rfl) (by kernel_rfl) (by kernel_rfl) ?hqqsb10 ?hyqsb10 hHeld ?hrqsb10
              case hiqsb10 =>
                simp only [List.getElem?_toArray, List.getElem?_cons_succ, List.getElem?_cons_zero]
                rfl
              case hqqsb10 => exact fun _ _ _ h => h
              case hyqsb10 => exact Or.inl ⟨by kernel_rfl, fun w hSw => by go_simp⟩
              try simp only [Act.put, List.setIfInBounds_toArray, List.set_cons_zero, List.set_cons_succ]
              refine wpAnyH_done (by kernel_rfl) ?_ _
              have HF : (((((((qs2.setCell ⟨w1.heap.size, 0, none⟩ (.int .i64 ak)).setCell ⟨w1.heap.size, 1, none⟩ (.int .i64 apr)).setCell ⟨w1.heap.size, 2, none⟩ (.int .i64 aa)).setCell ⟨w1.heap.size, 3, none⟩ (.int .i64 ask)).setCell ⟨w1.heap.size, 4, none⟩ (.int .i64 asx)).setCell ⟨w1.heap.size, 5, none⟩ (.int .i64 asy))).heap[w1.heap.size]? = some (.cells #[.int .i64 ak, .int .i64 apr, .int .i64 aa, .int .i64 ask, .int .i64 asx, .int .i64 asy] 30 (0, 0)) ∧ n1 ≤ w1.heap.size ∧ Below n1 w1 (((((((qs2.setCell ⟨w1.heap.size, 0, none⟩ (.int .i64 ak)).setCell ⟨w1.heap.size, 1, none⟩ (.int .i64 apr)).setCell ⟨w1.heap.size, 2, none⟩ (.int .i64 aa)).setCell ⟨w1.heap.size, 3, none⟩ (.int .i64 ask)).setCell ⟨w1.heap.size, 4, none⟩ (.int .i64 asx)).setCell ⟨w1.heap.size, 5, none⟩ (.int .i64 asy))) := ⟨six_set _ _ _ _ _ _ HX_qs2.out, (Nat.le_of_eq HN1.out.symm), BS.out⟩
              generalize ((((((qs2.setCell ⟨w1.heap.size, 0, none⟩ (.int .i64 ak)).setCell ⟨w1.heap.size, 1, none⟩ (.int .i64 apr)).setCell ⟨w1.heap.size, 2, none⟩ (.int .i64 aa)).setCell ⟨w1.heap.size, 3, none⟩ (.int .i64 ask)).setCell ⟨w1.heap.size, 4, none⟩ (.int .i64 asx)).setCell ⟨w1.heap.size, 5, none⟩ (.int .i64 asy)) = wf at HF ⊢
              generalize w1.heap.size = X at HF ⊢
              exact hk X u wf HF
  case restqs =>
    rintro XA u w5 ⟨hbA, hXA, b5⟩
    have HL5 : Hid (LE w v k pr a sk sx sy w5) := HL1.out.kept b5 lS
    have HA5 : Hid (w5.heap[XA]? = some (.cells #[.int .i64 ak, .int .i64 apr, .int .i64 aa, .int .i64 ask, .int .i64 asx, .int .i64 asy] 30 (0, 0))) := hbA
    clear HN1 lW lP lE lS hbA hXA b5
    clear p0 e0 e1 e2 e3 e4 e5
    obtain ⟨⟨p0, e0, e1, e2, e3, e4, e5⟩, -, -⟩ := HL5.out.cells
    go_wp2_with fail
    go_at_call 14
    refine (htp w5 (readsP_below hv HL5.out.below)).mono ?_
    rintro r w6 ⟨x, rfl, ox, b6⟩
    obtain ⟨pa, pm, pc, hxx⟩ := ownP_slice ox
    subst hxx
    have b7 : Below w6.heap.size w6 (w6.alloc (.cells #[.slice pa pm pc] 26)) := by go_grown
    have b57 : Below w5.heap.size w5 (w6.alloc (.cells #[.slice pa pm pc] 26)) := b6.trans (b7.mono b6.size)
    have hz7 : (w6.alloc (.cells #[.slice pa pm pc] 26)).heap.size = w6.heap.size + 1 := by simp
    have h67 := b6.size
    have HX0 : Hid ((w6.alloc (.cells #[.slice pa pm pc] 26)).heap[w6.heap.size]? = some (.cells #[.slice pa pm pc] 26 (0, 0))) := heap_alloc_new w6 _
    have OX0 : Hid (OwnP (w6.alloc (.cells #[.slice pa pm pc] 26)) w5.heap.size w6.heap.size (.slice pa pm pc) ps) := ownP_kept ox b7
    clear p0 e0 e1 e2 e3 e4 e5
    go_wp2_with fail
    generalize hz9 : (w6.alloc (.cells #[.slice pa pm pc] 26)) = w7 at *
    clear hz9
    have b75 : Below w5.heap.size w5 w7 := b57
    have HL7 : Hid (LE w v k pr a sk sx sy w7) := HL5.out.kept b75 HL5.out.size
    have HA7 : Hid (w7.heap[XA]? = some (.cells #[.int .i64 ak, .int .i64 apr, .int .i64 aa, .int .i64 ask, .int .i64 asx, .int .i64 asy] 30 (0, 0))) := (b75.block _ (Array.getElem?_eq_some_iff.1 HA5.out).1).trans HA5.out
    obtain ⟨XX, hXX⟩ : ∃ XX, w6.heap.size = XX := ⟨_, rfl⟩
    obtain ⟨tX, htX⟩ : ∃ tX, w6.heap.size = tX := ⟨_, rfl⟩
    obtain ⟨nX, hnX⟩ : ∃ nX, w5.heap.size = nX := ⟨_, rfl⟩
    have HXT : Hid (XX = tX) := by (show _ = _; omega)
    have h7s : w7.heap.size = tX + 1 := by omega
    have HX7 : Hid (w7.heap[XX]? = some (.cells #[.slice pa pm pc] 26 (0, 0))) := by (rw [← hXX]; exact HX0.out)
    have OX7 : Hid (OwnP w7 nX tX (.slice pa pm pc) ps) := by (rw [← htX, ← hnX]; exact OX0.out)
    rw [hXX]
    clear HX0 OX0 ox b6 b7 b57 b75 hz7 h67 hXX htX hnX
    obtain ⟨n1, hn1⟩ : ∃ n1, w7.heap.size = n1 := ⟨_, rfl⟩
    have HN1 : Hid (w7.heap.size = n1) := hn1
    have lW : w.heap.size ≤ n1 := by (have := HL7.out.size; omega)
    have lP : w.heap.size < n1 := by (have := HL7.out.size; omega)
    have lE : w.heap.size + 1 < n1 := by (have := HL7.out.size; omega)
    have lS : w.heap.size + 2 ≤ n1 := by (have := HL7.out.size; omega)
    clear hn1
    have lX : XX < n1 := by (have := HN1.out; have := HXT.out; omega)
    obtain ⟨cX, -⟩ := one_cell HX7.out
    obtain ⟨⟨p0, e0, e1, e2, e3, e4, e5⟩, -, -⟩ := HL7.out.cells
    have HH7 : Hid (w7.heap.size = tX + 1) := h7s
    clear h7s
    refine later13c (F := fun X wf => wf.heap[X]? = some (.cells #[.int .i64 ak, .int .i64 apr, .int .i64 aa, .int .i64 ask, .int .i64 asx, .int .i64 asy] 30 (0, 0)) ∧ n1 ≤ X ∧ Below n1 w7 wf) (R := ?Rqg) (fun hk => ?tqg) ?restqg
    case tqg =>
      refine wp_region_held_drew (S := fun w' => w'.cell? ⟨w.heap.size, 0, none⟩ = some v ∧ w'.cell? ⟨w.heap.size + 1, 0, none⟩ = some (.int .i64 k) ∧ w'.cell? ⟨w.heap.size + 1, 1, none⟩ = some (.int .i64 pr) ∧ w'.cell? ⟨w.heap.size + 1, 2, none⟩ = some (.int .i64 a) ∧ w'.cell? ⟨w.heap.size + 1, 3, none⟩ = some (.int .i64 sk) ∧ w'.cell? ⟨w.heap.size + 1, 4, none⟩ = some (.int .i64 sx) ∧ w'.cell? ⟨w.heap.size + 1, 5, none⟩ = some (.int .i64 sy) ∧ w'.cell? ⟨XX, 0, none⟩ = some (.slice pa pm pc)) (by kernel_rfl) ⟨p0, e0, e1, e2, e3, e4, e5, cX⟩ (fun hHeld => ?_)
      refine wpAnyH_take (i := 0) (oi := ?oiqg0) (v := .agg #[.slice pa pm pc]) ?hiqg0 (by kernel_rfl) (by kernel_rfl) (by kernel_rfl) ?hqqg0 ?hyqg0 hHeld ?hrqg0
      case hiqg0 =>
        simp only [List.getElem?_toArray, List.getElem?_cons_succ, List.getElem?_cons_zero]
        rfl
      case hqqg0 => exact fun _ _ _ h => h
      case hyqg0 => exact Or.inl ⟨by kernel_rfl, fun w hSw => by obtain ⟨s0, s1, s2, s3, s4, s5, s6, s7⟩ := hSw; go_simp⟩
      try simp only [Act.put, List.setIfInBounds_toArray, List.set_cons_zero, List.set_cons_succ]
      refine wpAnyH_take (i := 1) (oi := ?oiqg1) (v := .agg #[.int .i64 k, .int .i64 pr, .int .i64 a, .int .i64 sk, .int .i64 sx, .int .i64 sy]) ?hiqg1 (by kernel_rfl) (by kernel_rfl) (by kernel_rfl) ?hqqg1 ?hyqg1 hHeld ?hrqg1
      case hiqg1 =>
        simp only [List.getElem?_toArray, List.getElem?_cons_succ, List.getElem?_cons_zero]
        rfl
      case hqqg1 => exact fun _ _ _ h => h
      case hyqg1 => exact Or.inl ⟨by kernel_rfl, fun w hSw => by obtain ⟨s0, s1, s2, s3, s4, s5, s6, s7⟩ := hSw; go_simp⟩
      try simp only [Act.put, List.setIfInBounds_toArray, List.set_cons_zero, List.set_cons_succ]
      refine wpAnyH_ready (rs := [2, 7]) (by kernel_rfl) (by simp) ?_
      refine (AllReadyH.cons (o := ?ooqg2) ?hoqg2 (fun K hK => ?hkqg2) (AllReadyH.cons (o := ?ooqg7) ?hoqg7 (fun K hK => ?hkqg7) AllReadyH.nil))
      case hoqg2 =>
        simp only [List.getElem?_toArray, List.getElem?_cons_succ, List.getElem?_cons_zero]
        rfl
      case hoqg7 =>
        simp only [List.getElem?_toArray, List.getElem?_cons_succ, List.getElem?_cons_zero]
        rfl
      case hkqg2 =>
        go_simp
        go_at_call 15
        refine (hte _).mono ?_
        rintro r qg0 ⟨rfl, b_qg0⟩
        have B_qg0 : Hid (Below n1 w7 qg0) := Below.trans (Below.drew (Below.refl n1 w7)) (b_qg0.mono (Nat.le_of_eq HN1.out.symm))
        have OU_qg0 : Hid _ := ownP_kept (ownP_kept OX7.out (Below.drew (Below.refl _ _))) b_qg0
        try go_wp2_with fail
        refine hK.out _ _ ⟨(B_qg0.out.cell lP).trans p0, (B_qg0.out.cell lE).trans e0, (B_qg0.out.cell lE).trans e1, (B_qg0.out.cell lE).trans e2, (B_qg0.out.cell lE).trans e3, (B_qg0.out.cell lE).trans e4, (B_qg0.out.cell lE).trans e5, (B_qg0.out.cell lX).trans cX⟩ (fun hHeld => ?_)
        clear hK K
        try simp only [Act.put, List.setIfInBounds_toArray, List.set_cons_zero, List.set_cons_succ]
        refine wpAnyH_ready (rs := [3, 7]) (by kernel_rfl) (by simp) ?_
        refine (AllReadyH.cons (o := ?ooqga3) ?hoqga3 (fun K hK => ?hkqga3) (AllReadyH.cons (o := ?ooqga7) ?hoqga7 (fun K hK => ?hkqga7) AllReadyH.nil))
        case hoqga3 =>
          simp only [List.getElem?_toArray, List.getElem?_cons_succ, List.getElem?_cons_zero]
          rfl
        case hoqga7 =>
          simp only [List.getElem?_toArray, List.getElem?_cons_succ, List.getElem?_cons_zero]
          rfl
        case hkqga3 =>
          go_simp
          go_at_call 8
          refine (him _ _ (readsP_own OU_qg0.out)).mono ?_
          rintro r qg1 ⟨rfl, b_qg1⟩
          have B_qg1 : Hid (Below n1 w7 qg1) := B_qg0.out.trans (b_qg1.mono (Nat.le_trans (Nat.le_of_eq HN1.out.symm) B_qg0.out.size))
          try go_wp2_with fail
          refine hK.out _ _ ⟨(B_qg1.out.cell lP).trans p0, (B_qg1.out.cell lE).trans e0, (B_qg1.out.cell lE).trans e1, (B_qg1.out.cell lE).trans e2, (B_qg1.out.cell lE).trans e3, (B_qg1.out.cell lE).trans e4, (B_qg1.out.cell lE).trans e5, (B_qg1.out.cell lX).trans cX⟩ (fun hHeld => ?_)
          clear hK K
          try simp only [Act.put, List.setIfInBounds_toArray, List.set_cons_zero, List.set_cons_succ]
          refine wpAnyH_take (i := 4) (oi := ?oiqgaa4) (v := .tuple #[.agg #[.int .i64 ak, .int .i64 apr, .int .i64 aa, .int .i64 ask, .int .i64 asx, .int .i64 asy], .bool bb]) ?hiqgaa4 (by kernel_rfl) (by kernel_rfl) (by kernel_rfl) ?hqqgaa4 ?hyqgaa4 hHeld ?hrqgaa4
          case hiqgaa4 =>
            simp only [List.getElem?_toArray, List.getElem?_cons_succ, List.getElem?_cons_zero]
            rfl
          case hqqgaa4 => exact fun _ _ _ h => h
          case hyqgaa4 => exact Or.inl ⟨by kernel_rfl, fun w hSw => by go_simp⟩
          try simp only [Act.put, List.setIfInBounds_toArray, List.set_cons_zero, List.set_cons_succ]
          refine wpAnyH_take (i := 5) (oi := ?oiqgaa5) (v := .agg #[.int .i64 ak, .int .i64 apr, .int .i64 aa, .int .i64 ask, .int .i64 asx, .int .i64 asy]) ?hiqgaa5 (by kernel_rfl) (by kernel_rfl) (by kernel_rfl) ?hqqgaa5 ?hyqgaa5 hHeld ?hrqgaa5
          case hiqgaa5 =>
            simp only [List.getElem?_toArray, List.getElem?_cons_succ, List.getElem?_cons_zero]
            rfl
          case hqqgaa5 => exact fun _ _ _ h => h
          case hyqgaa5 => exact Or.inl ⟨by kernel_rfl, fun w hSw => by go_simp⟩
          try simp only [Act.put, List.setIfInBounds_toArray, List.set_cons_zero, List.set_cons_succ]
          refine wpAnyH_take (i := 6) (oi := ?oiqgaa6) (v := .bool bb) ?hiqgaa6 (by kernel_rfl) (by kernel_rfl) (by kernel_rfl) ?hqqgaa6 ?hyqgaa6 hHeld ?hrqgaa6
          case hiqgaa6 =>
            simp only [List.getElem?_toArray, List.getElem?_cons_succ, List.getElem?_cons_zero]
            rfl
          case hqqgaa6 => exact fun _ _ _ h => h
          case hyqgaa6 => exact Or.inl ⟨by kernel_rfl, fun w hSw => by go_simp⟩
          try simp only [Act.put, List.setIfInBounds_toArray, List.set_cons_zero, List.set_cons_succ]
          refine wpAnyH_ready (rs := [7]) (by kernel_rfl) (by simp) ?_
          refine (AllReadyH.cons (o := ?ooqgaa7) ?hoqgaa7 (fun K hK => ?hkqgaa7) AllReadyH.nil)
          case hoqgaa7 =>
            simp only [List.getElem?_toArray, List.getElem?_cons_succ, List.getElem?_cons_zero]
            rfl
          case hkqgaa7 =>
            go_simp
            try go_wp2_with fail
            have b_qgx : Below qg1.heap.size qg1 (qg1.alloc (.cells #[.int .i64 0, .int .i64 0, .int .i64 0, .int .i64 0, .int .i64 0, .int .i64 0] 30)) := by go_grown
            have B_qgx : Hid (Below n1 w7 (qg1.alloc (.cells #[.int .i64 0, .int .i64 0, .int .i64 0, .int .i64 0, .int .i64 0, .int .i64 0] 30))) := B_qg1.out.trans (b_qgx.mono (Nat.le_trans (Nat.le_of_eq HN1.out.symm) B_qg1.out.size))
            have HX_qgx : Hid ((qg1.alloc (.cells #[.int .i64 0, .int .i64 0, .int .i64 0, .int .i64 0, .int .i64 0, .int .i64 0] 30)).heap[qg1.heap.size]? = some (.cells #[.int .i64 0, .int .i64 0, .int .i64 0, .int .i64 0, .int .i64 0, .int .i64 0] 30 (0, 0))) := heap_alloc_new qg1 _
            generalize hz9 : (qg1.alloc (.cells #[.int .i64 0, .int .i64 0, .int .i64 0, .int .i64 0, .int .i64 0, .int .i64 0] 30)) = qgx at *
            clear hz9
            refine hK.out _ _ ⟨(B_qgx.out.cell lP).trans p0, (B_qgx.out.cell lE).trans e0, (B_qgx.out.cell lE).trans e1, (B_qgx.out.cell lE).trans e2, (B_qgx.out.cell lE).trans e3, (B_qgx.out.cell lE).trans e4, (B_qgx.out.cell lE).trans e5, (B_qgx.out.cell lX).trans cX⟩ (fun hHeld => ?_)
            clear hK K
            try simp only [Act.put, List.setIfInBounds_toArray, List.set_cons_zero, List.set_cons_succ]
            refine wpAnyH_ready (rs := [8]) (by kernel_rfl) (by simp) ?_
            refine (AllReadyH.cons (o := ?ooqgaa8) ?hoqgaa8 (fun K hK => ?hkqgaa8) AllReadyH.nil)
            case hoqgaa8 =>
              simp only [List.getElem?_toArray, List.getElem?_cons_succ, List.getElem?_cons_zero]
              rfl
            case hkqgaa8 =>
              obtain ⟨⟨z0, z1, z2, z3, z4, z5⟩, fz⟩ := six_cells HX_qgx.out
              have fz0 := fz 0
              have fz1 := fz 1
              have fz2 := fz 2
              have fz3 := fz 3
              have fz4 := fz 4
              have fz5 := fz 5
              clear fz
              go_simp
              try go_wp2_with fail
              have BS : Hid (Below n1 w7 (((((((qgx.setCell ⟨qg1.heap.size, 0, none⟩ (.int .i64 ak)).setCell ⟨qg1.heap.size, 1, none⟩ (.int .i64 apr)).setCell ⟨qg1.heap.size, 2, none⟩ (.int .i64 aa)).setCell ⟨qg1.heap.size, 3, none⟩ (.int .i64 ask)).setCell ⟨qg1.heap.size, 4, none⟩ (.int .i64 asx)).setCell ⟨qg1.heap.size, 5, none⟩ (.int .i64 asy)))) := below_six B_qgx.out (Nat.le_trans (Nat.le_of_eq HN1.out.symm) B_qg1.out.size) _ _ _ _ _ _
              refine hK.out _ _ ⟨(BS.out.cell lP).trans p0, (BS.out.cell lE).trans e0, (BS.out.cell lE).trans e1, (BS.out.cell lE).trans e2, (BS.out.cell lE).trans e3, (BS.out.cell lE).trans e4, (BS.out.cell lE).trans e5, (BS.out.cell lX).trans cX⟩ (fun hHeld => ?_)
              clear hK K
              try simp only [Act.put, List.setIfInBounds_toArray, List.set_cons_zero, List.set_cons_succ]
              refine wpAnyH_take (i := 9) (oi := ?oiqgaa9) (v := .bool bb) ?hiqgaa9 (by kernel_rfl) (by kernel_rfl) (by kernel_rfl) ?hqqgaa9 ?hyqgaa9 hHeld ?hrqgaa9
              case hiqgaa9 =>
                simp only [List.getElem?_toArray, List.getElem?_cons_succ, List.getElem?_cons_zero]
                rfl
              case hqqgaa9 => exact fun _ _ _ h => h
              case hyqgaa9 => exact Or.inl ⟨by kernel_rfl, fun w hSw => by go_simp⟩
              try simp only [Act.put, List.setIfInBounds_toArray, List.set_cons_zero, List.set_cons_succ]
              refine wpAnyH_done (by kernel_rfl) ?_ _
              have HF : (((((((qgx.setCell ⟨qg1.heap.size, 0, none⟩ (.int .i64 ak)).setCell ⟨qg1.heap.size, 1, none⟩ (.int .i64 apr)).setCell ⟨qg1.heap.size, 2, none⟩ (.int .i64 aa)).setCell ⟨qg1.heap.size, 3, none⟩ (.int .i64 ask)).setCell ⟨qg1.heap.size, 4, none⟩ (.int .i64 asx)).setCell ⟨qg1.heap.size, 5, none⟩ (.int .i64 asy))).heap[qg1.heap.size]? = some (.cells #[.int .i64 ak, .int .i64 apr, .int .i64 aa, .int .i64 ask, .int .i64 asx, .int .i64 asy] 30 (0, 0)) ∧ n1 ≤ qg1.heap.size ∧ Below n1 w7 (((((((qgx.setCell ⟨qg1.heap.size, 0, none⟩ (.int .i64 ak)).setCell ⟨qg1.heap.size, 1, none⟩ (.int .i64 apr)).setCell ⟨qg1.heap.size, 2, none⟩ (.int .i64 aa)).setCell ⟨qg1.heap.size, 3, none⟩ (.int .i64 ask)).setCell ⟨qg1.heap.size, 4, none⟩ (.int .i64 asx)).setCell ⟨qg1.heap.size, 5, none⟩ (.int .i64 asy))) := ⟨six_set _ _ _ _ _ _ HX_qgx.out, (Nat.le_trans (Nat.le_of_eq HN1.out.symm) B_qg1.out.size), BS.out⟩
              generalize ((((((qgx.setCell ⟨qg1.heap.size, 0, none⟩ (.int .i64 ak)).setCell ⟨qg1.heap.size, 1, none⟩ (.int .i64 apr)).setCell ⟨qg1.heap.size, 2, none⟩ (.int .i64 aa)).setCell ⟨qg1.heap.size, 3, none⟩ (.int .i64 ask)).setCell ⟨qg1.heap.size, 4, none⟩ (.int .i64 asx)).setCell ⟨qg1.heap.size, 5, none⟩ (.int .i64 asy)) = wf at HF ⊢
              generalize qg1.heap.size = X at HF ⊢
              exact hk X wf HF
        case hkqga7 =>
          go_simp
          try go_wp2_with fail
          have b_qgx : Below qg0.heap.size qg0 (qg0.alloc (.cells #[.int .i64 0, .int .i64 0, .int .i64 0, .int .i64 0, .int .i64 0, .int .i64 0] 30)) := by go_grown
          have B_qgx : Hid (Below n1 w7 (qg0.alloc (.cells #[.int .i64 0, .int .i64 0, .int .i64 0, .int .i64 0, .int .i64 0, .int .i64 0] 30))) := B_qg0.out.trans (b_qgx.mono (Nat.le_trans (Nat.le_of_eq HN1.out.symm) B_qg0.out.size))
          have HX_qgx : Hid ((qg0.alloc (.cells #[.int .i64 0, .int .i64 0, .int .i64 0, .int .i64 0, .int .i64 0, .int .i64 0] 30)).heap[qg0.heap.size]? = some (.cells #[.int .i64 0, .int .i64 0, .int .i64 0, .int .i64 0, .int .i64 0, .int .i64 0] 30 (0, 0))) := heap_alloc_new qg0 _
          have OU_qgx : Hid _ := ownP_kept OU_qg0.out b_qgx
          generalize hz9 : (qg0.alloc (.cells #[.int .i64 0, .int .i64 0, .int .i64 0, .int .i64 0, .int .i64 0, .int .i64 0] 30)) = qgx at *
          clear hz9
          refine hK.out _ _ ⟨(B_qgx.out.cell lP).trans p0, (B_qgx.out.cell lE).trans e0, (B_qgx.out.cell lE).trans e1, (B_qgx.out.cell lE).trans e2, (B_qgx.out.cell lE).trans e3, (B_qgx.out.cell lE).trans e4, (B_qgx.out.cell lE).trans e5, (B_qgx.out.cell lX).trans cX⟩ (fun hHeld => ?_)
          clear hK K
          try simp only [Act.put, List.setIfInBounds_toArray, List.set_cons_zero, List.set_cons_succ]
          refine wpAnyH_ready (rs := [3]) (by kernel_rfl) (by simp) ?_
          refine (AllReadyH.cons (o := ?ooqgab3) ?hoqgab3 (fun K hK => ?hkqgab3) AllReadyH.nil)
          case hoqgab3 =>
            simp only [List.getElem?_toArray, List.getElem?_cons_succ, List.getElem?_cons_zero]
            rfl
          case hkqgab3 =>
            go_simp
            go_at_call 8
            refine (him _ _ (readsP_own OU_qgx.out)).mono ?_
            rintro r qg1 ⟨rfl, b_qg1⟩
            have B_qg1 : Hid (Below n1 w7 qg1) := B_qgx.out.trans (b_qg1.mono (Nat.le_trans (Nat.le_of_eq HN1.out.symm) B_qgx.out.size))
            have HX_qg1 : Hid (qg1.heap[qg0.heap.size]? = some (.cells #[.int .i64 0, .int .i64 0, .int .i64 0, .int .i64 0, .int .i64 0, .int .i64 0] 30 (0, 0))) := (b_qg1.block _ (Array.getElem?_eq_some_iff.1 HX_qgx.out).1).trans HX_qgx.out
            try go_wp2_with fail
            refine hK.out _ _ ⟨(B_qg1.out.cell lP).trans p0, (B_qg1.out.cell lE).trans e0, (B_qg1.out.cell lE).trans e1, (B_qg1.out.cell lE).trans e2, (B_qg1.out.cell lE).trans e3, (B_qg1.out.cell lE).trans e4, (B_qg1.out.cell lE).trans e5, (B_qg1.out.cell lX).trans cX⟩ (fun hHeld => ?_)
            clear hK K
            try simp only [Act.put, List.setIfInBounds_toArray, List.set_cons_zero, List.set_cons_succ]
            refine wpAnyH_take (i := 4) (oi := ?oiqgab4) (v := .tuple #[.agg #[.int .i64 ak, .int .i64 apr, .int .i64 aa, .int .i64 ask, .int .i64 asx, .int .i64 asy], .bool bb]) ?hiqgab4 (by kernel_rfl) (by kernel_rfl) (by kernel_rfl) ?hqqgab4 ?hyqgab4 hHeld ?hrqgab4
            case hiqgab4 =>
              simp only [List.getElem?_toArray, List.getElem?_cons_succ, List.getElem?_cons_zero]
              rfl
            case hqqgab4 => exact fun _ _ _ h => h
            case hyqgab4 => exact Or.inl ⟨by kernel_rfl, fun w hSw => by go_simp⟩
            try simp only [Act.put, List.setIfInBounds_toArray, List.set_cons_zero, List.set_cons_succ]
            refine wpAnyH_take (i := 5) (oi := ?oiqgab5) (v := .agg #[.int .i64 ak, .int .i64 apr, .int .i64 aa, .int .i64 ask, .int .i64 asx, .int .i64 asy]) ?hiqgab5 (by kernel_rfl) (by kernel_rfl) (by kernel_rfl) ?hqqgab5 ?hyqgab5 hHeld ?hrqgab5
            case hiqgab5 =>
              simp only [List.getElem?_toArray, List.getElem?_cons_succ, List.getElem?_cons_zero]
              rfl
            case hqqgab5 => exact fun _ _ _ h => h
            case hyqgab5 => exact Or.inl ⟨by kernel_rfl, fun w hSw => by go_simp⟩
            try simp only [Act.put, List.setIfInBounds_toArray, List.set_cons_zero, List.set_cons_succ]
            refine wpAnyH_take (i := 6) (oi := ?oiqgab6) (v := .bool bb) ?hiqgab6 (by kernel_rfl) (by kernel_rfl) (by kernel_rfl) ?hqqgab6 ?hyqgab6 hHeld ?hrqgab6
            case hiqgab6 =>
              simp only [List.getElem?_toArray, List.getElem?_cons_succ, List.getElem?_cons_zero]
              rfl
            case hqqgab6 => exact fun _ _ _ h => h
            case hyqgab6 => exact Or.inl ⟨by kernel_rfl, fun w hSw => by go_simp⟩
            try simp only [Act.put, List.setIfInBounds_toArray, List.set_cons_zero, List.set_cons_succ]
            refine wpAnyH_ready (rs := [8]) (by kernel_rfl) (by simp) ?_
            refine (AllReadyH.cons (o := ?ooqgab8) ?hoqgab8 (fun K hK => ?hkqgab8) AllReadyH.nil)
            case hoqgab8 =>
              simp only [List.getElem?_toArray, List.getElem?_cons_succ, List.getElem?_cons_zero]
              rfl
            case hkqgab8 =>
              obtain ⟨⟨z0, z1, z2, z3, z4, z5⟩, fz⟩ := six_cells HX_qg1.out
              have fz0 := fz 0
              have fz1 := fz 1
              have fz2 := fz 2
              have fz3 := fz 3
              have fz4 := fz 4
              have fz5 := fz 5
              clear fz
              go_simp
              try go_wp2_with fail
              have BS : Hid (Below n1 w7 (((((((qg1.setCell ⟨qg0.heap.size, 0, none⟩ (.int .i64 ak)).setCell ⟨qg0.heap.size, 1, none⟩ (.int .i64 apr)).setCell ⟨qg0.heap.size, 2, none⟩ (.int .i64 aa)).setCell ⟨qg0.heap.size, 3, none⟩ (.int .i64 ask)).setCell ⟨qg0.heap.size, 4, none⟩ (.int .i64 asx)).setCell ⟨qg0.heap.size, 5, none⟩ (.int .i64 asy)))) := below_six B_qg1.out (Nat.le_trans (Nat.le_of_eq HN1.out.symm) B_qg0.out.size) _ _ _ _ _ _
              refine hK.out _ _ ⟨(BS.out.cell lP).trans p0, (BS.out.cell lE).trans e0, (BS.out.cell lE).trans e1, (BS.out.cell lE).trans e2, (BS.out.cell lE).trans e3, (BS.out.cell lE).trans e4, (BS.out.cell lE).trans e5, (BS.out.cell lX).trans cX⟩ (fun hHeld => ?_)
              clear hK K
              try simp only [Act.put, List.setIfInBounds_toArray, List.set_cons_zero, List.set_cons_succ]
              refine wpAnyH_take (i := 9) (oi := ?oiqgab9) (v := .bool bb) ?hiqgab9 (by kernel_rfl) (by kernel_rfl) (by kernel_rfl) ?hqqgab9 ?hyqgab9 hHeld ?hrqgab9
              case hiqgab9 =>
                simp only [List.getElem?_toArray, List.getElem?_cons_succ, List.getElem?_cons_zero]
                rfl
              case hqqgab9 => exact fun _ _ _ h => h
              case hyqgab9 => exact Or.inl ⟨by kernel_rfl, fun w hSw => by go_simp⟩
              try simp only [Act.put, List.setIfInBounds_toArray, List.set_cons_zero, List.set_cons_succ]
              refine wpAnyH_done (by kernel_rfl) ?_ _
              have HF : (((((((qg1.setCell ⟨qg0.heap.size, 0, none⟩ (.int .i64 ak)).setCell ⟨qg0.heap.size, 1, none⟩ (.int .i64 apr)).setCell ⟨qg0.heap.size, 2, none⟩ (.int .i64 aa)).setCell ⟨qg0.heap.size, 3, none⟩ (.int .i64 ask)).setCell ⟨qg0.heap.size, 4, none⟩ (.int .i64 asx)).setCell ⟨qg0.heap.size, 5, none⟩ (.int .i64 asy))).heap[qg0.heap.size]? = some (.cells #[.int .i64 ak, .int .i64 apr, .int .i64 aa, .int .i64 ask, .int .i64 asx, .int .i64 asy] 30 (0, 0)) ∧ n1 ≤ qg0.heap.size ∧ Below n1 w7 (((((((qg1.setCell ⟨qg0.heap.size, 0, none⟩ (.int .i64 ak)).setCell ⟨qg0.heap.size, 1, none⟩ (.int .i64 apr)).setCell ⟨qg0.heap.size, 2, none⟩ (.int .i64 aa)).setCell ⟨qg0.heap.size, 3, none⟩ (.int .i64 ask)).setCell ⟨qg0.heap.size, 4, none⟩ (.int .i64 asx)).setCell ⟨qg0.heap.size, 5, none⟩ (.int .i64 asy))) := ⟨six_set _ _ _ _ _ _ HX_qg1.out, (Nat.le_trans (Nat.le_of_eq HN1.out.symm) B_qg0.out.size), BS.out⟩
              generalize ((((((qg1.setCell ⟨qg0.heap.size, 0, none⟩ (.int .i64 ak)).setCell ⟨qg0.heap.size, 1, none⟩ (.int .i64 apr)).setCell ⟨qg0.heap.size, 2, none⟩ (.int .i64 aa)).setCell ⟨qg0.heap.size, 3, none⟩ (.int .i64 ask)).setCell ⟨qg0.heap.size, 4, none⟩ (.int .i64 asx)).setCell ⟨qg0.heap.size, 5, none⟩ (.int .i64 asy)) = wf at HF ⊢
              generalize qg0.heap.size = X at HF ⊢
              exact hk X wf HF
      case hkqg7 =>
        go_simp
        try go_wp2_with fail
        have b_qgx : Below w7.heap.size w7 (w7.alloc (.cells #[.int .i64 0, .int .i64 0, .int .i64 0, .int .i64 0, .int .i64 0, .int .i64 0] 30)).drew := by go_grown
        have B_qgx : Hid (Below n1 w7 (w7.alloc (.cells #[.int .i64 0, .int .i64 0, .int .i64 0, .int .i64 0, .int .i64 0, .int .i64 0] 30)).drew) := b_qgx.mono (Nat.le_of_eq HN1.out.symm)
        have HX_qgx : Hid ((w7.alloc (.cells #[.int .i64 0, .int .i64 0, .int .i64 0, .int .i64 0, .int .i64 0, .int .i64 0] 30)).drew.heap[w7.heap.size]? = some (.cells #[.int .i64 0, .int .i64 0, .int .i64 0, .int .i64 0, .int .i64 0, .int .i64 0] 30 (0, 0))) := heap_alloc_new w7 _
        have OU_qgx : Hid _ := ownP_kept OX7.out b_qgx
        generalize hz9 : (w7.alloc (.cells #[.int .i64 0, .int .i64 0, .int .i64 0, .int .i64 0, .int .i64 0, .int .i64 0] 30)).drew = qgx at *
        clear hz9
        refine hK.out _ _ ⟨(B_qgx.out.cell lP).trans p0, (B_qgx.out.cell lE).trans e0, (B_qgx.out.cell lE).trans e1, (B_qgx.out.cell lE).trans e2, (B_qgx.out.cell lE).trans e3, (B_qgx.out.cell lE).trans e4, (B_qgx.out.cell lE).trans e5, (B_qgx.out.cell lX).trans cX⟩ (fun hHeld => ?_)
        clear hK K
        try simp only [Act.put, List.setIfInBounds_toArray, List.set_cons_zero, List.set_cons_succ]
        refine wpAnyH_ready (rs := [2]) (by kernel_rfl) (by simp) ?_
        refine (AllReadyH.cons (o := ?ooqgb2) ?hoqgb2 (fun K hK => ?hkqgb2) AllReadyH.nil)
        case hoqgb2 =>
          simp only [List.getElem?_toArray, List.getElem?_cons_succ, List.getElem?_cons_zero]
          rfl
        case hkqgb2 =>
          go_simp
          go_at_call 15
          refine (hte _).mono ?_
          rintro r qg0 ⟨rfl, b_qg0⟩
          have B_qg0 : Hid (Below n1 w7 qg0) := B_qgx.out.trans (b_qg0.mono (Nat.le_trans (Nat.le_of_eq HN1.out.symm) B_qgx.out.size))
          have OU_qg0 : Hid _ := ownP_kept OU_qgx.out b_qg0
          have HX_qg0 : Hid (qg0.heap[w7.heap.size]? = some (.cells #[.int .i64 0, .int .i64 0, .int .i64 0, .int .i64 0, .int .i64 0, .int .i64 0] 30 (0, 0))) := (b_qg0.block _ (Array.getElem?_eq_some_iff.1 HX_qgx.out).1).trans HX_qgx.out
          try go_wp2_with fail
          refine hK.out _ _ ⟨(B_qg0.out.cell lP).trans p0, (B_qg0.out.cell lE).trans e0, (B_qg0.out.cell lE).trans e1, (B_qg0.out.cell lE).trans e2, (B_qg0.out.cell lE).trans e3, (B_qg0.out.cell lE).trans e4, (B_qg0.out.cell lE).trans e5, (B_qg0.out.cell lX).trans cX⟩ (fun hHeld => ?_)
          clear hK K
          try simp only [Act.put, List.setIfInBounds_toArray, List.set_cons_zero, List.set_cons_succ]
          refine wpAnyH_ready (rs := [3]) (by kernel_rfl) (by simp) ?_
          refine (AllReadyH.cons (o := ?ooqgb3) ?hoqgb3 (fun K hK => ?hkqgb3) AllReadyH.nil)
          case hoqgb3 =>
            simp only [List.getElem?_toArray, List.getElem?_cons_succ, List.getElem?_cons_zero]
            rfl
          case hkqgb3 =>
            go_simp
            go_at_call 8
            refine (him _ _ (readsP_own OU_qg0.out)).mono ?_
            rintro r qg1 ⟨rfl, b_qg1⟩
            have B_qg1 : Hid (Below n1 w7 qg1) := B_qg0.out.trans (b_qg1.mono (Nat.le_trans (Nat.le_of_eq HN1.out.symm) B_qg0.out.size))
            have HX_qg1 : Hid (qg1.heap[w7.heap.size]? = some (.cells #[.int .i64 0, .int .i64 0, .int .i64 0, .int .i64 0, .int .i64 0, .int .i64 0] 30 (0, 0))) := (b_qg1.block _ (Array.getElem?_eq_some_iff.1 HX_qg0.out).1).trans HX_qg0.out
            try go_wp2_with fail
            refine hK.out _ _ ⟨(B_qg1.out.cell lP).trans p0, (B_qg1.out.cell lE).trans e0, (B_qg1.out.cell lE).trans e1, (B_qg1.out.cell lE).trans e2, (B_qg1.out.cell lE).trans e3, (B_qg1.out.cell lE).trans e4, (B_qg1.out.cell lE).trans e5, (B_qg1.out.cell lX).trans cX⟩ (fun hHeld => ?_)
            clear hK K
            try simp only [Act.put, List.setIfInBounds_toArray, List.set_cons_zero, List.set_cons_succ]
            refine wpAnyH_take (i := 4) (oi := ?oiqgb4) (v := .tuple #[.agg #[.int .i64 ak, .int .i64 apr, .int .i64 aa, .int .i64 ask, .int .i64 asx, .int .i64 asy], .bool bb]) ?hiqgb4 (by kernel_rfl) (by kernel_rfl) (by kernel_rfl) ?hqqgb4 ?hyqgb4 hHeld ?hrqgb4
            case hiqgb4 =>
              simp only [List.getElem?_toArray, List.getElem?_cons_succ, List.getElem?_cons_zero]
              rfl
            case hqqgb4 => exact fun _ _ _ h => h
            case hyqgb4 => exact Or.inl ⟨by kernel_rfl, fun w hSw => by go_simp⟩
            try simp only [Act.put, List.setIfInBounds_toArray, List.set_cons_zero, List.set_cons_succ]
            refine wpAnyH_take (i := 5) (oi := ?oiqgb5) (v := .agg #[.int .i64 ak, .int .i64 apr, .int .i64 aa, .int .i64 ask, .int .i64 asx, .int .i64 asy]) ?hiqgb5 (by kernel_rfl) (by kernel_rfl) (by kernel_rfl) ?hqqgb5 ?hyqgb5 hHeld ?hrqgb5
            case hiqgb5 =>
              simp only [List.getElem?_toArray, List.getElem?_cons_succ, List.getElem?_cons_zero]
              rfl
            case hqqgb5 => exact fun _ _ _ h => h
            case hyqgb5 => exact Or.inl ⟨by kernel_rfl, fun w hSw => by go_simp⟩
            try simp only [Act.put, List.setIfInBounds_toArray, List.set_cons_zero, List.set_cons_succ]
            refine wpAnyH_take (i := 6) (oi := ?oiqgb6) (v := .bool bb) ?hiqgb6 (by kernel_rfl) (by kernel_rfl) (by kernel_rfl) ?hqqgb6 ?hyqgb6 hHeld ?hrqgb6
            case hiqgb6 =>
              simp only [List.getElem?_toArray, List.getElem?_cons_succ, List.getElem?_cons_zero]
              rfl
            case hqqgb6 => exact fun _ _ _ h => h
            case hyqgb6 => exact Or.inl ⟨by kernel_rfl, fun w hSw => by go_simp⟩
            try simp only [Act.put, List.setIfInBounds_toArray, List.set_cons_zero, List.set_cons_succ]
            refine wpAnyH_ready (rs := [8]) (by kernel_rfl) (by simp) ?_
            refine (AllReadyH.cons (o := ?ooqgb8) ?hoqgb8 (fun K hK => ?hkqgb8) AllReadyH.nil)
            case hoqgb8 =>
              simp only [List.getElem?_toArray, List.getElem?_cons_succ, List.getElem?_cons_zero]
              rfl
            case hkqgb8 =>
              obtain ⟨⟨z0, z1, z2, z3, z4, z5⟩, fz⟩ := six_cells HX_qg1.out
              have fz0 := fz 0
              have fz1 := fz 1
              have fz2 := fz 2
              have fz3 := fz 3
              have fz4 := fz 4
              have fz5 := fz 5
              clear fz
              go_simp
              try go_wp2_with fail
              have BS : Hid (Below n1 w7 (((((((qg1.setCell ⟨w7.heap.size, 0, none⟩ (.int .i64 ak)).setCell ⟨w7.heap.size, 1, none⟩ (.int .i64 apr)).setCell ⟨w7.heap.size, 2, none⟩ (.int .i64 aa)).setCell ⟨w7.heap.size, 3, none⟩ (.int .i64 ask)).setCell ⟨w7.heap.size, 4, none⟩ (.int .i64 asx)).setCell ⟨w7.heap.size, 5, none⟩ (.int .i64 asy)))) := below_six B_qg1.out (Nat.le_of_eq HN1.out.symm) _ _ _ _ _ _
              refine hK.out _ _ ⟨(BS.out.cell lP).trans p0, (BS.out.cell lE).trans e0, (BS.out.cell lE).trans e1, (BS.out.cell lE).trans e2, (BS.out.cell lE).trans e3, (BS.out.cell lE).trans e4, (BS.out.cell lE).trans e5, (BS.out.cell lX).trans cX⟩ (fun hHeld => ?_)
              clear hK K
              try simp only [Act.put, List.setIfInBounds_toArray, List.set_cons_zero, List.set_cons_succ]
              refine wpAnyH_take (i := 9) (oi := ?oiqgb9) (v := .bool bb) ?hiqgb9 (by kernel_rfl) (by kernel_rfl) (by kernel_rfl) ?hqqgb9 ?hyqgb9 hHeld ?hrqgb9
              case hiqgb9 =>
                simp only [List.getElem?_toArray, List.getElem?_cons_succ, List.getElem?_cons_zero]
                rfl
              case hqqgb9 => exact fun _ _ _ h => h
              case hyqgb9 => exact Or.inl ⟨by kernel_rfl, fun w hSw => by go_simp⟩
              try simp only [Act.put, List.setIfInBounds_toArray, List.set_cons_zero, List.set_cons_succ]
              refine wpAnyH_done (by kernel_rfl) ?_ _
              have HF : (((((((qg1.setCell ⟨w7.heap.size, 0, none⟩ (.int .i64 ak)).setCell ⟨w7.heap.size, 1, none⟩ (.int .i64 apr)).setCell ⟨w7.heap.size, 2, none⟩ (.int .i64 aa)).setCell ⟨w7.heap.size, 3, none⟩ (.int .i64 ask)).setCell ⟨w7.heap.size, 4, none⟩ (.int .i64 asx)).setCell ⟨w7.heap.size, 5, none⟩ (.int .i64 asy))).heap[w7.heap.size]? = some (.cells #[.int .i64 ak, .int .i64 apr, .int .i64 aa, .int .i64 ask, .int .i64 asx, .int .i64 asy] 30 (0, 0)) ∧ n1 ≤ w7.heap.size ∧ Below n1 w7 (((((((qg1.setCell ⟨w7.heap.size, 0, none⟩ (.int .i64 ak)).setCell ⟨w7.heap.size, 1, none⟩ (.int .i64 apr)).setCell ⟨w7.heap.size, 2, none⟩ (.int .i64 aa)).setCell ⟨w7.heap.size, 3, none⟩ (.int .i64 ask)).setCell ⟨w7.heap.size, 4, none⟩ (.int .i64 asx)).setCell ⟨w7.heap.size, 5, none⟩ (.int .i64 asy))) := ⟨six_set _ _ _ _ _ _ HX_qg1.out, (Nat.le_of_eq HN1.out.symm), BS.out⟩
              generalize ((((((qg1.setCell ⟨w7.heap.size, 0, none⟩ (.int .i64 ak)).setCell ⟨w7.heap.size, 1, none⟩ (.int .i64 apr)).setCell ⟨w7.heap.size, 2, none⟩ (.int .i64 aa)).setCell ⟨w7.heap.size, 3, none⟩ (.int .i64 ask)).setCell ⟨w7.heap.size, 4, none⟩ (.int .i64 asx)).setCell ⟨w7.heap.size, 5, none⟩ (.int .i64 asy)) = wf at HF ⊢
              generalize w7.heap.size = X at HF ⊢
              exact hk X wf HF
    case restqg =>
      rintro XG w10 ⟨hbG, hXG, bG⟩
      have b10 : Below w7.heap.size w7 w10 := by rw [HN1.out]; exact bG
      have HL10 : Hid (LE w v k pr a sk sx sy w10) := HL7.out.kept b10 HL7.out.size
      have HA10 : Hid (w10.heap[XA]? = some (.cells #[.int .i64 ak, .int .i64 apr, .int .i64 aa, .int .i64 ask, .int .i64 asx, .int .i64 asy] 30 (0, 0))) := (b10.block _ (Array.getElem?_eq_some_iff.1 HA7.out).1).trans HA7.out
      have HX10 : Hid (w10.heap[XX]? = some (.cells #[.slice pa pm pc] 26 (0, 0))) := (b10.block _ (Array.getElem?_eq_some_iff.1 HX7.out).1).trans HX7.out
      have OX10 : Hid (OwnP w10 nX tX (.slice pa pm pc) ps) := ownP_kept OX7.out b10
      have HG10 : Hid (w10.heap[XG]? = some (.cells #[.int .i64 ak, .int .i64 apr, .int .i64 aa, .int .i64 ask, .int .i64 asx, .int .i64 asy] 30 (0, 0))) := hbG
      clear HN1 lW lP lE lS hbG bG b10
      clear p0 e0 e1 e2 e3 e4 e5
      clear cX lX
      obtain ⟨⟨h0, h1, h2, h3, h4, h5⟩, -⟩ := six_cells HG10.out
      obtain ⟨⟨j0, j1, j2, j3, j4, j5⟩, -⟩ := six_cells HA10.out
      go_wp2_with fail
      go_at_call 16
      refine (eqEdit ⟨ak, apr, aa, ⟨ask, asx, asy⟩⟩ w10).mono ?_
      rintro r w11 ⟨rfl, b11⟩
      have HL11 : Hid (LE w v k pr a sk sx sy w11) := HL10.out.kept b11 HL10.out.size
      have HA11 : Hid (w11.heap[XA]? = some (.cells #[.int .i64 ak, .int .i64 apr, .int .i64 aa, .int .i64 ask, .int .i64 asx, .int .i64 asy] 30 (0, 0))) := (b11.block _ (Array.getElem?_eq_some_iff.1 HA10.out).1).trans HA10.out
      have HX11 : Hid (w11.heap[XX]? = some (.cells #[.slice pa pm pc] 26 (0, 0))) := (b11.block _ (Array.getElem?_eq_some_iff.1 HX10.out).1).trans HX10.out
      have OX11 : Hid (OwnP w11 nX tX (.slice pa pm pc) ps) := ownP_kept OX10.out b11
      have HG11 : Hid (w11.heap[XG]? = some (.cells #[.int .i64 ak, .int .i64 apr, .int .i64 aa, .int .i64 ask, .int .i64 asx, .int .i64 asy] 30 (0, 0))) := (b11.block _ (Array.getElem?_eq_some_iff.1 HG10.out).1).trans HG10.out
      clear h0 h1 h2 h3 h4 h5 j0 j1 j2 j3 j4 j5 b11
      obtain ⟨p0, -⟩ := one_cell HL11.out.p
      obtain ⟨cX, -⟩ := one_cell HX11.out
      have lP10 : w.heap.size < w11.heap.size := (Array.getElem?_eq_some_iff.1 HL11.out.p).1
      have lX10 : XX < w11.heap.size := (Array.getElem?_eq_some_iff.1 HX11.out).1
      go_wp2_with fail
      refine wp_region_held_drew (S := fun w' => w'.cell? ⟨w.heap.size, 0, none⟩ = some v ∧ w'.cell? ⟨XX, 0, none⟩ = some (.slice pa pm pc)) (by kernel_rfl) ⟨p0, cX⟩ (fun hHeld => ?_)
      refine wpAnyH_take (i := 0) (oi := ?oira0) (v := .agg #[.slice pa pm pc]) ?hira0 (by kernel_rfl) (by kernel_rfl) (by kernel_rfl) ?hqra0 ?hyra0 hHeld ?hrra0
      case hira0 =>
        simp only [List.getElem?_toArray, List.getElem?_cons_succ, List.getElem?_cons_zero]
        rfl
      case hqra0 => exact fun _ _ _ h => h
      case hyra0 => exact Or.inl ⟨by kernel_rfl, fun w hSw => by obtain ⟨s0, s1⟩ := hSw; go_simp⟩
      try simp only [Act.put, List.setIfInBounds_toArray, List.set_cons_zero, List.set_cons_succ]
      refine wpAnyH_take (i := 1) (oi := ?oira1) (v := .agg #[v]) ?hira1 (by kernel_rfl) (by kernel_rfl) (by kernel_rfl) ?hqra1 ?hyra1 hHeld ?hrra1
      case hira1 =>
        simp only [List.getElem?_toArray, List.getElem?_cons_succ, List.getElem?_cons_zero]
        rfl
      case hqra1 => exact fun _ _ _ h => h
      case hyra1 => exact Or.inl ⟨by kernel_rfl, fun w hSw => by obtain ⟨s0, s1⟩ := hSw; go_simp⟩
      try simp only [Act.put, List.setIfInBounds_toArray, List.set_cons_zero, List.set_cons_succ]
      refine wpAnyH_ready (rs := [2]) (by kernel_rfl) (by simp) ?_
      refine (AllReadyH.cons (o := ?oora2) ?hora2 (fun K hK => ?hkra2) AllReadyH.nil)
      case hora2 =>
        simp only [List.getElem?_toArray, List.getElem?_cons_succ, List.getElem?_cons_zero]
        rfl
      case hkra2 =>
        go_simp
        go_at_call 14
        refine (htp _ (readsP_below hv HL11.out.below.drew)).mono ?_
        rintro r w12 ⟨y, rfl, oy, b12⟩
        have B12 : Hid (Below w11.heap.size w11 w12) := Below.trans (Below.drew (Below.refl _ _)) b12
        have OY : Hid _ := oy
        clear oy b12
        try go_wp2_with fail
        refine hK.out _ _ ⟨(B12.out.cell lP10).trans p0, (B12.out.cell lX10).trans cX⟩ (fun hHeld => ?_)
        clear hK K
        try simp only [Act.put, List.setIfInBounds_toArray, List.set_cons_zero, List.set_cons_succ]
        refine wpAnyH_ready (rs := [3]) (by kernel_rfl) (by simp) ?_
        refine (AllReadyH.cons (o := ?oora3) ?hora3 (fun K hK => ?hkra3) AllReadyH.nil)
        case hora3 =>
          simp only [List.getElem?_toArray, List.getElem?_cons_succ, List.getElem?_cons_zero]
          rfl
        case hkra3 =>
          go_simp
          go_at_call 17
          refine (eqProgram ps _ _ w12 hl hp (readsP_own (ownP_kept OX11.out B12.out)) (readsP_own OY.out)).mono ?_
          rintro r w13 ⟨rfl, b13'⟩
          have B13 : Hid (Below w11.heap.size w11 w13) := B12.out.trans (b13'.mono B12.out.size)
          try go_wp2_with fail
          refine hK.out _ _ ⟨(B13.out.cell lP10).trans p0, (B13.out.cell lX10).trans cX⟩ (fun hHeld => ?_)
          clear hK K
          try simp only [Act.put, List.setIfInBounds_toArray, List.set_cons_zero, List.set_cons_succ]
          refine wpAnyH_take (i := 4) (oi := ?oira4) (v := .bool false) ?hira4 (by kernel_rfl) (by kernel_rfl) (by kernel_rfl) ?hqra4 ?hyra4 hHeld ?hrra4
          case hira4 =>
            simp only [List.getElem?_toArray, List.getElem?_cons_succ, List.getElem?_cons_zero]
            rfl
          case hqra4 => exact fun _ _ _ h => h
          case hyra4 => exact Or.inl ⟨by kernel_rfl, fun w hSw => by go_simp⟩
          try simp only [Act.put, List.setIfInBounds_toArray, List.set_cons_zero, List.set_cons_succ]
          refine wpAnyH_done (by kernel_rfl) ?_ _
          have HLB : Hid (Below w.heap.size w w13) := HL11.out.below.trans (B13.out.mono HL11.out.below.size)
          clear b13' B12 B13 OY p0 cX lP10 lX10
          go_wp2
          go_ret
          exact ⟨rfl, HLB.out⟩

set_option maxRecDepth 100000 in
theorem liftedFnExactUndone (os : Os) (started : os.Started) (H : Type) (enc : TypeId × Value → H) :
    ReturnsInHanded {} Try.checked os 4 .any (Rows.fnExactUndoneSpec.pre6 enc Try.prog Try.f4 Rows.fnExactUndoneRow.domain false) (Rows.fnExactUndoneSpec.post enc Try.prog Try.f4 false true false false) := by
  refine returnsInHanded_of_change (C := Try.checked) own started (by kernel_rfl) Try.func4
    (ChangeSpec.witness6 (enc := enc) (C := Try.checked) false ⟨#[], #[.agg #[.slice none 0 0], .agg #[.int .i64 0, .int .i64 0, .int .i64 0, .int .i64 0, .int .i64 0, .int .i64 0]], []⟩ 8 (by kernel_rfl) (by kernel_rfl) (by kernel_rfl) (by kernel_rfl)) ?_
  intro W base args ds gs before hval0 hW hcnd _
  have hval : ∀ (j : Nat) t v, Try.f4.params[j]? = some t → args[j]? = some v → Value.okWide Try.prog W .any base t v := hval0
  have hW' := hW
  obtain ⟨p, q, hA0, hV, rfl, hfz, hnd⟩ := hW
  have hA : DataW.TrodAll enc Try.prog W 0 (fun _ => true) true Try.f4.params.toList args.toList ds p := hA0
  rw [Try.params4] at hA hval
  obtain ⟨v0, vs0, d0, ds0, p0, q0, hargs, rfl, rfl, h0, r0⟩ := trodAll_cons hA
  obtain ⟨v1, vs1, d1, ds1, p1, q1, rfl, rfl, rfl, h1, r1⟩ := trodAll_cons r0
  obtain ⟨rfl, rfl, rfl⟩ := trodAll_nil r1
  obtain rfl : args = #[v0, v1] := by cases args; simp_all
  obtain ⟨rfl, rfl⟩ := trodVars_none hV
  obtain ⟨v, ps, rfl, hr, hl, hq⟩ := open_program (hval 0 41 v0 rfl rfl) h0
  obtain ⟨e, rfl⟩ := open_edit (hval 1 44 v1 rfl rfl) h1
  refine (walkUndone ps e v W hl hq hr).mono fun e W' ⟨he, hb⟩ => ?_
  subst he
  refine ⟨_, rfl, law_post (tb := 4) laidOut ?_ hW' rfl Try.underlying4 rfl rfl hb⟩
  exact all_readable (P := Try.prog) (by kernel_rfl)

theorem overFnExactUndone : Rows.fnExactUndoneRow.holds Try.pinned (OpenSpec.ofChange Rows.fnExactUndoneSpec) :=
  OpenClaim.holds_of_wide 4 Try.f4 rfl rfl rfl rfl rfl rfl rfl ⟨rfl, rfl, rfl, rfl, rfl⟩ rfl rfl rfl rfl rfl (by kernel_rfl) Try.func4 (by kernel_rfl)
    (of_decide_eq_true (by kernel_rfl)) (by unfold Func.isWrapper; first | (rw [if_pos (by decide +kernel)]; kernel_rfl) | (rw [if_neg (by decide +kernel)]; exact ⟨rfl, rfl⟩))
    (fun os started H enc _ => liftedFnExactUndone os started H enc)

/-- ████ THE STATEMENT ████ -/
theorem undoneHolds : Rows.FnExactUndoneSaid :=
  overFnExactUndone
#print axioms undoneHolds

end Go.Proofs.Ytocdcmdllacgnaa
