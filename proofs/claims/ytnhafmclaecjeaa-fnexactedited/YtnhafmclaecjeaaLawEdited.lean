/-
  The law FnExactEdited: at every argument Edited answers as the specification, writes into no argument, and its answer owns its memory.
-/
import Derived.Test.YtnhafmclaecjeaaHeldProg
import Derived.Test.YtnhafmclaecjeaaOpenEdit
namespace Go.Proofs.Ytnhafmclaecjeaa
open Go.ChangeShapes Go.WideShapes Go.ChangeAt Go.RowKit
set_option linter.unusedVariables false
set_option linter.unusedSimpArgs false
set_option maxHeartbeats 8000000
set_option maxRecDepth 20000

theorem walkEdited (ps : List (List Stm)) (e : Edt) (v : Value) (w : World) (hl : ps.length ≤ maxLen) (hp : ∀ p ∈ ps, p.length ≤ maxLen) (hv : ReadsP w v ps) :
    Calls Try.prog 3 #[.agg #[v], edV e] w fun r w' => r = .returned (.bool true) ∧ Below w.heap.size w w' := by
  have hsp := fun u W => specEdited ps e u W hl hp
  have him := fun u W => implEdited ps e u W hl hp
  have hte := toEdit e
  have hsm := edited13_small ps e.k e.pr e.a e.s
  obtain ⟨A, hA⟩ : ∃ A, edited13 ps e.k e.pr e.a e.s = A := ⟨_, rfl⟩
  rw [hA] at hsp him hsm
  obtain ⟨bb, hbb⟩ : ∃ bb, A.isSome = bb := ⟨_, rfl⟩
  obtain ⟨Q, hQ⟩ : ∃ Q, A.getD [] = Q := ⟨_, rfl⟩
  rw [hbb, hQ] at hsp him
  rw [hQ] at hsm
  obtain ⟨hq1, hq2⟩ := hsm
  have hqm1 : Q.length ≤ maxLen := by unfold maxLen; omega
  have hqm2 : ∀ p ∈ Q, p.length ≤ maxLen := fun p hp => by have := hq2 p hp; unfold maxLen; omega
  have htq := tot13_le Q hq2
  obtain ⟨k, pr, a, ⟨sk, sx, sy⟩⟩ := e
  unfold edV at *
  simp only at hsp him hte ⊢
  clear hA hbb hQ
  obtain ⟨W0, hW0⟩ : ∃ W0, (w.alloc (.cells #[v] 24)).alloc (.cells #[.int .i64 k, .int .i64 pr, .int .i64 a, .int .i64 sk, .int .i64 sx, .int .i64 sy] 28) = W0 := ⟨_, rfl⟩
  have L0 : LE w v k pr a sk sx sy W0 := by
    rw [← hW0]
    refine ⟨(old_block (by simp)).trans (heap_alloc_new w _), ?_, by go_grown, by simp⟩
    have := heap_alloc_new (w.alloc (.cells #[v] 24)) (.cells #[.int .i64 k, .int .i64 pr, .int .i64 a, .int .i64 sk, .int .i64 sx, .int .i64 sy] 28)
    simpa using this
  have hsz := szProgram ps v W0 hl hp (readsP_below hv L0.below)
  obtain ⟨p0, _⟩ := one_cell L0.p
  have hcm : Hid _ := hW0
  go_enter Try.func3, Try.ntmps3
  go_wp2_with fail
  go_at_call 5
  refine hsz.mono ?_
  rintro r w1 ⟨z, rfl, hz, b1⟩
  clear hsz hW0 hcm
  have L1 := L0.kept b1 L0.size
  by_cases h0 : z < 0
  · have hx : (decide (z < 0)) = true := by simpa using h0
    have HB : Hid _ := L1.below
    clear hz hsp him hte L1
    go_wp2
    go_ret
    exact ⟨rfl, HB.out⟩
  have hx : (decide (z < 0)) = false := by simpa using h0
  obtain ⟨hl', hp'⟩ := hz (by omega)
  have htp := fun W hW => toProgram ps v W hl' hp' hW
  have HL1 : Hid (LE w v k pr a sk sx sy w1) := L1
  clear hz p0 L0 b1 L1
  obtain ⟨⟨p0, e0, e1, e2, e3, e4, e5⟩, -, -⟩ := HL1.out.cells
  go_wp2_with fail
  obtain ⟨n1, hn1⟩ : ∃ n1, w1.heap.size = n1 := ⟨_, rfl⟩
  have HN1 : Hid (w1.heap.size = n1) := hn1
  have lW : w.heap.size ≤ n1 := by (have := HL1.out.size; omega)
  have lP : w.heap.size < n1 := by (have := HL1.out.size; omega)
  have lE : w.heap.size + 1 < n1 := by (have := HL1.out.size; omega)
  have lS : w.heap.size + 2 ≤ n1 := by (have := HL1.out.size; omega)
  clear hn1
  refine later13 (F := fun X (u : Value) x wf => wf.heap[X]? = some (.cells #[x] 32 (0, 0)) ∧ n1 ≤ X ∧ Below n1 w1 wf ∧ ∃ us, Own13 wf n1 (x) us Q) (R := ?Rqs) (fun hk => ?tqs) ?restqs
  case tqs =>
    refine wp_region_held_drew (S := fun w' => w'.cell? ⟨w.heap.size, 0, none⟩ = some v ∧ w'.cell? ⟨w.heap.size + 1, 0, none⟩ = some (.int .i64 k) ∧ w'.cell? ⟨w.heap.size + 1, 1, none⟩ = some (.int .i64 pr) ∧ w'.cell? ⟨w.heap.size + 1, 2, none⟩ = some (.int .i64 a) ∧ w'.cell? ⟨w.heap.size + 1, 3, none⟩ = some (.int .i64 sk) ∧ w'.cell? ⟨w.heap.size + 1, 4, none⟩ = some (.int .i64 sx) ∧ w'.cell? ⟨w.heap.size + 1, 5, none⟩ = some (.int .i64 sy)) (by kernel_rfl) ⟨p0, e0, e1, e2, e3, e4, e5⟩ (fun hHeld => ?_)
    refine wpAnyH_take (i := 0) (oi := ?oiqs0) (v := .agg #[v]) ?hiqs0 (by kernel_rfl) (by kernel_rfl) (by kernel_rfl) ?hqqs0 ?hyqs0 hHeld ?hrqs0
    case hiqs0 =>
      simp only [List.getElem?_toArray, List.getElem?_cons_succ, List.getElem?_cons_zero]
      rfl
    case hqqs0 => exact fun _ _ _ h => h
    case hyqs0 => exact Or.inl ⟨by kernel_rfl, fun w hSw => by obtain ⟨s0, s1, s2, s3, s4, s5, s6⟩ := hSw; go_simp⟩
    try simp only [Act.put, List.setIfInBounds_toArray, List.set_cons_zero, List.set_cons_succ]
    refine wpAnyH_take (i := 2) (oi := ?oiqs2) (v := .agg #[.int .i64 k, .int .i64 pr, .int .i64 a, .int .i64 sk, .int .i64 sx, .int .i64 sy]) ?hiqs2 (by kernel_rfl) (by kernel_rfl) (by kernel_rfl) ?hqqs2 ?hyqs2 hHeld ?hrqs2
    case hiqs2 =>
      simp only [List.getElem?_toArray, List.getElem?_cons_succ, List.getElem?_cons_zero]
      rfl
    case hqqs2 => exact fun _ _ _ h => h
    case hyqs2 => exact Or.inl ⟨by kernel_rfl, fun w hSw => by obtain ⟨s0, s1, s2, s3, s4, s5, s6⟩ := hSw; go_simp⟩
    try simp only [Act.put, List.setIfInBounds_toArray, List.set_cons_zero, List.set_cons_succ]
    refine wpAnyH_ready (rs := [1, 8]) (by kernel_rfl) (by simp) ?_
    refine (AllReadyH.cons (o := ?ooqs1) ?hoqs1 (fun K hK => ?hkqs1) (AllReadyH.cons (o := ?ooqs8) ?hoqs8 (fun K hK => ?hkqs8) AllReadyH.nil))
    case hoqs1 =>
      simp only [List.getElem?_toArray, List.getElem?_cons_succ, List.getElem?_cons_zero]
      rfl
    case hoqs8 =>
      simp only [List.getElem?_toArray, List.getElem?_cons_succ, List.getElem?_cons_zero]
      rfl
    case hkqs1 =>
      go_simp
      go_at_call 7
      refine (htp _ (readsP_below hv HL1.out.below.drew)).mono ?_
      rintro r qs0 ⟨u, rfl, ou, b_qs0⟩
      have B_qs0 : Hid (Below n1 w1 qs0) := Below.trans (Below.drew (Below.refl n1 w1)) (b_qs0.mono (Nat.le_of_eq HN1.out.symm))
      have OU_qs0 : Hid _ := ou
      clear ou
      try go_wp2_with fail
      refine hK.out _ _ ⟨(B_qs0.out.cell lP).trans p0, (B_qs0.out.cell lE).trans e0, (B_qs0.out.cell lE).trans e1, (B_qs0.out.cell lE).trans e2, (B_qs0.out.cell lE).trans e3, (B_qs0.out.cell lE).trans e4, (B_qs0.out.cell lE).trans e5⟩ (fun hHeld => ?_)
      clear hK K
      try simp only [Act.put, List.setIfInBounds_toArray, List.set_cons_zero, List.set_cons_succ]
      refine wpAnyH_ready (rs := [3, 8]) (by kernel_rfl) (by simp) ?_
      refine (AllReadyH.cons (o := ?ooqsa3) ?hoqsa3 (fun K hK => ?hkqsa3) (AllReadyH.cons (o := ?ooqsa8) ?hoqsa8 (fun K hK => ?hkqsa8) AllReadyH.nil))
      case hoqsa3 =>
        simp only [List.getElem?_toArray, List.getElem?_cons_succ, List.getElem?_cons_zero]
        rfl
      case hoqsa8 =>
        simp only [List.getElem?_toArray, List.getElem?_cons_succ, List.getElem?_cons_zero]
        rfl
      case hkqsa3 =>
        go_simp
        go_at_call 8
        refine (hte _).mono ?_
        rintro r qs1 ⟨rfl, b_qs1⟩
        have B_qs1 : Hid (Below n1 w1 qs1) := B_qs0.out.trans (b_qs1.mono (Nat.le_trans (Nat.le_of_eq HN1.out.symm) B_qs0.out.size))
        have OU_qs1 : Hid _ := ownP_kept OU_qs0.out b_qs1
        try go_wp2_with fail
        refine hK.out _ _ ⟨(B_qs1.out.cell lP).trans p0, (B_qs1.out.cell lE).trans e0, (B_qs1.out.cell lE).trans e1, (B_qs1.out.cell lE).trans e2, (B_qs1.out.cell lE).trans e3, (B_qs1.out.cell lE).trans e4, (B_qs1.out.cell lE).trans e5⟩ (fun hHeld => ?_)
        clear hK K
        try simp only [Act.put, List.setIfInBounds_toArray, List.set_cons_zero, List.set_cons_succ]
        refine wpAnyH_ready (rs := [4, 8]) (by kernel_rfl) (by simp) ?_
        refine (AllReadyH.cons (o := ?ooqsaa4) ?hoqsaa4 (fun K hK => ?hkqsaa4) (AllReadyH.cons (o := ?ooqsaa8) ?hoqsaa8 (fun K hK => ?hkqsaa8) AllReadyH.nil))
        case hoqsaa4 =>
          simp only [List.getElem?_toArray, List.getElem?_cons_succ, List.getElem?_cons_zero]
          rfl
        case hoqsaa8 =>
          simp only [List.getElem?_toArray, List.getElem?_cons_succ, List.getElem?_cons_zero]
          rfl
        case hkqsaa4 =>
          go_simp
          go_at_call 6
          refine (hsp _ _ (readsP_own OU_qs1.out)).mono ?_
          rintro r qs2 ⟨x0, as0, rfl, oa, b_qs2⟩
          have B_qs2 : Hid (Below n1 w1 qs2) := B_qs1.out.trans (b_qs2.mono (Nat.le_trans (Nat.le_of_eq HN1.out.symm) B_qs1.out.size))
          obtain ⟨xa, xm, xc, hx0⟩ := own_slice oa.row
          subst hx0
          have OA_qs2 : Hid (Own13 qs2 n1 (.slice xa xm xc) as0 Q) := oa.mono (Nat.le_trans (Nat.le_of_eq HN1.out.symm) B_qs1.out.size)
          clear oa
          try go_wp2_with fail
          refine hK.out _ _ ⟨(B_qs2.out.cell lP).trans p0, (B_qs2.out.cell lE).trans e0, (B_qs2.out.cell lE).trans e1, (B_qs2.out.cell lE).trans e2, (B_qs2.out.cell lE).trans e3, (B_qs2.out.cell lE).trans e4, (B_qs2.out.cell lE).trans e5⟩ (fun hHeld => ?_)
          clear hK K
          try simp only [Act.put, List.setIfInBounds_toArray, List.set_cons_zero, List.set_cons_succ]
          refine wpAnyH_take (i := 5) (oi := ?oiqsaaa5) (v := .tuple #[.agg #[.slice xa xm xc], .bool bb]) ?hiqsaaa5 (by kernel_rfl) (by kernel_rfl) (by kernel_rfl) ?hqqsaaa5 ?hyqsaaa5 hHeld ?hrqsaaa5
          case hiqsaaa5 =>
            simp only [List.getElem?_toArray, List.getElem?_cons_succ, List.getElem?_cons_zero]
            rfl
          case hqqsaaa5 => exact fun _ _ _ h => h
          case hyqsaaa5 => exact Or.inl ⟨by kernel_rfl, fun w hSw => by go_simp⟩
          try simp only [Act.put, List.setIfInBounds_toArray, List.set_cons_zero, List.set_cons_succ]
          refine wpAnyH_take (i := 6) (oi := ?oiqsaaa6) (v := .agg #[.slice xa xm xc]) ?hiqsaaa6 (by kernel_rfl) (by kernel_rfl) (by kernel_rfl) ?hqqsaaa6 ?hyqsaaa6 hHeld ?hrqsaaa6
          case hiqsaaa6 =>
            simp only [List.getElem?_toArray, List.getElem?_cons_succ, List.getElem?_cons_zero]
            rfl
          case hqqsaaa6 => exact fun _ _ _ h => h
          case hyqsaaa6 => exact Or.inl ⟨by kernel_rfl, fun w hSw => by go_simp⟩
          try simp only [Act.put, List.setIfInBounds_toArray, List.set_cons_zero, List.set_cons_succ]
          refine wpAnyH_take (i := 7) (oi := ?oiqsaaa7) (v := .bool bb) ?hiqsaaa7 (by kernel_rfl) (by kernel_rfl) (by kernel_rfl) ?hqqsaaa7 ?hyqsaaa7 hHeld ?hrqsaaa7
          case hiqsaaa7 =>
            simp only [List.getElem?_toArray, List.getElem?_cons_succ, List.getElem?_cons_zero]
            rfl
          case hqqsaaa7 => exact fun _ _ _ h => h
          case hyqsaaa7 => exact Or.inl ⟨by kernel_rfl, fun w hSw => by go_simp⟩
          try simp only [Act.put, List.setIfInBounds_toArray, List.set_cons_zero, List.set_cons_succ]
          refine wpAnyH_ready (rs := [8]) (by kernel_rfl) (by simp) ?_
          refine (AllReadyH.cons (o := ?ooqsaaa8) ?hoqsaaa8 (fun K hK => ?hkqsaaa8) AllReadyH.nil)
          case hoqsaaa8 =>
            simp only [List.getElem?_toArray, List.getElem?_cons_succ, List.getElem?_cons_zero]
            rfl
          case hkqsaaa8 =>
            go_simp
            try go_wp2_with fail
            have b_qsx : Below qs2.heap.size qs2 (qs2.alloc (.cells #[.slice none 0 0] 32)) := by go_grown
            have B_qsx : Hid (Below n1 w1 (qs2.alloc (.cells #[.slice none 0 0] 32))) := B_qs2.out.trans (b_qsx.mono (Nat.le_trans (Nat.le_of_eq HN1.out.symm) B_qs2.out.size))
            have HX_qsx : Hid ((qs2.alloc (.cells #[.slice none 0 0] 32)).heap[qs2.heap.size]? = some (.cells #[.slice none 0 0] 32 (0, 0))) := heap_alloc_new qs2 _
            have OA_qsx : Hid (Own13 (qs2.alloc (.cells #[.slice none 0 0] 32)) n1 (.slice xa xm xc) as0 Q) := OA_qs2.out.kept b_qsx
            generalize hz9 : (qs2.alloc (.cells #[.slice none 0 0] 32)) = qsx at *
            clear hz9
            refine hK.out _ _ ⟨(B_qsx.out.cell lP).trans p0, (B_qsx.out.cell lE).trans e0, (B_qsx.out.cell lE).trans e1, (B_qsx.out.cell lE).trans e2, (B_qsx.out.cell lE).trans e3, (B_qsx.out.cell lE).trans e4, (B_qsx.out.cell lE).trans e5⟩ (fun hHeld => ?_)
            clear hK K
            try simp only [Act.put, List.setIfInBounds_toArray, List.set_cons_zero, List.set_cons_succ]
            refine wpAnyH_ready (rs := [9]) (by kernel_rfl) (by simp) ?_
            refine (AllReadyH.cons (o := ?ooqsaaa9) ?hoqsaaa9 (fun K hK => ?hkqsaaa9) AllReadyH.nil)
            case hoqsaaa9 =>
              simp only [List.getElem?_toArray, List.getElem?_cons_succ, List.getElem?_cons_zero]
              rfl
            case hkqsaaa9 =>
              obtain ⟨cXn, fXn⟩ := one_cell HX_qsx.out
              go_simp
              try go_wp2_with fail
              have BS : Hid (Below n1 w1 (qsx.setCell ⟨qs2.heap.size, 0, none⟩ (.slice xa xm xc))) := B_qsx.out.setCell (Nat.le_trans (Nat.le_of_eq HN1.out.symm) B_qs2.out.size) _
              refine hK.out _ _ ⟨(BS.out.cell lP).trans p0, (BS.out.cell lE).trans e0, (BS.out.cell lE).trans e1, (BS.out.cell lE).trans e2, (BS.out.cell lE).trans e3, (BS.out.cell lE).trans e4, (BS.out.cell lE).trans e5⟩ (fun hHeld => ?_)
              clear hK K
              try simp only [Act.put, List.setIfInBounds_toArray, List.set_cons_zero, List.set_cons_succ]
              refine wpAnyH_take (i := 10) (oi := ?oiqsaaa10) (v := .bool bb) ?hiqsaaa10 (by kernel_rfl) (by kernel_rfl) (by kernel_rfl) ?hqqsaaa10 ?hyqsaaa10 hHeld ?hrqsaaa10
              case hiqsaaa10 =>
                simp only [List.getElem?_toArray, List.getElem?_cons_succ, List.getElem?_cons_zero]
                rfl
              case hqqsaaa10 => exact fun _ _ _ h => h
              case hyqsaaa10 => exact Or.inl ⟨by kernel_rfl, fun w hSw => by go_simp⟩
              try simp only [Act.put, List.setIfInBounds_toArray, List.set_cons_zero, List.set_cons_succ]
              refine wpAnyH_done (by kernel_rfl) ?_ _
              have HF : (qsx.setCell ⟨qs2.heap.size, 0, none⟩ (.slice xa xm xc)).heap[qs2.heap.size]? = some (.cells #[.slice xa xm xc] 32 (0, 0)) ∧ n1 ≤ qs2.heap.size ∧ Below n1 w1 (qsx.setCell ⟨qs2.heap.size, 0, none⟩ (.slice xa xm xc)) ∧ ∃ us, Own13 (qsx.setCell ⟨qs2.heap.size, 0, none⟩ (.slice xa xm xc)) n1 (.slice xa xm xc) us Q := ⟨one_set HX_qsx.out _, (Nat.le_trans (Nat.le_of_eq HN1.out.symm) B_qs2.out.size), BS.out, as0, OA_qsx.out.grown (grown_setRow13 _ _ _ _) (fun k hk => by (obtain rfl := Option.some.inj hk; exact .inr ⟨_, _, _, HX_qsx.out, by decide, by decide⟩))⟩
              generalize qsx.setCell ⟨qs2.heap.size, 0, none⟩ (.slice xa xm xc) = wf at HF ⊢
              generalize Value.slice xa xm xc = x0 at HF ⊢
              generalize qs2.heap.size = X at HF ⊢
              exact hk X u x0 wf HF
        case hkqsaa8 =>
          go_simp
          try go_wp2_with fail
          have b_qsx : Below qs1.heap.size qs1 (qs1.alloc (.cells #[.slice none 0 0] 32)) := by go_grown
          have B_qsx : Hid (Below n1 w1 (qs1.alloc (.cells #[.slice none 0 0] 32))) := B_qs1.out.trans (b_qsx.mono (Nat.le_trans (Nat.le_of_eq HN1.out.symm) B_qs1.out.size))
          have HX_qsx : Hid ((qs1.alloc (.cells #[.slice none 0 0] 32)).heap[qs1.heap.size]? = some (.cells #[.slice none 0 0] 32 (0, 0))) := heap_alloc_new qs1 _
          have OU_qsx : Hid _ := ownP_kept OU_qs1.out b_qsx
          generalize hz9 : (qs1.alloc (.cells #[.slice none 0 0] 32)) = qsx at *
          clear hz9
          refine hK.out _ _ ⟨(B_qsx.out.cell lP).trans p0, (B_qsx.out.cell lE).trans e0, (B_qsx.out.cell lE).trans e1, (B_qsx.out.cell lE).trans e2, (B_qsx.out.cell lE).trans e3, (B_qsx.out.cell lE).trans e4, (B_qsx.out.cell lE).trans e5⟩ (fun hHeld => ?_)
          clear hK K
          try simp only [Act.put, List.setIfInBounds_toArray, List.set_cons_zero, List.set_cons_succ]
          refine wpAnyH_ready (rs := [4]) (by kernel_rfl) (by simp) ?_
          refine (AllReadyH.cons (o := ?ooqsaab4) ?hoqsaab4 (fun K hK => ?hkqsaab4) AllReadyH.nil)
          case hoqsaab4 =>
            simp only [List.getElem?_toArray, List.getElem?_cons_succ, List.getElem?_cons_zero]
            rfl
          case hkqsaab4 =>
            go_simp
            go_at_call 6
            refine (hsp _ _ (readsP_own OU_qsx.out)).mono ?_
            rintro r qs2 ⟨x0, as0, rfl, oa, b_qs2⟩
            have B_qs2 : Hid (Below n1 w1 qs2) := B_qsx.out.trans (b_qs2.mono (Nat.le_trans (Nat.le_of_eq HN1.out.symm) B_qsx.out.size))
            obtain ⟨xa, xm, xc, hx0⟩ := own_slice oa.row
            subst hx0
            have OA_qs2 : Hid (Own13 qs2 n1 (.slice xa xm xc) as0 Q) := oa.mono (Nat.le_trans (Nat.le_of_eq HN1.out.symm) B_qsx.out.size)
            clear oa
            have HX_qs2 : Hid (qs2.heap[qs1.heap.size]? = some (.cells #[.slice none 0 0] 32 (0, 0))) := (b_qs2.block _ (Array.getElem?_eq_some_iff.1 HX_qsx.out).1).trans HX_qsx.out
            try go_wp2_with fail
            refine hK.out _ _ ⟨(B_qs2.out.cell lP).trans p0, (B_qs2.out.cell lE).trans e0, (B_qs2.out.cell lE).trans e1, (B_qs2.out.cell lE).trans e2, (B_qs2.out.cell lE).trans e3, (B_qs2.out.cell lE).trans e4, (B_qs2.out.cell lE).trans e5⟩ (fun hHeld => ?_)
            clear hK K
            try simp only [Act.put, List.setIfInBounds_toArray, List.set_cons_zero, List.set_cons_succ]
            refine wpAnyH_take (i := 5) (oi := ?oiqsaab5) (v := .tuple #[.agg #[.slice xa xm xc], .bool bb]) ?hiqsaab5 (by kernel_rfl) (by kernel_rfl) (by kernel_rfl) ?hqqsaab5 ?hyqsaab5 hHeld ?hrqsaab5
            case hiqsaab5 =>
              simp only [List.getElem?_toArray, List.getElem?_cons_succ, List.getElem?_cons_zero]
              rfl
            case hqqsaab5 => exact fun _ _ _ h => h
            case hyqsaab5 => exact Or.inl ⟨by kernel_rfl, fun w hSw => by go_simp⟩
            try simp only [Act.put, List.setIfInBounds_toArray, List.set_cons_zero, List.set_cons_succ]
            refine wpAnyH_take (i := 6) (oi := ?oiqsaab6) (v := .agg #[.slice xa xm xc]) ?hiqsaab6 (by kernel_rfl) (by kernel_rfl) (by kernel_rfl) ?hqqsaab6 ?hyqsaab6 hHeld ?hrqsaab6
            case hiqsaab6 =>
              simp only [List.getElem?_toArray, List.getElem?_cons_succ, List.getElem?_cons_zero]
              rfl
            case hqqsaab6 => exact fun _ _ _ h => h
            case hyqsaab6 => exact Or.inl ⟨by kernel_rfl, fun w hSw => by go_simp⟩
            try simp only [Act.put, List.setIfInBounds_toArray, List.set_cons_zero, List.set_cons_succ]
            refine wpAnyH_take (i := 7) (oi := ?oiqsaab7) (v := .bool bb) ?hiqsaab7 (by kernel_rfl) (by kernel_rfl) (by kernel_rfl) ?hqqsaab7 ?hyqsaab7 hHeld ?hrqsaab7
            case hiqsaab7 =>
              simp only [List.getElem?_toArray, List.getElem?_cons_succ, List.getElem?_cons_zero]
              rfl
            case hqqsaab7 => exact fun _ _ _ h => h
            case hyqsaab7 => exact Or.inl ⟨by kernel_rfl, fun w hSw => by go_simp⟩
            try simp only [Act.put, List.setIfInBounds_toArray, List.set_cons_zero, List.set_cons_succ]
            refine wpAnyH_ready (rs := [9]) (by kernel_rfl) (by simp) ?_
            refine (AllReadyH.cons (o := ?ooqsaab9) ?hoqsaab9 (fun K hK => ?hkqsaab9) AllReadyH.nil)
            case hoqsaab9 =>
              simp only [List.getElem?_toArray, List.getElem?_cons_succ, List.getElem?_cons_zero]
              rfl
            case hkqsaab9 =>
              obtain ⟨cXn, fXn⟩ := one_cell HX_qs2.out
              go_simp
              try go_wp2_with fail
              have BS : Hid (Below n1 w1 (qs2.setCell ⟨qs1.heap.size, 0, none⟩ (.slice xa xm xc))) := B_qs2.out.setCell (Nat.le_trans (Nat.le_of_eq HN1.out.symm) B_qs1.out.size) _
              refine hK.out _ _ ⟨(BS.out.cell lP).trans p0, (BS.out.cell lE).trans e0, (BS.out.cell lE).trans e1, (BS.out.cell lE).trans e2, (BS.out.cell lE).trans e3, (BS.out.cell lE).trans e4, (BS.out.cell lE).trans e5⟩ (fun hHeld => ?_)
              clear hK K
              try simp only [Act.put, List.setIfInBounds_toArray, List.set_cons_zero, List.set_cons_succ]
              refine wpAnyH_take (i := 10) (oi := ?oiqsaab10) (v := .bool bb) ?hiqsaab10 (by kernel_rfl) (by kernel_rfl) (by kernel_rfl) ?hqqsaab10 ?hyqsaab10 hHeld ?hrqsaab10
              case hiqsaab10 =>
                simp only [List.getElem?_toArray, List.getElem?_cons_succ, List.getElem?_cons_zero]
                rfl
              case hqqsaab10 => exact fun _ _ _ h => h
              case hyqsaab10 => exact Or.inl ⟨by kernel_rfl, fun w hSw => by go_simp⟩
              try simp only [Act.put, List.setIfInBounds_toArray, List.set_cons_zero, List.set_cons_succ]
              refine wpAnyH_done (by kernel_rfl) ?_ _
              have HF : (qs2.setCell ⟨qs1.heap.size, 0, none⟩ (.slice xa xm xc)).heap[qs1.heap.size]? = some (.cells #[.slice xa xm xc] 32 (0, 0)) ∧ n1 ≤ qs1.heap.size ∧ Below n1 w1 (qs2.setCell ⟨qs1.heap.size, 0, none⟩ (.slice xa xm xc)) ∧ ∃ us, Own13 (qs2.setCell ⟨qs1.heap.size, 0, none⟩ (.slice xa xm xc)) n1 (.slice xa xm xc) us Q := ⟨one_set HX_qs2.out _, (Nat.le_trans (Nat.le_of_eq HN1.out.symm) B_qs1.out.size), BS.out, as0, OA_qs2.out.grown (grown_setRow13 _ _ _ _) (fun k hk => by (obtain rfl := Option.some.inj hk; exact .inr ⟨_, _, _, HX_qs2.out, by decide, by decide⟩))⟩
              generalize qs2.setCell ⟨qs1.heap.size, 0, none⟩ (.slice xa xm xc) = wf at HF ⊢
              generalize Value.slice xa xm xc = x0 at HF ⊢
              generalize qs1.heap.size = X at HF ⊢
              exact hk X u x0 wf HF
      case hkqsa8 =>
        go_simp
        try go_wp2_with fail
        have b_qsx : Below qs0.heap.size qs0 (qs0.alloc (.cells #[.slice none 0 0] 32)) := by go_grown
        have B_qsx : Hid (Below n1 w1 (qs0.alloc (.cells #[.slice none 0 0] 32))) := B_qs0.out.trans (b_qsx.mono (Nat.le_trans (Nat.le_of_eq HN1.out.symm) B_qs0.out.size))
        have HX_qsx : Hid ((qs0.alloc (.cells #[.slice none 0 0] 32)).heap[qs0.heap.size]? = some (.cells #[.slice none 0 0] 32 (0, 0))) := heap_alloc_new qs0 _
        have OU_qsx : Hid _ := ownP_kept OU_qs0.out b_qsx
        generalize hz9 : (qs0.alloc (.cells #[.slice none 0 0] 32)) = qsx at *
        clear hz9
        refine hK.out _ _ ⟨(B_qsx.out.cell lP).trans p0, (B_qsx.out.cell lE).trans e0, (B_qsx.out.cell lE).trans e1, (B_qsx.out.cell lE).trans e2, (B_qsx.out.cell lE).trans e3, (B_qsx.out.cell lE).trans e4, (B_qsx.out.cell lE).trans e5⟩ (fun hHeld => ?_)
        clear hK K
        try simp only [Act.put, List.setIfInBounds_toArray, List.set_cons_zero, List.set_cons_succ]
        refine wpAnyH_ready (rs := [3]) (by kernel_rfl) (by simp) ?_
        refine (AllReadyH.cons (o := ?ooqsab3) ?hoqsab3 (fun K hK => ?hkqsab3) AllReadyH.nil)
        case hoqsab3 =>
          simp only [List.getElem?_toArray, List.getElem?_cons_succ, List.getElem?_cons_zero]
          rfl
        case hkqsab3 =>
          go_simp
          go_at_call 8
          refine (hte _).mono ?_
          rintro r qs1 ⟨rfl, b_qs1⟩
          have B_qs1 : Hid (Below n1 w1 qs1) := B_qsx.out.trans (b_qs1.mono (Nat.le_trans (Nat.le_of_eq HN1.out.symm) B_qsx.out.size))
          have OU_qs1 : Hid _ := ownP_kept OU_qsx.out b_qs1
          have HX_qs1 : Hid (qs1.heap[qs0.heap.size]? = some (.cells #[.slice none 0 0] 32 (0, 0))) := (b_qs1.block _ (Array.getElem?_eq_some_iff.1 HX_qsx.out).1).trans HX_qsx.out
          try go_wp2_with fail
          refine hK.out _ _ ⟨(B_qs1.out.cell lP).trans p0, (B_qs1.out.cell lE).trans e0, (B_qs1.out.cell lE).trans e1, (B_qs1.out.cell lE).trans e2, (B_qs1.out.cell lE).trans e3, (B_qs1.out.cell lE).trans e4, (B_qs1.out.cell lE).trans e5⟩ (fun hHeld => ?_)
          clear hK K
          try simp only [Act.put, List.setIfInBounds_toArray, List.set_cons_zero, List.set_cons_succ]
          refine wpAnyH_ready (rs := [4]) (by kernel_rfl) (by simp) ?_
          refine (AllReadyH.cons (o := ?ooqsab4) ?hoqsab4 (fun K hK => ?hkqsab4) AllReadyH.nil)
          case hoqsab4 =>
            simp only [List.getElem?_toArray, List.getElem?_cons_succ, List.getElem?_cons_zero]
            rfl
          case hkqsab4 =>
            go_simp
            go_at_call 6
            refine (hsp _ _ (readsP_own OU_qs1.out)).mono ?_
            rintro r qs2 ⟨x0, as0, rfl, oa, b_qs2⟩
            have B_qs2 : Hid (Below n1 w1 qs2) := B_qs1.out.trans (b_qs2.mono (Nat.le_trans (Nat.le_of_eq HN1.out.symm) B_qs1.out.size))
            obtain ⟨xa, xm, xc, hx0⟩ := own_slice oa.row
            subst hx0
            have OA_qs2 : Hid (Own13 qs2 n1 (.slice xa xm xc) as0 Q) := oa.mono (Nat.le_trans (Nat.le_of_eq HN1.out.symm) B_qs1.out.size)
            clear oa
            have HX_qs2 : Hid (qs2.heap[qs0.heap.size]? = some (.cells #[.slice none 0 0] 32 (0, 0))) := (b_qs2.block _ (Array.getElem?_eq_some_iff.1 HX_qs1.out).1).trans HX_qs1.out
            try go_wp2_with fail
            refine hK.out _ _ ⟨(B_qs2.out.cell lP).trans p0, (B_qs2.out.cell lE).trans e0, (B_qs2.out.cell lE).trans e1, (B_qs2.out.cell lE).trans e2, (B_qs2.out.cell lE).trans e3, (B_qs2.out.cell lE).trans e4, (B_qs2.out.cell lE).trans e5⟩ (fun hHeld => ?_)
            clear hK K
            try simp only [Act.put, List.setIfInBounds_toArray, List.set_cons_zero, List.set_cons_succ]
            refine wpAnyH_take (i := 5) (oi := ?oiqsab5) (v := .tuple #[.agg #[.slice xa xm xc], .bool bb]) ?hiqsab5 (by kernel_rfl) (by kernel_rfl) (by kernel_rfl) ?hqqsab5 ?hyqsab5 hHeld ?hrqsab5
            case hiqsab5 =>
              simp only [List.getElem?_toArray, List.getElem?_cons_succ, List.getElem?_cons_zero]
              rfl
            case hqqsab5 => exact fun _ _ _ h => h
            case hyqsab5 => exact Or.inl ⟨by kernel_rfl, fun w hSw => by go_simp⟩
            try simp only [Act.put, List.setIfInBounds_toArray, List.set_cons_zero, List.set_cons_succ]
            refine wpAnyH_take (i := 6) (oi := ?oiqsab6) (v := .agg #[.slice xa xm xc]) ?hiqsab6 (by kernel_rfl) (by kernel_rfl) (by kernel_rfl) ?hqqsab6 ?hyqsab6 hHeld ?hrqsab6
            case hiqsab6 =>
              simp only [List.getElem?_toArray, List.getElem?_cons_succ, List.getElem?_cons_zero]
              rfl
            case hqqsab6 => exact fun _ _ _ h => h
            case hyqsab6 => exact Or.inl ⟨by kernel_rfl, fun w hSw => by go_simp⟩
            try simp only [Act.put, List.setIfInBounds_toArray, List.set_cons_zero, List.set_cons_succ]
            refine wpAnyH_take (i := 7) (oi := ?oiqsab7) (v := .bool bb) ?hiqsab7 (by kernel_rfl) (by kernel_rfl) (by kernel_rfl) ?hqqsab7 ?hyqsab7 hHeld ?hrqsab7
            case hiqsab7 =>
              simp only [List.getElem?_toArray, List.getElem?_cons_succ, List.getElem?_cons_zero]
              rfl
            case hqqsab7 => exact fun _ _ _ h => h
            case hyqsab7 => exact Or.inl ⟨by kernel_rfl, fun w hSw => by go_simp⟩
            try simp only [Act.put, List.setIfInBounds_toArray, List.set_cons_zero, List.set_cons_succ]
            refine wpAnyH_ready (rs := [9]) (by kernel_rfl) (by simp) ?_
            refine (AllReadyH.cons (o := ?ooqsab9) ?hoqsab9 (fun K hK => ?hkqsab9) AllReadyH.nil)
            case hoqsab9 =>
              simp only [List.getElem?_toArray, List.getElem?_cons_succ, List.getElem?_cons_zero]
              rfl
            case hkqsab9 =>
              obtain ⟨cXn, fXn⟩ := one_cell HX_qs2.out
              go_simp
              try go_wp2_with fail
              have BS : Hid (Below n1 w1 (qs2.setCell ⟨qs0.heap.size, 0, none⟩ (.slice xa xm xc))) := B_qs2.out.setCell (Nat.le_trans (Nat.le_of_eq HN1.out.symm) B_qs0.out.size) _
              refine hK.out _ _ ⟨(BS.out.cell lP).trans p0, (BS.out.cell lE).trans e0, (BS.out.cell lE).trans e1, (BS.out.cell lE).trans e2, (BS.out.cell lE).trans e3, (BS.out.cell lE).trans e4, (BS.out.cell lE).trans e5⟩ (fun hHeld => ?_)
              clear hK K
              try simp only [Act.put, List.setIfInBounds_toArray, List.set_cons_zero, List.set_cons_succ]
              refine wpAnyH_take (i := 10) (oi := ?oiqsab10) (v := .bool bb) ?hiqsab10 (by kernel_rfl) (by kernel_rfl) (by kernel_rfl) ?hqqsab10 ?hyqsab10 hHeld ?hrqsab10
              case hiqsab10 =>
                simp only [List.getElem?_toArray, List.getElem?_cons_succ, List.getElem?_cons_zero]
                rfl
              case hqqsab10 => exact fun _ _ _ h => h
              case hyqsab10 => exact Or.inl ⟨by kernel_rfl, fun w hSw => by go_simp⟩
              try simp only [Act.put, List.setIfInBounds_toArray, List.set_cons_zero, List.set_cons_succ]
              refine wpAnyH_done (by kernel_rfl) ?_ _
              have HF : (qs2.setCell ⟨qs0.heap.size, 0, none⟩ (.slice xa xm xc)).heap[qs0.heap.size]? = some (.cells #[.slice xa xm xc] 32 (0, 0)) ∧ n1 ≤ qs0.heap.size ∧ Below n1 w1 (qs2.setCell ⟨qs0.heap.size, 0, none⟩ (.slice xa xm xc)) ∧ ∃ us, Own13 (qs2.setCell ⟨qs0.heap.size, 0, none⟩ (.slice xa xm xc)) n1 (.slice xa xm xc) us Q := ⟨one_set HX_qs2.out _, (Nat.le_trans (Nat.le_of_eq HN1.out.symm) B_qs0.out.size), BS.out, as0, OA_qs2.out.grown (grown_setRow13 _ _ _ _) (fun k hk => by (obtain rfl := Option.some.inj hk; exact .inr ⟨_, _, _, HX_qs2.out, by decide, by decide⟩))⟩
              generalize qs2.setCell ⟨qs0.heap.size, 0, none⟩ (.slice xa xm xc) = wf at HF ⊢
              generalize Value.slice xa xm xc = x0 at HF ⊢
              generalize qs0.heap.size = X at HF ⊢
              exact hk X u x0 wf HF
    case hkqs8 =>
      go_simp
      try go_wp2_with fail
      have b_qsx : Below w1.heap.size w1 (w1.alloc (.cells #[.slice none 0 0] 32)).drew := by go_grown
      have B_qsx : Hid (Below n1 w1 (w1.alloc (.cells #[.slice none 0 0] 32)).drew) := b_qsx.mono (Nat.le_of_eq HN1.out.symm)
      have HX_qsx : Hid ((w1.alloc (.cells #[.slice none 0 0] 32)).drew.heap[w1.heap.size]? = some (.cells #[.slice none 0 0] 32 (0, 0))) := heap_alloc_new w1 _
      generalize hz9 : (w1.alloc (.cells #[.slice none 0 0] 32)).drew = qsx at *
      clear hz9
      refine hK.out _ _ ⟨(B_qsx.out.cell lP).trans p0, (B_qsx.out.cell lE).trans e0, (B_qsx.out.cell lE).trans e1, (B_qsx.out.cell lE).trans e2, (B_qsx.out.cell lE).trans e3, (B_qsx.out.cell lE).trans e4, (B_qsx.out.cell lE).trans e5⟩ (fun hHeld => ?_)
      clear hK K
      try simp only [Act.put, List.setIfInBounds_toArray, List.set_cons_zero, List.set_cons_succ]
      refine wpAnyH_ready (rs := [1]) (by kernel_rfl) (by simp) ?_
      refine (AllReadyH.cons (o := ?ooqsb1) ?hoqsb1 (fun K hK => ?hkqsb1) AllReadyH.nil)
      case hoqsb1 =>
        simp only [List.getElem?_toArray, List.getElem?_cons_succ, List.getElem?_cons_zero]
        rfl
      case hkqsb1 =>
        go_simp
        go_at_call 7
        refine (htp _ (readsP_below hv (HL1.out.below.trans (B_qsx.out.mono lW)))).mono ?_
        rintro r qs0 ⟨u, rfl, ou, b_qs0⟩
        have B_qs0 : Hid (Below n1 w1 qs0) := B_qsx.out.trans (b_qs0.mono (Nat.le_trans (Nat.le_of_eq HN1.out.symm) B_qsx.out.size))
        have OU_qs0 : Hid _ := ou
        clear ou
        have HX_qs0 : Hid (qs0.heap[w1.heap.size]? = some (.cells #[.slice none 0 0] 32 (0, 0))) := (b_qs0.block _ (Array.getElem?_eq_some_iff.1 HX_qsx.out).1).trans HX_qsx.out
        try go_wp2_with fail
        refine hK.out _ _ ⟨(B_qs0.out.cell lP).trans p0, (B_qs0.out.cell lE).trans e0, (B_qs0.out.cell lE).trans e1, (B_qs0.out.cell lE).trans e2, (B_qs0.out.cell lE).trans e3, (B_qs0.out.cell lE).trans e4, (B_qs0.out.cell lE).trans e5⟩ (fun hHeld => ?_)
        clear hK K
        try simp only [Act.put, List.setIfInBounds_toArray, List.set_cons_zero, List.set_cons_succ]
        refine wpAnyH_ready (rs := [3]) (by kernel_rfl) (by simp) ?_
        refine (AllReadyH.cons (o := ?ooqsb3) ?hoqsb3 (fun K hK => ?hkqsb3) AllReadyH.nil)
        case hoqsb3 =>
          simp only [List.getElem?_toArray, List.getElem?_cons_succ, List.getElem?_cons_zero]
          rfl
        case hkqsb3 =>
          go_simp
          go_at_call 8
          refine (hte _).mono ?_
          rintro r qs1 ⟨rfl, b_qs1⟩
          have B_qs1 : Hid (Below n1 w1 qs1) := B_qs0.out.trans (b_qs1.mono (Nat.le_trans (Nat.le_of_eq HN1.out.symm) B_qs0.out.size))
          have OU_qs1 : Hid _ := ownP_kept OU_qs0.out b_qs1
          have HX_qs1 : Hid (qs1.heap[w1.heap.size]? = some (.cells #[.slice none 0 0] 32 (0, 0))) := (b_qs1.block _ (Array.getElem?_eq_some_iff.1 HX_qs0.out).1).trans HX_qs0.out
          try go_wp2_with fail
          refine hK.out _ _ ⟨(B_qs1.out.cell lP).trans p0, (B_qs1.out.cell lE).trans e0, (B_qs1.out.cell lE).trans e1, (B_qs1.out.cell lE).trans e2, (B_qs1.out.cell lE).trans e3, (B_qs1.out.cell lE).trans e4, (B_qs1.out.cell lE).trans e5⟩ (fun hHeld => ?_)
          clear hK K
          try simp only [Act.put, List.setIfInBounds_toArray, List.set_cons_zero, List.set_cons_succ]
          refine wpAnyH_ready (rs := [4]) (by kernel_rfl) (by simp) ?_
          refine (AllReadyH.cons (o := ?ooqsb4) ?hoqsb4 (fun K hK => ?hkqsb4) AllReadyH.nil)
          case hoqsb4 =>
            simp only [List.getElem?_toArray, List.getElem?_cons_succ, List.getElem?_cons_zero]
            rfl
          case hkqsb4 =>
            go_simp
            go_at_call 6
            refine (hsp _ _ (readsP_own OU_qs1.out)).mono ?_
            rintro r qs2 ⟨x0, as0, rfl, oa, b_qs2⟩
            have B_qs2 : Hid (Below n1 w1 qs2) := B_qs1.out.trans (b_qs2.mono (Nat.le_trans (Nat.le_of_eq HN1.out.symm) B_qs1.out.size))
            obtain ⟨xa, xm, xc, hx0⟩ := own_slice oa.row
            subst hx0
            have OA_qs2 : Hid (Own13 qs2 n1 (.slice xa xm xc) as0 Q) := oa.mono (Nat.le_trans (Nat.le_of_eq HN1.out.symm) B_qs1.out.size)
            clear oa
            have HX_qs2 : Hid (qs2.heap[w1.heap.size]? = some (.cells #[.slice none 0 0] 32 (0, 0))) := (b_qs2.block _ (Array.getElem?_eq_some_iff.1 HX_qs1.out).1).trans HX_qs1.out
            try go_wp2_with fail
            refine hK.out _ _ ⟨(B_qs2.out.cell lP).trans p0, (B_qs2.out.cell lE).trans e0, (B_qs2.out.cell lE).trans e1, (B_qs2.out.cell lE).trans e2, (B_qs2.out.cell lE).trans e3, (B_qs2.out.cell lE).trans e4, (B_qs2.out.cell lE).trans e5⟩ (fun hHeld => ?_)
            clear hK K
            try simp only [Act.put, List.setIfInBounds_toArray, List.set_cons_zero, List.set_cons_succ]
            refine wpAnyH_take (i := 5) (oi := ?oiqsb5) (v := .tuple #[.agg #[.slice xa xm xc], .bool bb]) ?hiqsb5 (by kernel_rfl) (by kernel_rfl) (by kernel_rfl) ?hqqsb5 ?hyqsb5 hHeld ?hrqsb5
            case hiqsb5 =>
              simp only [List.getElem?_toArray, List.getElem?_cons_succ, List.getElem?_cons_zero]
              rfl
            case hqqsb5 => exact fun _ _ _ h => h
            case hyqsb5 => exact Or.inl ⟨by kernel_rfl, fun w hSw => by go_simp⟩
            try simp only [Act.put, List.setIfInBounds_toArray, List.set_cons_zero, List.set_cons_succ]
            refine wpAnyH_take (i := 6) (oi := ?oiqsb6) (v := .agg #[.slice xa xm xc]) ?hiqsb6 (by kernel_rfl) (by kernel_rfl) (by kernel_rfl) ?hqqsb6 ?hyqsb6 hHeld ?hrqsb6
            case hiqsb6 =>
              simp only [List.getElem?_toArray, List.getElem?_cons_succ, List.getElem?_cons_zero]
              rfl
            case hqqsb6 => exact fun _ _ _ h => h
            case hyqsb6 => exact Or.inl ⟨by kernel_rfl, fun w hSw => by go_simp⟩
            try simp only [Act.put, List.setIfInBounds_toArray, List.set_cons_zero, List.set_cons_succ]
            refine wpAnyH_take (i := 7) (oi := ?oiqsb7) (v := .bool bb) ?hiqsb7 (by kernel_rfl) (by kernel_rfl) (by kernel_rfl) ?hqqsb7 ?hyqsb7 hHeld ?hrqsb7
            case hiqsb7 =>
              simp only [List.getElem?_toArray, List.getElem?_cons_succ, List.getElem?_cons_zero]
              rfl
            case hqqsb7 => exact fun _ _ _ h => h
            case hyqsb7 => exact Or.inl ⟨by kernel_rfl, fun w hSw => by go_simp⟩
            try simp only [Act.put, List.setIfInBounds_toArray, List.set_cons_zero, List.set_cons_succ]
            refine wpAnyH_ready (rs := [9]) (by kernel_rfl) (by simp) ?_
            refine (AllReadyH.cons (o := ?ooqsb9) ?hoqsb9 (fun K hK => ?hkqsb9) AllReadyH.nil)
            case hoqsb9 =>
              simp only [List.getElem?_toArray, List.getElem?_cons_succ, List.getElem?_cons_zero]
              rfl
            case hkqsb9 =>
              obtain ⟨cXn, fXn⟩ := one_cell HX_qs2.out
              go_simp
              try go_wp2_with fail
              have BS : Hid (Below n1 w1 (qs2.setCell ⟨w1.heap.size, 0, none⟩ (.slice xa xm xc))) := B_qs2.out.setCell (Nat.le_of_eq HN1.out.symm) _
              refine hK.out _ _ ⟨(BS.out.cell lP).trans p0, (BS.out.cell lE).trans e0, (BS.out.cell lE).trans e1, (BS.out.cell lE).trans e2, (BS.out.cell lE).trans e3, (BS.out.cell lE).trans e4, (BS.out.cell lE).trans e5⟩ (fun hHeld => ?_)
              clear hK K
              try simp only [Act.put, List.setIfInBounds_toArray, List.set_cons_zero, List.set_cons_succ]
              refine wpAnyH_take (i := 10) (oi := ?oiqsb10) (v := .bool bb) ?hiqsb10 (by kernel_rfl) (by kernel_rfl) (by kernel_rfl) ?hqqsb10 ?hyqsb10 hHeld ?hrqsb10
              case hiqsb10 =>
                simp only [List.getElem?_toArray, List.getElem?_cons_succ, List.getElem?_cons_zero]
                rfl
              case hqqsb10 => exact fun _ _ _ h => h
              case hyqsb10 => exact Or.inl ⟨by kernel_rfl, fun w hSw => by go_simp⟩
              try simp only [Act.put, List.setIfInBounds_toArray, List.set_cons_zero, List.set_cons_succ]
              refine wpAnyH_done (by kernel_rfl) ?_ _
              have HF : (qs2.setCell ⟨w1.heap.size, 0, none⟩ (.slice xa xm xc)).heap[w1.heap.size]? = some (.cells #[.slice xa xm xc] 32 (0, 0)) ∧ n1 ≤ w1.heap.size ∧ Below n1 w1 (qs2.setCell ⟨w1.heap.size, 0, none⟩ (.slice xa xm xc)) ∧ ∃ us, Own13 (qs2.setCell ⟨w1.heap.size, 0, none⟩ (.slice xa xm xc)) n1 (.slice xa xm xc) us Q := ⟨one_set HX_qs2.out _, (Nat.le_of_eq HN1.out.symm), BS.out, as0, OA_qs2.out.grown (grown_setRow13 _ _ _ _) (fun k hk => by (obtain rfl := Option.some.inj hk; exact .inr ⟨_, _, _, HX_qs2.out, by decide, by decide⟩))⟩
              generalize qs2.setCell ⟨w1.heap.size, 0, none⟩ (.slice xa xm xc) = wf at HF ⊢
              generalize Value.slice xa xm xc = x0 at HF ⊢
              generalize w1.heap.size = X at HF ⊢
              exact hk X u x0 wf HF
  case restqs =>
    rintro XA u x0 w5 ⟨hbA, hXA, b5, as0, OA⟩
    have HL5 : Hid (LE w v k pr a sk sx sy w5) := HL1.out.kept b5 lS
    obtain ⟨xa, xm, xc, hx0⟩ := own_slice OA.row
    subst hx0
    have HA5 : Hid (w5.heap[XA]? = some (.cells #[.slice xa xm xc] 32 (0, 0))) := hbA
    have lXA : XA < w5.heap.size := (Array.getElem?_eq_some_iff.1 hbA).1
    obtain ⟨tA, htA⟩ : ∃ tA, w5.heap.size = tA := ⟨_, rfl⟩
    obtain ⟨nA, hnA⟩ : ∃ nA, n1 = nA := ⟨_, rfl⟩
    have OA5 : Hid (OwnP w5 nA tA (.slice xa xm xc) Q) := by (rw [← htA, ← hnA]; exact OA.ownP)
    have htA5 : tA ≤ w5.heap.size := by omega
    clear HN1 lW lP lE lS hbA hXA b5 OA htA hnA
    clear p0 e0 e1 e2 e3 e4 e5
    obtain ⟨⟨p0, e0, e1, e2, e3, e4, e5⟩, -, -⟩ := HL5.out.cells
    go_wp2_with fail
    go_at_call 7
    refine (htp w5 (readsP_below hv HL5.out.below)).mono ?_
    rintro r w6 ⟨x, rfl, ox, b6⟩
    obtain ⟨pa, pm, pc, hxx⟩ := ownP_slice ox
    subst hxx
    have b7 : Below w6.heap.size w6 (w6.alloc (.cells #[.slice pa pm pc] 32)) := by go_grown
    have b57 : Below w5.heap.size w5 (w6.alloc (.cells #[.slice pa pm pc] 32)) := b6.trans (b7.mono b6.size)
    have hz7 : (w6.alloc (.cells #[.slice pa pm pc] 32)).heap.size = w6.heap.size + 1 := by simp
    have h67 := b6.size
    have HX0 : Hid ((w6.alloc (.cells #[.slice pa pm pc] 32)).heap[w6.heap.size]? = some (.cells #[.slice pa pm pc] 32 (0, 0))) := heap_alloc_new w6 _
    have OX0 : Hid (OwnP (w6.alloc (.cells #[.slice pa pm pc] 32)) w5.heap.size w6.heap.size (.slice pa pm pc) ps) := ownP_kept ox b7
    clear p0 e0 e1 e2 e3 e4 e5
    go_wp2_with fail
    generalize hz9 : (w6.alloc (.cells #[.slice pa pm pc] 32)) = w7 at *
    clear hz9
    have b75 : Below w5.heap.size w5 w7 := b57
    have HL7 : Hid (LE w v k pr a sk sx sy w7) := HL5.out.kept b75 HL5.out.size
    have HA7 : Hid (w7.heap[XA]? = some (.cells #[.slice xa xm xc] 32 (0, 0))) := (b75.block _ (Array.getElem?_eq_some_iff.1 HA5.out).1).trans HA5.out
    have OA7 : Hid (OwnP w7 nA tA (.slice xa xm xc) Q) := ownP_kept OA5.out b75
    obtain ⟨XX, hXX⟩ : ∃ XX, w6.heap.size = XX := ⟨_, rfl⟩
    obtain ⟨tX, htX⟩ : ∃ tX, w6.heap.size = tX := ⟨_, rfl⟩
    obtain ⟨nX, hnX⟩ : ∃ nX, w5.heap.size = nX := ⟨_, rfl⟩
    have HXT : Hid (XX = tX) := by (show _ = _; omega)
    have hAn : tA ≤ nX ∧ XA < nX ∧ w.heap.size + 2 ≤ nX := ⟨by omega, by omega, by (have := HL5.out.size; omega)⟩
    have hnt : nX ≤ tX := by omega
    have h7s : w7.heap.size = tX + 1 := by omega
    have HX7 : Hid (w7.heap[XX]? = some (.cells #[.slice pa pm pc] 32 (0, 0))) := by (rw [← hXX]; exact HX0.out)
    have OX7 : Hid (OwnP w7 nX tX (.slice pa pm pc) ps) := by (rw [← htX, ← hnX]; exact OX0.out)
    rw [hXX]
    obtain ⟨hAn1, hAn2, hAn3⟩ := hAn
    clear HX0 OX0 ox b6 b7 b57 b75 hz7 h67 hXX htX hnX
    obtain ⟨n1, hn1⟩ : ∃ n1, w7.heap.size = n1 := ⟨_, rfl⟩
    have HN1 : Hid (w7.heap.size = n1) := hn1
    have lW : w.heap.size ≤ n1 := by (have := HL7.out.size; omega)
    have lP : w.heap.size < n1 := by (have := HL7.out.size; omega)
    have lE : w.heap.size + 1 < n1 := by (have := HL7.out.size; omega)
    have lS : w.heap.size + 2 ≤ n1 := by (have := HL7.out.size; omega)
    clear hn1
    have lX : XX < n1 := by (have := HN1.out; have := HXT.out; omega)
    obtain ⟨cX, -⟩ := one_cell HX7.out
    obtain ⟨⟨p0, e0, e1, e2, e3, e4, e5⟩, -, -⟩ := HL7.out.cells
    have HH7 : Hid (w7.heap.size = tX + 1) := h7s
    clear h7s
    refine later13b (F := fun X x wf => wf.heap[X]? = some (.cells #[x] 32 (0, 0)) ∧ n1 ≤ X ∧ Below n1 w7 wf ∧ ∃ us, Own13 wf n1 (x) us Q) (R := ?Rqg) (fun hk => ?tqg) ?restqg
    case tqg =>
      refine wp_region_held_drew (S := fun w' => w'.cell? ⟨w.heap.size, 0, none⟩ = some v ∧ w'.cell? ⟨w.heap.size + 1, 0, none⟩ = some (.int .i64 k) ∧ w'.cell? ⟨w.heap.size + 1, 1, none⟩ = some (.int .i64 pr) ∧ w'.cell? ⟨w.heap.size + 1, 2, none⟩ = some (.int .i64 a) ∧ w'.cell? ⟨w.heap.size + 1, 3, none⟩ = some (.int .i64 sk) ∧ w'.cell? ⟨w.heap.size + 1, 4, none⟩ = some (.int .i64 sx) ∧ w'.cell? ⟨w.heap.size + 1, 5, none⟩ = some (.int .i64 sy) ∧ w'.cell? ⟨XX, 0, none⟩ = some (.slice pa pm pc)) (by kernel_rfl) ⟨p0, e0, e1, e2, e3, e4, e5, cX⟩ (fun hHeld => ?_)
      refine wpAnyH_take (i := 0) (oi := ?oiqg0) (v := .agg #[.slice pa pm pc]) ?hiqg0 (by kernel_rfl) (by kernel_rfl) (by kernel_rfl) ?hqqg0 ?hyqg0 hHeld ?hrqg0
      case hiqg0 =>
        simp only [List.getElem?_toArray, List.getElem?_cons_succ, List.getElem?_cons_zero]
        rfl
      case hqqg0 => exact fun _ _ _ h => h
      case hyqg0 => exact Or.inl ⟨by kernel_rfl, fun w hSw => by obtain ⟨s0, s1, s2, s3, s4, s5, s6, s7⟩ := hSw; go_simp⟩
      try simp only [Act.put, List.setIfInBounds_toArray, List.set_cons_zero, List.set_cons_succ]
      refine wpAnyH_take (i := 1) (oi := ?oiqg1) (v := .agg #[.int .i64 k, .int .i64 pr, .int .i64 a, .int .i64 sk, .int .i64 sx, .int .i64 sy]) ?hiqg1 (by kernel_rfl) (by kernel_rfl) (by kernel_rfl) ?hqqg1 ?hyqg1 hHeld ?hrqg1
      case hiqg1 =>
        simp only [List.getElem?_toArray, List.getElem?_cons_succ, List.getElem?_cons_zero]
        rfl
      case hqqg1 => exact fun _ _ _ h => h
      case hyqg1 => exact Or.inl ⟨by kernel_rfl, fun w hSw => by obtain ⟨s0, s1, s2, s3, s4, s5, s6, s7⟩ := hSw; go_simp⟩
      try simp only [Act.put, List.setIfInBounds_toArray, List.set_cons_zero, List.set_cons_succ]
      refine wpAnyH_ready (rs := [2, 7]) (by kernel_rfl) (by simp) ?_
      refine (AllReadyH.cons (o := ?ooqg2) ?hoqg2 (fun K hK => ?hkqg2) (AllReadyH.cons (o := ?ooqg7) ?hoqg7 (fun K hK => ?hkqg7) AllReadyH.nil))
      case hoqg2 =>
        simp only [List.getElem?_toArray, List.getElem?_cons_succ, List.getElem?_cons_zero]
        rfl
      case hoqg7 =>
        simp only [List.getElem?_toArray, List.getElem?_cons_succ, List.getElem?_cons_zero]
        rfl
      case hkqg2 =>
        go_simp
        go_at_call 8
        refine (hte _).mono ?_
        rintro r qg0 ⟨rfl, b_qg0⟩
        have B_qg0 : Hid (Below n1 w7 qg0) := Below.trans (Below.drew (Below.refl n1 w7)) (b_qg0.mono (Nat.le_of_eq HN1.out.symm))
        have OU_qg0 : Hid _ := ownP_kept (ownP_kept OX7.out (Below.drew (Below.refl _ _))) b_qg0
        try go_wp2_with fail
        refine hK.out _ _ ⟨(B_qg0.out.cell lP).trans p0, (B_qg0.out.cell lE).trans e0, (B_qg0.out.cell lE).trans e1, (B_qg0.out.cell lE).trans e2, (B_qg0.out.cell lE).trans e3, (B_qg0.out.cell lE).trans e4, (B_qg0.out.cell lE).trans e5, (B_qg0.out.cell lX).trans cX⟩ (fun hHeld => ?_)
        clear hK K
        try simp only [Act.put, List.setIfInBounds_toArray, List.set_cons_zero, List.set_cons_succ]
        refine wpAnyH_ready (rs := [3, 7]) (by kernel_rfl) (by simp) ?_
        refine (AllReadyH.cons (o := ?ooqga3) ?hoqga3 (fun K hK => ?hkqga3) (AllReadyH.cons (o := ?ooqga7) ?hoqga7 (fun K hK => ?hkqga7) AllReadyH.nil))
        case hoqga3 =>
          simp only [List.getElem?_toArray, List.getElem?_cons_succ, List.getElem?_cons_zero]
          rfl
        case hoqga7 =>
          simp only [List.getElem?_toArray, List.getElem?_cons_succ, List.getElem?_cons_zero]
          rfl
        case hkqga3 =>
          go_simp
          go_at_call 9
          refine (him _ _ (readsP_own OU_qg0.out)).mono ?_
          rintro r qg1 ⟨x0, as0, rfl, oa, b_qg1⟩
          have B_qg1 : Hid (Below n1 w7 qg1) := B_qg0.out.trans (b_qg1.mono (Nat.le_trans (Nat.le_of_eq HN1.out.symm) B_qg0.out.size))
          obtain ⟨xa, xm, xc, hx0⟩ := own_slice oa.row
          subst hx0
          have OA_qg1 : Hid (Own13 qg1 n1 (.slice xa xm xc) as0 Q) := oa.mono (Nat.le_trans (Nat.le_of_eq HN1.out.symm) B_qg0.out.size)
          clear oa
          try go_wp2_with fail
          refine hK.out _ _ ⟨(B_qg1.out.cell lP).trans p0, (B_qg1.out.cell lE).trans e0, (B_qg1.out.cell lE).trans e1, (B_qg1.out.cell lE).trans e2, (B_qg1.out.cell lE).trans e3, (B_qg1.out.cell lE).trans e4, (B_qg1.out.cell lE).trans e5, (B_qg1.out.cell lX).trans cX⟩ (fun hHeld => ?_)
          clear hK K
          try simp only [Act.put, List.setIfInBounds_toArray, List.set_cons_zero, List.set_cons_succ]
          refine wpAnyH_take (i := 4) (oi := ?oiqgaa4) (v := .tuple #[.agg #[.slice xa xm xc], .bool bb]) ?hiqgaa4 (by kernel_rfl) (by kernel_rfl) (by kernel_rfl) ?hqqgaa4 ?hyqgaa4 hHeld ?hrqgaa4
          case hiqgaa4 =>
            simp only [List.getElem?_toArray, List.getElem?_cons_succ, List.getElem?_cons_zero]
            rfl
          case hqqgaa4 => exact fun _ _ _ h => h
          case hyqgaa4 => exact Or.inl ⟨by kernel_rfl, fun w hSw => by go_simp⟩
          try simp only [Act.put, List.setIfInBounds_toArray, List.set_cons_zero, List.set_cons_succ]
          refine wpAnyH_take (i := 5) (oi := ?oiqgaa5) (v := .agg #[.slice xa xm xc]) ?hiqgaa5 (by kernel_rfl) (by kernel_rfl) (by kernel_rfl) ?hqqgaa5 ?hyqgaa5 hHeld ?hrqgaa5
          case hiqgaa5 =>
            simp only [List.getElem?_toArray, List.getElem?_cons_succ, List.getElem?_cons_zero]
            rfl
          case hqqgaa5 => exact fun _ _ _ h => h
          case hyqgaa5 => exact Or.inl ⟨by kernel_rfl, fun w hSw => by go_simp⟩
          try simp only [Act.put, List.setIfInBounds_toArray, List.set_cons_zero, List.set_cons_succ]
          refine wpAnyH_take (i := 6) (oi := ?oiqgaa6) (v := .bool bb) ?hiqgaa6 (by kernel_rfl) (by kernel_rfl) (by kernel_rfl) ?hqqgaa6 ?hyqgaa6 hHeld ?hrqgaa6
          case hiqgaa6 =>
            simp only [List.getElem?_toArray, List.getElem?_cons_succ, List.getElem?_cons_zero]
            rfl
          case hqqgaa6 => exact fun _ _ _ h => h
          case hyqgaa6 => exact Or.inl ⟨by kernel_rfl, fun w hSw => by go_simp⟩
          try simp only [Act.put, List.setIfInBounds_toArray, List.set_cons_zero, List.set_cons_succ]
          refine wpAnyH_ready (rs := [7]) (by kernel_rfl) (by simp) ?_
          refine (AllReadyH.cons (o := ?ooqgaa7) ?hoqgaa7 (fun K hK => ?hkqgaa7) AllReadyH.nil)
          case hoqgaa7 =>
            simp only [List.getElem?_toArray, List.getElem?_cons_succ, List.getElem?_cons_zero]
            rfl
          case hkqgaa7 =>
            go_simp
            try go_wp2_with fail
            have b_qgx : Below qg1.heap.size qg1 (qg1.alloc (.cells #[.slice none 0 0] 32)) := by go_grown
            have B_qgx : Hid (Below n1 w7 (qg1.alloc (.cells #[.slice none 0 0] 32))) := B_qg1.out.trans (b_qgx.mono (Nat.le_trans (Nat.le_of_eq HN1.out.symm) B_qg1.out.size))
            have HX_qgx : Hid ((qg1.alloc (.cells #[.slice none 0 0] 32)).heap[qg1.heap.size]? = some (.cells #[.slice none 0 0] 32 (0, 0))) := heap_alloc_new qg1 _
            have OA_qgx : Hid (Own13 (qg1.alloc (.cells #[.slice none 0 0] 32)) n1 (.slice xa xm xc) as0 Q) := OA_qg1.out.kept b_qgx
            generalize hz9 : (qg1.alloc (.cells #[.slice none 0 0] 32)) = qgx at *
            clear hz9
            refine hK.out _ _ ⟨(B_qgx.out.cell lP).trans p0, (B_qgx.out.cell lE).trans e0, (B_qgx.out.cell lE).trans e1, (B_qgx.out.cell lE).trans e2, (B_qgx.out.cell lE).trans e3, (B_qgx.out.cell lE).trans e4, (B_qgx.out.cell lE).trans e5, (B_qgx.out.cell lX).trans cX⟩ (fun hHeld => ?_)
            clear hK K
            try simp only [Act.put, List.setIfInBounds_toArray, List.set_cons_zero, List.set_cons_succ]
            refine wpAnyH_ready (rs := [8]) (by kernel_rfl) (by simp) ?_
            refine (AllReadyH.cons (o := ?ooqgaa8) ?hoqgaa8 (fun K hK => ?hkqgaa8) AllReadyH.nil)
            case hoqgaa8 =>
              simp only [List.getElem?_toArray, List.getElem?_cons_succ, List.getElem?_cons_zero]
              rfl
            case hkqgaa8 =>
              obtain ⟨cXn, fXn⟩ := one_cell HX_qgx.out
              go_simp
              try go_wp2_with fail
              have BS : Hid (Below n1 w7 (qgx.setCell ⟨qg1.heap.size, 0, none⟩ (.slice xa xm xc))) := B_qgx.out.setCell (Nat.le_trans (Nat.le_of_eq HN1.out.symm) B_qg1.out.size) _
              refine hK.out _ _ ⟨(BS.out.cell lP).trans p0, (BS.out.cell lE).trans e0, (BS.out.cell lE).trans e1, (BS.out.cell lE).trans e2, (BS.out.cell lE).trans e3, (BS.out.cell lE).trans e4, (BS.out.cell lE).trans e5, (BS.out.cell lX).trans cX⟩ (fun hHeld => ?_)
              clear hK K
              try simp only [Act.put, List.setIfInBounds_toArray, List.set_cons_zero, List.set_cons_succ]
              refine wpAnyH_take (i := 9) (oi := ?oiqgaa9) (v := .bool bb) ?hiqgaa9 (by kernel_rfl) (by kernel_rfl) (by kernel_rfl) ?hqqgaa9 ?hyqgaa9 hHeld ?hrqgaa9
              case hiqgaa9 =>
                simp only [List.getElem?_toArray, List.getElem?_cons_succ, List.getElem?_cons_zero]
                rfl
              case hqqgaa9 => exact fun _ _ _ h => h
              case hyqgaa9 => exact Or.inl ⟨by kernel_rfl, fun w hSw => by go_simp⟩
              try simp only [Act.put, List.setIfInBounds_toArray, List.set_cons_zero, List.set_cons_succ]
              refine wpAnyH_done (by kernel_rfl) ?_ _
              have HF : (qgx.setCell ⟨qg1.heap.size, 0, none⟩ (.slice xa xm xc)).heap[qg1.heap.size]? = some (.cells #[.slice xa xm xc] 32 (0, 0)) ∧ n1 ≤ qg1.heap.size ∧ Below n1 w7 (qgx.setCell ⟨qg1.heap.size, 0, none⟩ (.slice xa xm xc)) ∧ ∃ us, Own13 (qgx.setCell ⟨qg1.heap.size, 0, none⟩ (.slice xa xm xc)) n1 (.slice xa xm xc) us Q := ⟨one_set HX_qgx.out _, (Nat.le_trans (Nat.le_of_eq HN1.out.symm) B_qg1.out.size), BS.out, as0, OA_qgx.out.grown (grown_setRow13 _ _ _ _) (fun k hk => by (obtain rfl := Option.some.inj hk; exact .inr ⟨_, _, _, HX_qgx.out, by decide, by decide⟩))⟩
              generalize qgx.setCell ⟨qg1.heap.size, 0, none⟩ (.slice xa xm xc) = wf at HF ⊢
              generalize Value.slice xa xm xc = x0 at HF ⊢
              generalize qg1.heap.size = X at HF ⊢
              exact hk X x0 wf HF
        case hkqga7 =>
          go_simp
          try go_wp2_with fail
          have b_qgx : Below qg0.heap.size qg0 (qg0.alloc (.cells #[.slice none 0 0] 32)) := by go_grown
          have B_qgx : Hid (Below n1 w7 (qg0.alloc (.cells #[.slice none 0 0] 32))) := B_qg0.out.trans (b_qgx.mono (Nat.le_trans (Nat.le_of_eq HN1.out.symm) B_qg0.out.size))
          have HX_qgx : Hid ((qg0.alloc (.cells #[.slice none 0 0] 32)).heap[qg0.heap.size]? = some (.cells #[.slice none 0 0] 32 (0, 0))) := heap_alloc_new qg0 _
          have OU_qgx : Hid _ := ownP_kept OU_qg0.out b_qgx
          generalize hz9 : (qg0.alloc (.cells #[.slice none 0 0] 32)) = qgx at *
          clear hz9
          refine hK.out _ _ ⟨(B_qgx.out.cell lP).trans p0, (B_qgx.out.cell lE).trans e0, (B_qgx.out.cell lE).trans e1, (B_qgx.out.cell lE).trans e2, (B_qgx.out.cell lE).trans e3, (B_qgx.out.cell lE).trans e4, (B_qgx.out.cell lE).trans e5, (B_qgx.out.cell lX).trans cX⟩ (fun hHeld => ?_)
          clear hK K
          try simp only [Act.put, List.setIfInBounds_toArray, List.set_cons_zero, List.set_cons_succ]
          refine wpAnyH_ready (rs := [3]) (by kernel_rfl) (by simp) ?_
          refine (AllReadyH.cons (o := ?ooqgab3) ?hoqgab3 (fun K hK => ?hkqgab3) AllReadyH.nil)
          case hoqgab3 =>
            simp only [List.getElem?_toArray, List.getElem?_cons_succ, List.getElem?_cons_zero]
            rfl
          case hkqgab3 =>
            go_simp
            go_at_call 9
            refine (him _ _ (readsP_own OU_qgx.out)).mono ?_
            rintro r qg1 ⟨x0, as0, rfl, oa, b_qg1⟩
            have B_qg1 : Hid (Below n1 w7 qg1) := B_qgx.out.trans (b_qg1.mono (Nat.le_trans (Nat.le_of_eq HN1.out.symm) B_qgx.out.size))
            obtain ⟨xa, xm, xc, hx0⟩ := own_slice oa.row
            subst hx0
            have OA_qg1 : Hid (Own13 qg1 n1 (.slice xa xm xc) as0 Q) := oa.mono (Nat.le_trans (Nat.le_of_eq HN1.out.symm) B_qgx.out.size)
            clear oa
            have HX_qg1 : Hid (qg1.heap[qg0.heap.size]? = some (.cells #[.slice none 0 0] 32 (0, 0))) := (b_qg1.block _ (Array.getElem?_eq_some_iff.1 HX_qgx.out).1).trans HX_qgx.out
            try go_wp2_with fail
            refine hK.out _ _ ⟨(B_qg1.out.cell lP).trans p0, (B_qg1.out.cell lE).trans e0, (B_qg1.out.cell lE).trans e1, (B_qg1.out.cell lE).trans e2, (B_qg1.out.cell lE).trans e3, (B_qg1.out.cell lE).trans e4, (B_qg1.out.cell lE).trans e5, (B_qg1.out.cell lX).trans cX⟩ (fun hHeld => ?_)
            clear hK K
            try simp only [Act.put, List.setIfInBounds_toArray, List.set_cons_zero, List.set_cons_succ]
            refine wpAnyH_take (i := 4) (oi := ?oiqgab4) (v := .tuple #[.agg #[.slice xa xm xc], .bool bb]) ?hiqgab4 (by kernel_rfl) (by kernel_rfl) (by kernel_rfl) ?hqqgab4 ?hyqgab4 hHeld ?hrqgab4
            case hiqgab4 =>
              simp only [List.getElem?_toArray, List.getElem?_cons_succ, List.getElem?_cons_zero]
              rfl
            case hqqgab4 => exact fun _ _ _ h => h
            case hyqgab4 => exact Or.inl ⟨by kernel_rfl, fun w hSw => by go_simp⟩
            try simp only [Act.put, List.setIfInBounds_toArray, List.set_cons_zero, List.set_cons_succ]
            refine wpAnyH_take (i := 5) (oi := ?oiqgab5) (v := .agg #[.slice xa xm xc]) ?hiqgab5 (by kernel_rfl) (by kernel_rfl) (by kernel_rfl) ?hqqgab5 ?hyqgab5 hHeld ?hrqgab5
            case hiqgab5 =>
              simp only [List.getElem?_toArray, List.getElem?_cons_succ, List.getElem?_cons_zero]
              rfl
            case hqqgab5 => exact fun _ _ _ h => h
            case hyqgab5 => exact Or.inl ⟨by kernel_rfl, fun w hSw => by go_simp⟩
            try simp only [Act.put, List.setIfInBounds_toArray, List.set_cons_zero, List.set_cons_succ]
            refine wpAnyH_take (i := 6) (oi := ?oiqgab6) (v := .bool bb) ?hiqgab6 (by kernel_rfl) (by kernel_rfl) (by kernel_rfl) ?hqqgab6 ?hyqgab6 hHeld ?hrqgab6
            case hiqgab6 =>
              simp only [List.getElem?_toArray, List.getElem?_cons_succ, List.getElem?_cons_zero]
              rfl
            case hqqgab6 => exact fun _ _ _ h => h
            case hyqgab6 => exact Or.inl ⟨by kernel_rfl, fun w hSw => by go_simp⟩
            try simp only [Act.put, List.setIfInBounds_toArray, List.set_cons_zero, List.set_cons_succ]
            refine wpAnyH_ready (rs := [8]) (by kernel_rfl) (by simp) ?_
            refine (AllReadyH.cons (o := ?ooqgab8) ?hoqgab8 (fun K hK => ?hkqgab8) AllReadyH.nil)
            case hoqgab8 =>
              simp only [List.getElem?_toArray, List.getElem?_cons_succ, List.getElem?_cons_zero]
              rfl
            case hkqgab8 =>
              obtain ⟨cXn, fXn⟩ := one_cell HX_qg1.out
              go_simp
              try go_wp2_with fail
              have BS : Hid (Below n1 w7 (qg1.setCell ⟨qg0.heap.size, 0, none⟩ (.slice xa xm xc))) := B_qg1.out.setCell (Nat.le_trans (Nat.le_of_eq HN1.out.symm) B_qg0.out.size) _
              refine hK.out _ _ ⟨(BS.out.cell lP).trans p0, (BS.out.cell lE).trans e0, (BS.out.cell lE).trans e1, (BS.out.cell lE).trans e2, (BS.out.cell lE).trans e3, (BS.out.cell lE).trans e4, (BS.out.cell lE).trans e5, (BS.out.cell lX).trans cX⟩ (fun hHeld => ?_)
              clear hK K
              try simp only [Act.put, List.setIfInBounds_toArray, List.set_cons_zero, List.set_cons_succ]
              refine wpAnyH_take (i := 9) (oi := ?oiqgab9) (v := .bool bb) ?hiqgab9 (by kernel_rfl) (by kernel_rfl) (by kernel_rfl) ?hqqgab9 ?hyqgab9 hHeld ?hrqgab9
              case hiqgab9 =>
                simp only [List.getElem?_toArray, List.getElem?_cons_succ, List.getElem?_cons_zero]
                rfl
              case hqqgab9 => exact fun _ _ _ h => h
              case hyqgab9 => exact Or.inl ⟨by kernel_rfl, fun w hSw => by go_simp⟩
              try simp only [Act.put, List.setIfInBounds_toArray, List.set_cons_zero, List.set_cons_succ]
              refine wpAnyH_done (by kernel_rfl) ?_ _
              have HF : (qg1.setCell ⟨qg0.heap.size, 0, none⟩ (.slice xa xm xc)).heap[qg0.heap.size]? = some (.cells #[.slice xa xm xc] 32 (0, 0)) ∧ n1 ≤ qg0.heap.size ∧ Below n1 w7 (qg1.setCell ⟨qg0.heap.size, 0, none⟩ (.slice xa xm xc)) ∧ ∃ us, Own13 (qg1.setCell ⟨qg0.heap.size, 0, none⟩ (.slice xa xm xc)) n1 (.slice xa xm xc) us Q := ⟨one_set HX_qg1.out _, (Nat.le_trans (Nat.le_of_eq HN1.out.symm) B_qg0.out.size), BS.out, as0, OA_qg1.out.grown (grown_setRow13 _ _ _ _) (fun k hk => by (obtain rfl := Option.some.inj hk; exact .inr ⟨_, _, _, HX_qg1.out, by decide, by decide⟩))⟩
              generalize qg1.setCell ⟨qg0.heap.size, 0, none⟩ (.slice xa xm xc) = wf at HF ⊢
              generalize Value.slice xa xm xc = x0 at HF ⊢
              generalize qg0.heap.size = X at HF ⊢
              exact hk X x0 wf HF
      case hkqg7 =>
        go_simp
        try go_wp2_with fail
        have b_qgx : Below w7.heap.size w7 (w7.alloc (.cells #[.slice none 0 0] 32)).drew := by go_grown
        have B_qgx : Hid (Below n1 w7 (w7.alloc (.cells #[.slice none 0 0] 32)).drew) := b_qgx.mono (Nat.le_of_eq HN1.out.symm)
        have HX_qgx : Hid ((w7.alloc (.cells #[.slice none 0 0] 32)).drew.heap[w7.heap.size]? = some (.cells #[.slice none 0 0] 32 (0, 0))) := heap_alloc_new w7 _
        have OU_qgx : Hid _ := ownP_kept OX7.out b_qgx
        generalize hz9 : (w7.alloc (.cells #[.slice none 0 0] 32)).drew = qgx at *
        clear hz9
        refine hK.out _ _ ⟨(B_qgx.out.cell lP).trans p0, (B_qgx.out.cell lE).trans e0, (B_qgx.out.cell lE).trans e1, (B_qgx.out.cell lE).trans e2, (B_qgx.out.cell lE).trans e3, (B_qgx.out.cell lE).trans e4, (B_qgx.out.cell lE).trans e5, (B_qgx.out.cell lX).trans cX⟩ (fun hHeld => ?_)
        clear hK K
        try simp only [Act.put, List.setIfInBounds_toArray, List.set_cons_zero, List.set_cons_succ]
        refine wpAnyH_ready (rs := [2]) (by kernel_rfl) (by simp) ?_
        refine (AllReadyH.cons (o := ?ooqgb2) ?hoqgb2 (fun K hK => ?hkqgb2) AllReadyH.nil)
        case hoqgb2 =>
          simp only [List.getElem?_toArray, List.getElem?_cons_succ, List.getElem?_cons_zero]
          rfl
        case hkqgb2 =>
          go_simp
          go_at_call 8
          refine (hte _).mono ?_
          rintro r qg0 ⟨rfl, b_qg0⟩
          have B_qg0 : Hid (Below n1 w7 qg0) := B_qgx.out.trans (b_qg0.mono (Nat.le_trans (Nat.le_of_eq HN1.out.symm) B_qgx.out.size))
          have OU_qg0 : Hid _ := ownP_kept OU_qgx.out b_qg0
          have HX_qg0 : Hid (qg0.heap[w7.heap.size]? = some (.cells #[.slice none 0 0] 32 (0, 0))) := (b_qg0.block _ (Array.getElem?_eq_some_iff.1 HX_qgx.out).1).trans HX_qgx.out
          try go_wp2_with fail
          refine hK.out _ _ ⟨(B_qg0.out.cell lP).trans p0, (B_qg0.out.cell lE).trans e0, (B_qg0.out.cell lE).trans e1, (B_qg0.out.cell lE).trans e2, (B_qg0.out.cell lE).trans e3, (B_qg0.out.cell lE).trans e4, (B_qg0.out.cell lE).trans e5, (B_qg0.out.cell lX).trans cX⟩ (fun hHeld => ?_)
          clear hK K
          try simp only [Act.put, List.setIfInBounds_toArray, List.set_cons_zero, List.set_cons_succ]
          refine wpAnyH_ready (rs := [3]) (by kernel_rfl) (by simp) ?_
          refine (AllReadyH.cons (o := ?ooqgb3) ?hoqgb3 (fun K hK => ?hkqgb3) AllReadyH.nil)
          case hoqgb3 =>
            simp only [List.getElem?_toArray, List.getElem?_cons_succ, List.getElem?_cons_zero]
            rfl
          case hkqgb3 =>
            go_simp
            go_at_call 9
            refine (him _ _ (readsP_own OU_qg0.out)).mono ?_
            rintro r qg1 ⟨x0, as0, rfl, oa, b_qg1⟩
            have B_qg1 : Hid (Below n1 w7 qg1) := B_qg0.out.trans (b_qg1.mono (Nat.le_trans (Nat.le_of_eq HN1.out.symm) B_qg0.out.size))
            obtain ⟨xa, xm, xc, hx0⟩ := own_slice oa.row
            subst hx0
            have OA_qg1 : Hid (Own13 qg1 n1 (.slice xa xm xc) as0 Q) := oa.mono (Nat.le_trans (Nat.le_of_eq HN1.out.symm) B_qg0.out.size)
            clear oa
            have HX_qg1 : Hid (qg1.heap[w7.heap.size]? = some (.cells #[.slice none 0 0] 32 (0, 0))) := (b_qg1.block _ (Array.getElem?_eq_some_iff.1 HX_qg0.out).1).trans HX_qg0.out
            try go_wp2_with fail
            refine hK.out _ _ ⟨(B_qg1.out.cell lP).trans p0, (B_qg1.out.cell lE).trans e0, (B_qg1.out.cell lE).trans e1, (B_qg1.out.cell lE).trans e2, (B_qg1.out.cell lE).trans e3, (B_qg1.out.cell lE).trans e4, (B_qg1.out.cell lE).trans e5, (B_qg1.out.cell lX).trans cX⟩ (fun hHeld => ?_)
            clear hK K
            try simp only [Act.put, List.setIfInBounds_toArray, List.set_cons_zero, List.set_cons_succ]
            refine wpAnyH_take (i := 4) (oi := ?oiqgb4) (v := .tuple #[.agg #[.slice xa xm xc], .bool bb]) ?hiqgb4 (by kernel_rfl) (by kernel_rfl) (by kernel_rfl) ?hqqgb4 ?hyqgb4 hHeld ?hrqgb4
            case hiqgb4 =>
              simp only [List.getElem?_toArray, List.getElem?_cons_succ, List.getElem?_cons_zero]
              rfl
            case hqqgb4 => exact fun _ _ _ h => h
            case hyqgb4 => exact Or.inl ⟨by kernel_rfl, fun w hSw => by go_simp⟩
            try simp only [Act.put, List.setIfInBounds_toArray, List.set_cons_zero, List.set_cons_succ]
            refine wpAnyH_take (i := 5) (oi := ?oiqgb5) (v := .agg #[.slice xa xm xc]) ?hiqgb5 (by kernel_rfl) (by kernel_rfl) (by kernel_rfl) ?hqqgb5 ?hyqgb5 hHeld ?hrqgb5
            case hiqgb5 =>
              simp only [List.getElem?_toArray, List.getElem?_cons_succ, List.getElem?_cons_zero]
              rfl
            case hqqgb5 => exact fun _ _ _ h => h
            case hyqgb5 => exact Or.inl ⟨by kernel_rfl, fun w hSw => by go_simp⟩
            try simp only [Act.put, List.setIfInBounds_toArray, List.set_cons_zero, List.set_cons_succ]
            refine wpAnyH_take (i := 6) (oi := ?oiqgb6) (v := .bool bb) ?hiqgb6 (by kernel_rfl) (by kernel_rfl) (by kernel_rfl) ?hqqgb6 ?hyqgb6 hHeld ?hrqgb6
            case hiqgb6 =>
              simp only [List.getElem?_toArray, List.getElem?_cons_succ, List.getElem?_cons_zero]
              rfl
            case hqqgb6 => exact fun _ _ _ h => h
            case hyqgb6 => exact Or.inl ⟨by kernel_rfl, fun w hSw => by go_simp⟩
            try simp only [Act.put, List.setIfInBounds_toArray, List.set_cons_zero, List.set_cons_succ]
            refine wpAnyH_ready (rs := [8]) (by kernel_rfl) (by simp) ?_
            refine (AllReadyH.cons (o := ?ooqgb8) ?hoqgb8 (fun K hK => ?hkqgb8) AllReadyH.nil)
            case hoqgb8 =>
              simp only [List.getElem?_toArray, List.getElem?_cons_succ, List.getElem?_cons_zero]
              rfl
            case hkqgb8 =>
              obtain ⟨cXn, fXn⟩ := one_cell HX_qg1.out
              go_simp
              try go_wp2_with fail
              have BS : Hid (Below n1 w7 (qg1.setCell ⟨w7.heap.size, 0, none⟩ (.slice xa xm xc))) := B_qg1.out.setCell (Nat.le_of_eq HN1.out.symm) _
              refine hK.out _ _ ⟨(BS.out.cell lP).trans p0, (BS.out.cell lE).trans e0, (BS.out.cell lE).trans e1, (BS.out.cell lE).trans e2, (BS.out.cell lE).trans e3, (BS.out.cell lE).trans e4, (BS.out.cell lE).trans e5, (BS.out.cell lX).trans cX⟩ (fun hHeld => ?_)
              clear hK K
              try simp only [Act.put, List.setIfInBounds_toArray, List.set_cons_zero, List.set_cons_succ]
              refine wpAnyH_take (i := 9) (oi := ?oiqgb9) (v := .bool bb) ?hiqgb9 (by kernel_rfl) (by kernel_rfl) (by kernel_rfl) ?hqqgb9 ?hyqgb9 hHeld ?hrqgb9
              case hiqgb9 =>
                simp only [List.getElem?_toArray, List.getElem?_cons_succ, List.getElem?_cons_zero]
                rfl
              case hqqgb9 => exact fun _ _ _ h => h
              case hyqgb9 => exact Or.inl ⟨by kernel_rfl, fun w hSw => by go_simp⟩
              try simp only [Act.put, List.setIfInBounds_toArray, List.set_cons_zero, List.set_cons_succ]
              refine wpAnyH_done (by kernel_rfl) ?_ _
              have HF : (qg1.setCell ⟨w7.heap.size, 0, none⟩ (.slice xa xm xc)).heap[w7.heap.size]? = some (.cells #[.slice xa xm xc] 32 (0, 0)) ∧ n1 ≤ w7.heap.size ∧ Below n1 w7 (qg1.setCell ⟨w7.heap.size, 0, none⟩ (.slice xa xm xc)) ∧ ∃ us, Own13 (qg1.setCell ⟨w7.heap.size, 0, none⟩ (.slice xa xm xc)) n1 (.slice xa xm xc) us Q := ⟨one_set HX_qg1.out _, (Nat.le_of_eq HN1.out.symm), BS.out, as0, OA_qg1.out.grown (grown_setRow13 _ _ _ _) (fun k hk => by (obtain rfl := Option.some.inj hk; exact .inr ⟨_, _, _, HX_qg1.out, by decide, by decide⟩))⟩
              generalize qg1.setCell ⟨w7.heap.size, 0, none⟩ (.slice xa xm xc) = wf at HF ⊢
              generalize Value.slice xa xm xc = x0 at HF ⊢
              generalize w7.heap.size = X at HF ⊢
              exact hk X x0 wf HF
    case restqg =>
      rintro XG g0 w10 ⟨hbG, hXG, bG, gs, OG⟩
      have b10 : Below w7.heap.size w7 w10 := by rw [HN1.out]; exact bG
      have HL10 : Hid (LE w v k pr a sk sx sy w10) := HL7.out.kept b10 HL7.out.size
      have HA10 : Hid (w10.heap[XA]? = some (.cells #[.slice xa xm xc] 32 (0, 0))) := (b10.block _ (Array.getElem?_eq_some_iff.1 HA7.out).1).trans HA7.out
      have OA10 : Hid (OwnP w10 nA tA (.slice xa xm xc) Q) := ownP_kept OA7.out b10
      have HX10 : Hid (w10.heap[XX]? = some (.cells #[.slice pa pm pc] 32 (0, 0))) := (b10.block _ (Array.getElem?_eq_some_iff.1 HX7.out).1).trans HX7.out
      have OX10 : Hid (OwnP w10 nX tX (.slice pa pm pc) ps) := ownP_kept OX7.out b10
      have HG10 : Hid (w10.heap[XG]? = some (.cells #[g0] 32 (0, 0))) := hbG
      obtain ⟨ga, gm, gc, hg0⟩ := own_slice OG.row
      subst hg0
      generalize n1 = nG at *
      have OG10 : Hid (Own13 w10 nG (.slice ga gm gc) gs Q) := OG
      have hnGX : tX < nG := by (have := HN1.out; have := HH7.out; omega)
      clear HN1 lW lP lE hbG bG b10 OG
      clear p0 e0 e1 e2 e3 e4 e5
      clear cX lX
      obtain ⟨cG, -⟩ := one_cell HG10.out
      obtain ⟨cA, -⟩ := one_cell HA10.out
      go_wp2_with fail
      go_at_call 10
      refine (eqProgram Q _ _ w10 hqm1 hqm2 (readsP_own OG10.out.ownP) (readsP_own OA10.out)).mono ?_
      rintro r w11 ⟨rfl, b11⟩
      have HL11 : Hid (LE w v k pr a sk sx sy w11) := HL10.out.kept b11 HL10.out.size
      have HA11 : Hid (w11.heap[XA]? = some (.cells #[.slice xa xm xc] 32 (0, 0))) := (b11.block _ (Array.getElem?_eq_some_iff.1 HA10.out).1).trans HA10.out
      have OA11 : Hid (OwnP w11 nA tA (.slice xa xm xc) Q) := ownP_kept OA10.out b11
      have HX11 : Hid (w11.heap[XX]? = some (.cells #[.slice pa pm pc] 32 (0, 0))) := (b11.block _ (Array.getElem?_eq_some_iff.1 HX10.out).1).trans HX10.out
      have OX11 : Hid (OwnP w11 nX tX (.slice pa pm pc) ps) := ownP_kept OX10.out b11
      have HG11 : Hid (w11.heap[XG]? = some (.cells #[.slice ga gm gc] 32 (0, 0))) := (b11.block _ (Array.getElem?_eq_some_iff.1 HG10.out).1).trans HG10.out
      have OG11 : Hid (Own13 w11 nG (.slice ga gm gc) gs Q) := OG10.out.kept b11
      clear cG cA b11
      obtain ⟨p0, -⟩ := one_cell HL11.out.p
      obtain ⟨cX, -⟩ := one_cell HX11.out
      have lP10 : w.heap.size < w11.heap.size := (Array.getElem?_eq_some_iff.1 HL11.out.p).1
      have lX10 : XX < w11.heap.size := (Array.getElem?_eq_some_iff.1 HX11.out).1
      go_wp2_with fail
      refine wp_region_held_drew (S := fun w' => w'.cell? ⟨w.heap.size, 0, none⟩ = some v ∧ w'.cell? ⟨XX, 0, none⟩ = some (.slice pa pm pc)) (by kernel_rfl) ⟨p0, cX⟩ (fun hHeld => ?_)
      refine wpAnyH_take (i := 0) (oi := ?oira0) (v := .agg #[.slice pa pm pc]) ?hira0 (by kernel_rfl) (by kernel_rfl) (by kernel_rfl) ?hqra0 ?hyra0 hHeld ?hrra0
      case hira0 =>
        simp only [List.getElem?_toArray, List.getElem?_cons_succ, List.getElem?_cons_zero]
        rfl
      case hqra0 => exact fun _ _ _ h => h
      case hyra0 => exact Or.inl ⟨by kernel_rfl, fun w hSw => by obtain ⟨s0, s1⟩ := hSw; go_simp⟩
      try simp only [Act.put, List.setIfInBounds_toArray, List.set_cons_zero, List.set_cons_succ]
      refine wpAnyH_take (i := 1) (oi := ?oira1) (v := .agg #[v]) ?hira1 (by kernel_rfl) (by kernel_rfl) (by kernel_rfl) ?hqra1 ?hyra1 hHeld ?hrra1
      case hira1 =>
        simp only [List.getElem?_toArray, List.getElem?_cons_succ, List.getElem?_cons_zero]
        rfl
      case hqra1 => exact fun _ _ _ h => h
      case hyra1 => exact Or.inl ⟨by kernel_rfl, fun w hSw => by obtain ⟨s0, s1⟩ := hSw; go_simp⟩
      try simp only [Act.put, List.setIfInBounds_toArray, List.set_cons_zero, List.set_cons_succ]
      refine wpAnyH_ready (rs := [2]) (by kernel_rfl) (by simp) ?_
      refine (AllReadyH.cons (o := ?oora2) ?hora2 (fun K hK => ?hkra2) AllReadyH.nil)
      case hora2 =>
        simp only [List.getElem?_toArray, List.getElem?_cons_succ, List.getElem?_cons_zero]
        rfl
      case hkra2 =>
        go_simp
        go_at_call 7
        refine (htp _ (readsP_below hv HL11.out.below.drew)).mono ?_
        rintro r w12 ⟨y, rfl, oy, b12⟩
        have B12 : Hid (Below w11.heap.size w11 w12) := Below.trans (Below.drew (Below.refl _ _)) b12
        have OY : Hid _ := oy
        clear oy b12
        try go_wp2_with fail
        refine hK.out _ _ ⟨(B12.out.cell lP10).trans p0, (B12.out.cell lX10).trans cX⟩ (fun hHeld => ?_)
        clear hK K
        try simp only [Act.put, List.setIfInBounds_toArray, List.set_cons_zero, List.set_cons_succ]
        refine wpAnyH_ready (rs := [3]) (by kernel_rfl) (by simp) ?_
        refine (AllReadyH.cons (o := ?oora3) ?hora3 (fun K hK => ?hkra3) AllReadyH.nil)
        case hora3 =>
          simp only [List.getElem?_toArray, List.getElem?_cons_succ, List.getElem?_cons_zero]
          rfl
        case hkra3 =>
          go_simp
          go_at_call 10
          refine (eqProgram ps _ _ w12 hl hp (readsP_own (ownP_kept OX11.out B12.out)) (readsP_own OY.out)).mono ?_
          rintro r w13 ⟨rfl, b13'⟩
          have B13 : Hid (Below w11.heap.size w11 w13) := B12.out.trans (b13'.mono B12.out.size)
          try go_wp2_with fail
          refine hK.out _ _ ⟨(B13.out.cell lP10).trans p0, (B13.out.cell lX10).trans cX⟩ (fun hHeld => ?_)
          clear hK K
          try simp only [Act.put, List.setIfInBounds_toArray, List.set_cons_zero, List.set_cons_succ]
          refine wpAnyH_take (i := 4) (oi := ?oira4) (v := .bool false) ?hira4 (by kernel_rfl) (by kernel_rfl) (by kernel_rfl) ?hqra4 ?hyra4 hHeld ?hrra4
          case hira4 =>
            simp only [List.getElem?_toArray, List.getElem?_cons_succ, List.getElem?_cons_zero]
            rfl
          case hqra4 => exact fun _ _ _ h => h
          case hyra4 => exact Or.inl ⟨by kernel_rfl, fun w hSw => by go_simp⟩
          try simp only [Act.put, List.setIfInBounds_toArray, List.set_cons_zero, List.set_cons_succ]
          refine wpAnyH_done (by kernel_rfl) ?_ _
          have b13 : Below w11.heap.size w11 w13 := B13.out
          have HL13 : Hid (LE w v k pr a sk sx sy w13) := HL11.out.kept b13 HL11.out.size
          have HA13 : Hid (w13.heap[XA]? = some (.cells #[.slice xa xm xc] 32 (0, 0))) := (b13.block _ (Array.getElem?_eq_some_iff.1 HA11.out).1).trans HA11.out
          have OA13 : Hid (OwnP w13 nA tA (.slice xa xm xc) Q) := ownP_kept OA11.out b13
          have HX13 : Hid (w13.heap[XX]? = some (.cells #[.slice pa pm pc] 32 (0, 0))) := (b13.block _ (Array.getElem?_eq_some_iff.1 HX11.out).1).trans HX11.out
          have OX13 : Hid (OwnP w13 nX tX (.slice pa pm pc) ps) := ownP_kept OX11.out b13
          have HG13 : Hid (w13.heap[XG]? = some (.cells #[.slice ga gm gc] 32 (0, 0))) := (b13.block _ (Array.getElem?_eq_some_iff.1 HG11.out).1).trans HG11.out
          have OG13 : Hid (Own13 w13 nG (.slice ga gm gc) gs Q) := OG11.out.kept b13
          clear b13 b13' B12 B13 OY p0 cX lP10 lX10
          obtain ⟨cX, -⟩ := one_cell HX13.out
          go_wp2_with fail
          go_at_call 11
          refine (markProgram ps _ nX tX w13 hl' hp' OX13.out).mono ?_
          rintro r w14 ⟨r0, rfl, hr0, m14⟩
          have HL14 : Hid (LE w v k pr a sk sx sy w14) := LE.marks HL13.out m14 (by omega)
          have HA14 : Hid (w14.heap[XA]? = some (.cells #[.slice xa xm xc] 32 (0, 0))) := (m14.out _ (Array.getElem?_eq_some_iff.1 HA13.out).1 (.inl (by omega))).trans HA13.out
          have OA14 : Hid (OwnP w14 nA tA (.slice xa xm xc) Q) := ownP_marks OA13.out m14 (.inl (by omega))
          have HG14 : Hid (w14.heap[XG]? = some (.cells #[.slice ga gm gc] 32 (0, 0))) := (m14.out _ (Array.getElem?_eq_some_iff.1 HG13.out).1 (.inr (by omega))).trans HG13.out
          have OG14 : Hid (Own13 w14 nG (.slice ga gm gc) gs Q) := OG13.out.marks m14 (fun k hk _ => .inr (by omega))
          clear cX m14
          obtain ⟨cG, -⟩ := one_cell HG14.out
          obtain ⟨cA, -⟩ := one_cell HA14.out
          have hk0 : (decide (r0 < 0)) = false := by simp; omega
          go_wp2_with fail
          go_at_call 10
          refine (eqProgram Q _ _ w14 hqm1 hqm2 (readsP_own OG14.out.ownP) (readsP_own OA14.out)).mono ?_
          rintro r w15 ⟨rfl, b15⟩
          have HL15 : Hid (LE w v k pr a sk sx sy w15) := HL14.out.kept b15 HL14.out.size
          have HA15 : Hid (w15.heap[XA]? = some (.cells #[.slice xa xm xc] 32 (0, 0))) := (b15.block _ (Array.getElem?_eq_some_iff.1 HA14.out).1).trans HA14.out
          have OA15 : Hid (OwnP w15 nA tA (.slice xa xm xc) Q) := ownP_kept OA14.out b15
          have HG15 : Hid (w15.heap[XG]? = some (.cells #[.slice ga gm gc] 32 (0, 0))) := (b15.block _ (Array.getElem?_eq_some_iff.1 HG14.out).1).trans HG14.out
          have OG15 : Hid (Own13 w15 nG (.slice ga gm gc) gs Q) := OG14.out.kept b15
          clear cG cA b15
          obtain ⟨cG, -⟩ := one_cell HG15.out
          go_wp2_with fail
          go_at_call 11
          refine (markProgramX Q _ nG gs w15 hq1 hq2 OG15.out (by have := (Array.getElem?_eq_some_iff.1 HG15.out).1; omega)).mono ?_
          rintro r w16 ⟨rfl, og16, b16, t16⟩
          have HL16 : Hid (LE w v k pr a sk sx sy w16) := HL15.out.kept b16 (by omega)
          have HA16 : Hid (w16.heap[XA]? = some (.cells #[.slice xa xm xc] 32 (0, 0))) := (b16.block _ (by omega)).trans HA15.out
          have OA16 : Hid (OwnP w16 nA tA (.slice xa xm xc) Q) := ownP_belowB OA15.out b16 (by omega)
          have HG16 : Hid (w16.heap[XG]? = some (.cells #[.slice ga gm gc] 32 (0, 0))) := t16 _ _ _ _ HG15.out (by decide)
          have OG16 : Hid (Own13 w16 nG (.slice ga gm gc) gs (marks13 1 Q)) := og16
          clear cG og16 b16 t16
          obtain ⟨cG, -⟩ := one_cell HG16.out
          have hk1 : (decide ((1 : Int) + 3 * (tot13 Q : Int) < 0)) = false := by simp; omega
          go_wp2_with fail
          go_at_call 12
          refine (heldProgramX Q _ nG gs w16 hq1 hq2 OG16.out).mono ?_
          rintro r w17 ⟨rfl, b17⟩
          have HL17 : Hid (LE w v k pr a sk sx sy w17) := HL16.out.kept b17 HL16.out.size
          have HA17 : Hid (w17.heap[XA]? = some (.cells #[.slice xa xm xc] 32 (0, 0))) := (b17.block _ (Array.getElem?_eq_some_iff.1 HA16.out).1).trans HA16.out
          have OA17 : Hid (OwnP w17 nA tA (.slice xa xm xc) Q) := ownP_kept OA16.out b17
          have HG17 : Hid (w17.heap[XG]? = some (.cells #[.slice ga gm gc] 32 (0, 0))) := (b17.block _ (Array.getElem?_eq_some_iff.1 HG16.out).1).trans HG16.out
          have OG17 : Hid (Own13 w17 nG (.slice ga gm gc) gs (marks13 1 Q)) := OG16.out.kept b17
          clear cG b17
          obtain ⟨⟨p0, e0, e1, e2, e3, e4, e5⟩, -, -⟩ := HL17.out.cells
          go_wp2_with fail
          obtain ⟨n1, hn1⟩ : ∃ n1, w17.heap.size = n1 := ⟨_, rfl⟩
          have HN1 : Hid (w17.heap.size = n1) := hn1
          have lW : w.heap.size ≤ n1 := by (have := HL17.out.size; omega)
          have lP : w.heap.size < n1 := by (have := HL17.out.size; omega)
          have lE : w.heap.size + 1 < n1 := by (have := HL17.out.size; omega)
          have lS : w.heap.size + 2 ≤ n1 := by (have := HL17.out.size; omega)
          clear hn1
          refine later13 (F := fun X (u : Value) x wf => wf.heap[X]? = some (.cells #[x] 32 (0, 0)) ∧ n1 ≤ X ∧ Below n1 w17 wf ∧ ∃ us, Own13 wf n1 (x) us Q) (R := ?Rqh) (fun hk => ?tqh) ?restqh
          case tqh =>
            refine wp_region_held_drew (S := fun w' => w'.cell? ⟨w.heap.size, 0, none⟩ = some v ∧ w'.cell? ⟨w.heap.size + 1, 0, none⟩ = some (.int .i64 k) ∧ w'.cell? ⟨w.heap.size + 1, 1, none⟩ = some (.int .i64 pr) ∧ w'.cell? ⟨w.heap.size + 1, 2, none⟩ = some (.int .i64 a) ∧ w'.cell? ⟨w.heap.size + 1, 3, none⟩ = some (.int .i64 sk) ∧ w'.cell? ⟨w.heap.size + 1, 4, none⟩ = some (.int .i64 sx) ∧ w'.cell? ⟨w.heap.size + 1, 5, none⟩ = some (.int .i64 sy)) (by kernel_rfl) ⟨p0, e0, e1, e2, e3, e4, e5⟩ (fun hHeld => ?_)
            refine wpAnyH_take (i := 0) (oi := ?oiqh0) (v := .agg #[v]) ?hiqh0 (by kernel_rfl) (by kernel_rfl) (by kernel_rfl) ?hqqh0 ?hyqh0 hHeld ?hrqh0
            case hiqh0 =>
              simp only [List.getElem?_toArray, List.getElem?_cons_succ, List.getElem?_cons_zero]
              rfl
            case hqqh0 => exact fun _ _ _ h => h
            case hyqh0 => exact Or.inl ⟨by kernel_rfl, fun w hSw => by obtain ⟨s0, s1, s2, s3, s4, s5, s6⟩ := hSw; go_simp⟩
            try simp only [Act.put, List.setIfInBounds_toArray, List.set_cons_zero, List.set_cons_succ]
            refine wpAnyH_take (i := 2) (oi := ?oiqh2) (v := .agg #[.int .i64 k, .int .i64 pr, .int .i64 a, .int .i64 sk, .int .i64 sx, .int .i64 sy]) ?hiqh2 (by kernel_rfl) (by kernel_rfl) (by kernel_rfl) ?hqqh2 ?hyqh2 hHeld ?hrqh2
            case hiqh2 =>
              simp only [List.getElem?_toArray, List.getElem?_cons_succ, List.getElem?_cons_zero]
              rfl
            case hqqh2 => exact fun _ _ _ h => h
            case hyqh2 => exact Or.inl ⟨by kernel_rfl, fun w hSw => by obtain ⟨s0, s1, s2, s3, s4, s5, s6⟩ := hSw; go_simp⟩
            try simp only [Act.put, List.setIfInBounds_toArray, List.set_cons_zero, List.set_cons_succ]
            refine wpAnyH_ready (rs := [1, 8]) (by kernel_rfl) (by simp) ?_
            refine (AllReadyH.cons (o := ?ooqh1) ?hoqh1 (fun K hK => ?hkqh1) (AllReadyH.cons (o := ?ooqh8) ?hoqh8 (fun K hK => ?hkqh8) AllReadyH.nil))
            case hoqh1 =>
              simp only [List.getElem?_toArray, List.getElem?_cons_succ, List.getElem?_cons_zero]
              rfl
            case hoqh8 =>
              simp only [List.getElem?_toArray, List.getElem?_cons_succ, List.getElem?_cons_zero]
              rfl
            case hkqh1 =>
              go_simp
              go_at_call 7
              refine (htp _ (readsP_below hv HL17.out.below.drew)).mono ?_
              rintro r qh0 ⟨u, rfl, ou, b_qh0⟩
              have B_qh0 : Hid (Below n1 w17 qh0) := Below.trans (Below.drew (Below.refl n1 w17)) (b_qh0.mono (Nat.le_of_eq HN1.out.symm))
              have OU_qh0 : Hid _ := ou
              clear ou
              try go_wp2_with fail
              refine hK.out _ _ ⟨(B_qh0.out.cell lP).trans p0, (B_qh0.out.cell lE).trans e0, (B_qh0.out.cell lE).trans e1, (B_qh0.out.cell lE).trans e2, (B_qh0.out.cell lE).trans e3, (B_qh0.out.cell lE).trans e4, (B_qh0.out.cell lE).trans e5⟩ (fun hHeld => ?_)
              clear hK K
              try simp only [Act.put, List.setIfInBounds_toArray, List.set_cons_zero, List.set_cons_succ]
              refine wpAnyH_ready (rs := [3, 8]) (by kernel_rfl) (by simp) ?_
              refine (AllReadyH.cons (o := ?ooqha3) ?hoqha3 (fun K hK => ?hkqha3) (AllReadyH.cons (o := ?ooqha8) ?hoqha8 (fun K hK => ?hkqha8) AllReadyH.nil))
              case hoqha3 =>
                simp only [List.getElem?_toArray, List.getElem?_cons_succ, List.getElem?_cons_zero]
                rfl
              case hoqha8 =>
                simp only [List.getElem?_toArray, List.getElem?_cons_succ, List.getElem?_cons_zero]
                rfl
              case hkqha3 =>
                go_simp
                go_at_call 8
                refine (hte _).mono ?_
                rintro r qh1 ⟨rfl, b_qh1⟩
                have B_qh1 : Hid (Below n1 w17 qh1) := B_qh0.out.trans (b_qh1.mono (Nat.le_trans (Nat.le_of_eq HN1.out.symm) B_qh0.out.size))
                have OU_qh1 : Hid _ := ownP_kept OU_qh0.out b_qh1
                try go_wp2_with fail
                refine hK.out _ _ ⟨(B_qh1.out.cell lP).trans p0, (B_qh1.out.cell lE).trans e0, (B_qh1.out.cell lE).trans e1, (B_qh1.out.cell lE).trans e2, (B_qh1.out.cell lE).trans e3, (B_qh1.out.cell lE).trans e4, (B_qh1.out.cell lE).trans e5⟩ (fun hHeld => ?_)
                clear hK K
                try simp only [Act.put, List.setIfInBounds_toArray, List.set_cons_zero, List.set_cons_succ]
                refine wpAnyH_ready (rs := [4, 8]) (by kernel_rfl) (by simp) ?_
                refine (AllReadyH.cons (o := ?ooqhaa4) ?hoqhaa4 (fun K hK => ?hkqhaa4) (AllReadyH.cons (o := ?ooqhaa8) ?hoqhaa8 (fun K hK => ?hkqhaa8) AllReadyH.nil))
                case hoqhaa4 =>
                  simp only [List.getElem?_toArray, List.getElem?_cons_succ, List.getElem?_cons_zero]
                  rfl
                case hoqhaa8 =>
                  simp only [List.getElem?_toArray, List.getElem?_cons_succ, List.getElem?_cons_zero]
                  rfl
                case hkqhaa4 =>
                  go_simp
                  go_at_call 9
                  refine (him _ _ (readsP_own OU_qh1.out)).mono ?_
                  rintro r qh2 ⟨x0, as0, rfl, oa, b_qh2⟩
                  have B_qh2 : Hid (Below n1 w17 qh2) := B_qh1.out.trans (b_qh2.mono (Nat.le_trans (Nat.le_of_eq HN1.out.symm) B_qh1.out.size))
                  obtain ⟨xa, xm, xc, hx0⟩ := own_slice oa.row
                  subst hx0
                  have OA_qh2 : Hid (Own13 qh2 n1 (.slice xa xm xc) as0 Q) := oa.mono (Nat.le_trans (Nat.le_of_eq HN1.out.symm) B_qh1.out.size)
                  clear oa
                  try go_wp2_with fail
                  refine hK.out _ _ ⟨(B_qh2.out.cell lP).trans p0, (B_qh2.out.cell lE).trans e0, (B_qh2.out.cell lE).trans e1, (B_qh2.out.cell lE).trans e2, (B_qh2.out.cell lE).trans e3, (B_qh2.out.cell lE).trans e4, (B_qh2.out.cell lE).trans e5⟩ (fun hHeld => ?_)
                  clear hK K
                  try simp only [Act.put, List.setIfInBounds_toArray, List.set_cons_zero, List.set_cons_succ]
                  refine wpAnyH_take (i := 5) (oi := ?oiqhaaa5) (v := .tuple #[.agg #[.slice xa xm xc], .bool bb]) ?hiqhaaa5 (by kernel_rfl) (by kernel_rfl) (by kernel_rfl) ?hqqhaaa5 ?hyqhaaa5 hHeld ?hrqhaaa5
                  case hiqhaaa5 =>
                    simp only [List.getElem?_toArray, List.getElem?_cons_succ, List.getElem?_cons_zero]
                    rfl
                  case hqqhaaa5 => exact fun _ _ _ h => h
                  case hyqhaaa5 => exact Or.inl ⟨by kernel_rfl, fun w hSw => by go_simp⟩
                  try simp only [Act.put, List.setIfInBounds_toArray, List.set_cons_zero, List.set_cons_succ]
                  refine wpAnyH_take (i := 6) (oi := ?oiqhaaa6) (v := .agg #[.slice xa xm xc]) ?hiqhaaa6 (by kernel_rfl) (by kernel_rfl) (by kernel_rfl) ?hqqhaaa6 ?hyqhaaa6 hHeld ?hrqhaaa6
                  case hiqhaaa6 =>
                    simp only [List.getElem?_toArray, List.getElem?_cons_succ, List.getElem?_cons_zero]
                    rfl
                  case hqqhaaa6 => exact fun _ _ _ h => h
                  case hyqhaaa6 => exact Or.inl ⟨by kernel_rfl, fun w hSw => by go_simp⟩
                  try simp only [Act.put, List.setIfInBounds_toArray, List.set_cons_zero, List.set_cons_succ]
                  refine wpAnyH_take (i := 7) (oi := ?oiqhaaa7) (v := .bool bb) ?hiqhaaa7 (by kernel_rfl) (by kernel_rfl) (by kernel_rfl) ?hqqhaaa7 ?hyqhaaa7 hHeld ?hrqhaaa7
                  case hiqhaaa7 =>
                    simp only [List.getElem?_toArray, List.getElem?_cons_succ, List.getElem?_cons_zero]
                    rfl
                  case hqqhaaa7 => exact fun _ _ _ h => h
                  case hyqhaaa7 => exact Or.inl ⟨by kernel_rfl, fun w hSw => by go_simp⟩
                  try simp only [Act.put, List.setIfInBounds_toArray, List.set_cons_zero, List.set_cons_succ]
                  refine wpAnyH_ready (rs := [8]) (by kernel_rfl) (by simp) ?_
                  refine (AllReadyH.cons (o := ?ooqhaaa8) ?hoqhaaa8 (fun K hK => ?hkqhaaa8) AllReadyH.nil)
                  case hoqhaaa8 =>
                    simp only [List.getElem?_toArray, List.getElem?_cons_succ, List.getElem?_cons_zero]
                    rfl
                  case hkqhaaa8 =>
                    go_simp
                    try go_wp2_with fail
                    have b_qhx : Below qh2.heap.size qh2 (qh2.alloc (.cells #[.slice none 0 0] 32)) := by go_grown
                    have B_qhx : Hid (Below n1 w17 (qh2.alloc (.cells #[.slice none 0 0] 32))) := B_qh2.out.trans (b_qhx.mono (Nat.le_trans (Nat.le_of_eq HN1.out.symm) B_qh2.out.size))
                    have HX_qhx : Hid ((qh2.alloc (.cells #[.slice none 0 0] 32)).heap[qh2.heap.size]? = some (.cells #[.slice none 0 0] 32 (0, 0))) := heap_alloc_new qh2 _
                    have OA_qhx : Hid (Own13 (qh2.alloc (.cells #[.slice none 0 0] 32)) n1 (.slice xa xm xc) as0 Q) := OA_qh2.out.kept b_qhx
                    generalize hz9 : (qh2.alloc (.cells #[.slice none 0 0] 32)) = qhx at *
                    clear hz9
                    refine hK.out _ _ ⟨(B_qhx.out.cell lP).trans p0, (B_qhx.out.cell lE).trans e0, (B_qhx.out.cell lE).trans e1, (B_qhx.out.cell lE).trans e2, (B_qhx.out.cell lE).trans e3, (B_qhx.out.cell lE).trans e4, (B_qhx.out.cell lE).trans e5⟩ (fun hHeld => ?_)
                    clear hK K
                    try simp only [Act.put, List.setIfInBounds_toArray, List.set_cons_zero, List.set_cons_succ]
                    refine wpAnyH_ready (rs := [9]) (by kernel_rfl) (by simp) ?_
                    refine (AllReadyH.cons (o := ?ooqhaaa9) ?hoqhaaa9 (fun K hK => ?hkqhaaa9) AllReadyH.nil)
                    case hoqhaaa9 =>
                      simp only [List.getElem?_toArray, List.getElem?_cons_succ, List.getElem?_cons_zero]
                      rfl
                    case hkqhaaa9 =>
                      obtain ⟨cXn, fXn⟩ := one_cell HX_qhx.out
                      go_simp
                      try go_wp2_with fail
                      have BS : Hid (Below n1 w17 (qhx.setCell ⟨qh2.heap.size, 0, none⟩ (.slice xa xm xc))) := B_qhx.out.setCell (Nat.le_trans (Nat.le_of_eq HN1.out.symm) B_qh2.out.size) _
                      refine hK.out _ _ ⟨(BS.out.cell lP).trans p0, (BS.out.cell lE).trans e0, (BS.out.cell lE).trans e1, (BS.out.cell lE).trans e2, (BS.out.cell lE).trans e3, (BS.out.cell lE).trans e4, (BS.out.cell lE).trans e5⟩ (fun hHeld => ?_)
                      clear hK K
                      try simp only [Act.put, List.setIfInBounds_toArray, List.set_cons_zero, List.set_cons_succ]
                      refine wpAnyH_take (i := 10) (oi := ?oiqhaaa10) (v := .bool bb) ?hiqhaaa10 (by kernel_rfl) (by kernel_rfl) (by kernel_rfl) ?hqqhaaa10 ?hyqhaaa10 hHeld ?hrqhaaa10
                      case hiqhaaa10 =>
                        simp only [List.getElem?_toArray, List.getElem?_cons_succ, List.getElem?_cons_zero]
                        rfl
                      case hqqhaaa10 => exact fun _ _ _ h => h
                      case hyqhaaa10 => exact Or.inl ⟨by kernel_rfl, fun w hSw => by go_simp⟩
                      try simp only [Act.put, List.setIfInBounds_toArray, List.set_cons_zero, List.set_cons_succ]
                      refine wpAnyH_done (by kernel_rfl) ?_ _
                      have HF : (qhx.setCell ⟨qh2.heap.size, 0, none⟩ (.slice xa xm xc)).heap[qh2.heap.size]? = some (.cells #[.slice xa xm xc] 32 (0, 0)) ∧ n1 ≤ qh2.heap.size ∧ Below n1 w17 (qhx.setCell ⟨qh2.heap.size, 0, none⟩ (.slice xa xm xc)) ∧ ∃ us, Own13 (qhx.setCell ⟨qh2.heap.size, 0, none⟩ (.slice xa xm xc)) n1 (.slice xa xm xc) us Q := ⟨one_set HX_qhx.out _, (Nat.le_trans (Nat.le_of_eq HN1.out.symm) B_qh2.out.size), BS.out, as0, OA_qhx.out.grown (grown_setRow13 _ _ _ _) (fun k hk => by (obtain rfl := Option.some.inj hk; exact .inr ⟨_, _, _, HX_qhx.out, by decide, by decide⟩))⟩
                      generalize qhx.setCell ⟨qh2.heap.size, 0, none⟩ (.slice xa xm xc) = wf at HF ⊢
                      generalize Value.slice xa xm xc = x0 at HF ⊢
                      generalize qh2.heap.size = X at HF ⊢
                      exact hk X u x0 wf HF
                case hkqhaa8 =>
                  go_simp
                  try go_wp2_with fail
                  have b_qhx : Below qh1.heap.size qh1 (qh1.alloc (.cells #[.slice none 0 0] 32)) := by go_grown
                  have B_qhx : Hid (Below n1 w17 (qh1.alloc (.cells #[.slice none 0 0] 32))) := B_qh1.out.trans (b_qhx.mono (Nat.le_trans (Nat.le_of_eq HN1.out.symm) B_qh1.out.size))
                  have HX_qhx : Hid ((qh1.alloc (.cells #[.slice none 0 0] 32)).heap[qh1.heap.size]? = some (.cells #[.slice none 0 0] 32 (0, 0))) := heap_alloc_new qh1 _
                  have OU_qhx : Hid _ := ownP_kept OU_qh1.out b_qhx
                  generalize hz9 : (qh1.alloc (.cells #[.slice none 0 0] 32)) = qhx at *
                  clear hz9
                  refine hK.out _ _ ⟨(B_qhx.out.cell lP).trans p0, (B_qhx.out.cell lE).trans e0, (B_qhx.out.cell lE).trans e1, (B_qhx.out.cell lE).trans e2, (B_qhx.out.cell lE).trans e3, (B_qhx.out.cell lE).trans e4, (B_qhx.out.cell lE).trans e5⟩ (fun hHeld => ?_)
                  clear hK K
                  try simp only [Act.put, List.setIfInBounds_toArray, List.set_cons_zero, List.set_cons_succ]
                  refine wpAnyH_ready (rs := [4]) (by kernel_rfl) (by simp) ?_
                  refine (AllReadyH.cons (o := ?ooqhaab4) ?hoqhaab4 (fun K hK => ?hkqhaab4) AllReadyH.nil)
                  case hoqhaab4 =>
                    simp only [List.getElem?_toArray, List.getElem?_cons_succ, List.getElem?_cons_zero]
                    rfl
                  case hkqhaab4 =>
                    go_simp
                    go_at_call 9
                    refine (him _ _ (readsP_own OU_qhx.out)).mono ?_
                    rintro r qh2 ⟨x0, as0, rfl, oa, b_qh2⟩
                    have B_qh2 : Hid (Below n1 w17 qh2) := B_qhx.out.trans (b_qh2.mono (Nat.le_trans (Nat.le_of_eq HN1.out.symm) B_qhx.out.size))
                    obtain ⟨xa, xm, xc, hx0⟩ := own_slice oa.row
                    subst hx0
                    have OA_qh2 : Hid (Own13 qh2 n1 (.slice xa xm xc) as0 Q) := oa.mono (Nat.le_trans (Nat.le_of_eq HN1.out.symm) B_qhx.out.size)
                    clear oa
                    have HX_qh2 : Hid (qh2.heap[qh1.heap.size]? = some (.cells #[.slice none 0 0] 32 (0, 0))) := (b_qh2.block _ (Array.getElem?_eq_some_iff.1 HX_qhx.out).1).trans HX_qhx.out
                    try go_wp2_with fail
                    refine hK.out _ _ ⟨(B_qh2.out.cell lP).trans p0, (B_qh2.out.cell lE).trans e0, (B_qh2.out.cell lE).trans e1, (B_qh2.out.cell lE).trans e2, (B_qh2.out.cell lE).trans e3, (B_qh2.out.cell lE).trans e4, (B_qh2.out.cell lE).trans e5⟩ (fun hHeld => ?_)
                    clear hK K
                    try simp only [Act.put, List.setIfInBounds_toArray, List.set_cons_zero, List.set_cons_succ]
                    refine wpAnyH_take (i := 5) (oi := ?oiqhaab5) (v := .tuple #[.agg #[.slice xa xm xc], .bool bb]) ?hiqhaab5 (by kernel_rfl) (by kernel_rfl) (by kernel_rfl) ?hqqhaab5 ?hyqhaab5 hHeld ?hrqhaab5
                    case hiqhaab5 =>
                      simp only [List.getElem?_toArray, List.getElem?_cons_succ, List.getElem?_cons_zero]
                      rfl
                    case hqqhaab5 => exact fun _ _ _ h => h
                    case hyqhaab5 => exact Or.inl ⟨by kernel_rfl, fun w hSw => by go_simp⟩
                    try simp only [Act.put, List.setIfInBounds_toArray, List.set_cons_zero, List.set_cons_succ]
                    refine wpAnyH_take (i := 6) (oi := ?oiqhaab6) (v := .agg #[.slice xa xm xc]) ?hiqhaab6 (by kernel_rfl) (by kernel_rfl) (by kernel_rfl) ?hqqhaab6 ?hyqhaab6 hHeld ?hrqhaab6
                    case hiqhaab6 =>
                      simp only [List.getElem?_toArray, List.getElem?_cons_succ, List.getElem?_cons_zero]
                      rfl
                    case hqqhaab6 => exact fun _ _ _ h => h
                    case hyqhaab6 => exact Or.inl ⟨by kernel_rfl, fun w hSw => by go_simp⟩
                    try simp only [Act.put, List.setIfInBounds_toArray, List.set_cons_zero, List.set_cons_succ]
                    refine wpAnyH_take (i := 7) (oi := ?oiqhaab7) (v := .bool bb) ?hiqhaab7 (by kernel_rfl) (by kernel_rfl) (by kernel_rfl) ?hqqhaab7 ?hyqhaab7 hHeld ?hrqhaab7
                    case hiqhaab7 =>
                      simp only [List.getElem?_toArray, List.getElem?_cons_succ, List.getElem?_cons_zero]
                      rfl
                    case hqqhaab7 => exact fun _ _ _ h => h
                    case hyqhaab7 => exact Or.inl ⟨by kernel_rfl, fun w hSw => by go_simp⟩
                    try simp only [Act.put, List.setIfInBounds_toArray, List.set_cons_zero, List.set_cons_succ]
                    refine wpAnyH_ready (rs := [9]) (by kernel_rfl) (by simp) ?_
                    refine (AllReadyH.cons (o := ?ooqhaab9) ?hoqhaab9 (fun K hK => ?hkqhaab9) AllReadyH.nil)
                    case hoqhaab9 =>
                      simp only [List.getElem?_toArray, List.getElem?_cons_succ, List.getElem?_cons_zero]
                      rfl
                    case hkqhaab9 =>
                      obtain ⟨cXn, fXn⟩ := one_cell HX_qh2.out
                      go_simp
                      try go_wp2_with fail
                      have BS : Hid (Below n1 w17 (qh2.setCell ⟨qh1.heap.size, 0, none⟩ (.slice xa xm xc))) := B_qh2.out.setCell (Nat.le_trans (Nat.le_of_eq HN1.out.symm) B_qh1.out.size) _
                      refine hK.out _ _ ⟨(BS.out.cell lP).trans p0, (BS.out.cell lE).trans e0, (BS.out.cell lE).trans e1, (BS.out.cell lE).trans e2, (BS.out.cell lE).trans e3, (BS.out.cell lE).trans e4, (BS.out.cell lE).trans e5⟩ (fun hHeld => ?_)
                      clear hK K
                      try simp only [Act.put, List.setIfInBounds_toArray, List.set_cons_zero, List.set_cons_succ]
                      refine wpAnyH_take (i := 10) (oi := ?oiqhaab10) (v := .bool bb) ?hiqhaab10 (by kernel_rfl) (by kernel_rfl) (by kernel_rfl) ?hqqhaab10 ?hyqhaab10 hHeld ?hrqhaab10
                      case hiqhaab10 =>
                        simp only [List.getElem?_toArray, List.getElem?_cons_succ, List.getElem?_cons_zero]
                        rfl
                      case hqqhaab10 => exact fun _ _ _ h => h
                      case hyqhaab10 => exact Or.inl ⟨by kernel_rfl, fun w hSw => by go_simp⟩
                      try simp only [Act.put, List.setIfInBounds_toArray, List.set_cons_zero, List.set_cons_succ]
                      refine wpAnyH_done (by kernel_rfl) ?_ _
                      have HF : (qh2.setCell ⟨qh1.heap.size, 0, none⟩ (.slice xa xm xc)).heap[qh1.heap.size]? = some (.cells #[.slice xa xm xc] 32 (0, 0)) ∧ n1 ≤ qh1.heap.size ∧ Below n1 w17 (qh2.setCell ⟨qh1.heap.size, 0, none⟩ (.slice xa xm xc)) ∧ ∃ us, Own13 (qh2.setCell ⟨qh1.heap.size, 0, none⟩ (.slice xa xm xc)) n1 (.slice xa xm xc) us Q := ⟨one_set HX_qh2.out _, (Nat.le_trans (Nat.le_of_eq HN1.out.symm) B_qh1.out.size), BS.out, as0, OA_qh2.out.grown (grown_setRow13 _ _ _ _) (fun k hk => by (obtain rfl := Option.some.inj hk; exact .inr ⟨_, _, _, HX_qh2.out, by decide, by decide⟩))⟩
                      generalize qh2.setCell ⟨qh1.heap.size, 0, none⟩ (.slice xa xm xc) = wf at HF ⊢
                      generalize Value.slice xa xm xc = x0 at HF ⊢
                      generalize qh1.heap.size = X at HF ⊢
                      exact hk X u x0 wf HF
              case hkqha8 =>
                go_simp
                try go_wp2_with fail
                have b_qhx : Below qh0.heap.size qh0 (qh0.alloc (.cells #[.slice none 0 0] 32)) := by go_grown
                have B_qhx : Hid (Below n1 w17 (qh0.alloc (.cells #[.slice none 0 0] 32))) := B_qh0.out.trans (b_qhx.mono (Nat.le_trans (Nat.le_of_eq HN1.out.symm) B_qh0.out.size))
                have HX_qhx : Hid ((qh0.alloc (.cells #[.slice none 0 0] 32)).heap[qh0.heap.size]? = some (.cells #[.slice none 0 0] 32 (0, 0))) := heap_alloc_new qh0 _
                have OU_qhx : Hid _ := ownP_kept OU_qh0.out b_qhx
                generalize hz9 : (qh0.alloc (.cells #[.slice none 0 0] 32)) = qhx at *
                clear hz9
                refine hK.out _ _ ⟨(B_qhx.out.cell lP).trans p0, (B_qhx.out.cell lE).trans e0, (B_qhx.out.cell lE).trans e1, (B_qhx.out.cell lE).trans e2, (B_qhx.out.cell lE).trans e3, (B_qhx.out.cell lE).trans e4, (B_qhx.out.cell lE).trans e5⟩ (fun hHeld => ?_)
                clear hK K
                try simp only [Act.put, List.setIfInBounds_toArray, List.set_cons_zero, List.set_cons_succ]
                refine wpAnyH_ready (rs := [3]) (by kernel_rfl) (by simp) ?_
                refine (AllReadyH.cons (o := ?ooqhab3) ?hoqhab3 (fun K hK => ?hkqhab3) AllReadyH.nil)
                case hoqhab3 =>
                  simp only [List.getElem?_toArray, List.getElem?_cons_succ, List.getElem?_cons_zero]
                  rfl
                case hkqhab3 =>
                  go_simp
                  go_at_call 8
                  refine (hte _).mono ?_
                  rintro r qh1 ⟨rfl, b_qh1⟩
                  have B_qh1 : Hid (Below n1 w17 qh1) := B_qhx.out.trans (b_qh1.mono (Nat.le_trans (Nat.le_of_eq HN1.out.symm) B_qhx.out.size))
                  have OU_qh1 : Hid _ := ownP_kept OU_qhx.out b_qh1
                  have HX_qh1 : Hid (qh1.heap[qh0.heap.size]? = some (.cells #[.slice none 0 0] 32 (0, 0))) := (b_qh1.block _ (Array.getElem?_eq_some_iff.1 HX_qhx.out).1).trans HX_qhx.out
                  try go_wp2_with fail
                  refine hK.out _ _ ⟨(B_qh1.out.cell lP).trans p0, (B_qh1.out.cell lE).trans e0, (B_qh1.out.cell lE).trans e1, (B_qh1.out.cell lE).trans e2, (B_qh1.out.cell lE).trans e3, (B_qh1.out.cell lE).trans e4, (B_qh1.out.cell lE).trans e5⟩ (fun hHeld => ?_)
                  clear hK K
                  try simp only [Act.put, List.setIfInBounds_toArray, List.set_cons_zero, List.set_cons_succ]
                  refine wpAnyH_ready (rs := [4]) (by kernel_rfl) (by simp) ?_
                  refine (AllReadyH.cons (o := ?ooqhab4) ?hoqhab4 (fun K hK => ?hkqhab4) AllReadyH.nil)
                  case hoqhab4 =>
                    simp only [List.getElem?_toArray, List.getElem?_cons_succ, List.getElem?_cons_zero]
                    rfl
                  case hkqhab4 =>
                    go_simp
                    go_at_call 9
                    refine (him _ _ (readsP_own OU_qh1.out)).mono ?_
                    rintro r qh2 ⟨x0, as0, rfl, oa, b_qh2⟩
                    have B_qh2 : Hid (Below n1 w17 qh2) := B_qh1.out.trans (b_qh2.mono (Nat.le_trans (Nat.le_of_eq HN1.out.symm) B_qh1.out.size))
                    obtain ⟨xa, xm, xc, hx0⟩ := own_slice oa.row
                    subst hx0
                    have OA_qh2 : Hid (Own13 qh2 n1 (.slice xa xm xc) as0 Q) := oa.mono (Nat.le_trans (Nat.le_of_eq HN1.out.symm) B_qh1.out.size)
                    clear oa
                    have HX_qh2 : Hid (qh2.heap[qh0.heap.size]? = some (.cells #[.slice none 0 0] 32 (0, 0))) := (b_qh2.block _ (Array.getElem?_eq_some_iff.1 HX_qh1.out).1).trans HX_qh1.out
                    try go_wp2_with fail
                    refine hK.out _ _ ⟨(B_qh2.out.cell lP).trans p0, (B_qh2.out.cell lE).trans e0, (B_qh2.out.cell lE).trans e1, (B_qh2.out.cell lE).trans e2, (B_qh2.out.cell lE).trans e3, (B_qh2.out.cell lE).trans e4, (B_qh2.out.cell lE).trans e5⟩ (fun hHeld => ?_)
                    clear hK K
                    try simp only [Act.put, List.setIfInBounds_toArray, List.set_cons_zero, List.set_cons_succ]
                    refine wpAnyH_take (i := 5) (oi := ?oiqhab5) (v := .tuple #[.agg #[.slice xa xm xc], .bool bb]) ?hiqhab5 (by kernel_rfl) (by kernel_rfl) (by kernel_rfl) ?hqqhab5 ?hyqhab5 hHeld ?hrqhab5
                    case hiqhab5 =>
                      simp only [List.getElem?_toArray, List.getElem?_cons_succ, List.getElem?_cons_zero]
                      rfl
                    case hqqhab5 => exact fun _ _ _ h => h
                    case hyqhab5 => exact Or.inl ⟨by kernel_rfl, fun w hSw => by go_simp⟩
                    try simp only [Act.put, List.setIfInBounds_toArray, List.set_cons_zero, List.set_cons_succ]
                    refine wpAnyH_take (i := 6) (oi := ?oiqhab6) (v := .agg #[.slice xa xm xc]) ?hiqhab6 (by kernel_rfl) (by kernel_rfl) (by kernel_rfl) ?hqqhab6 ?hyqhab6 hHeld ?hrqhab6
                    case hiqhab6 =>
                      simp only [List.getElem?_toArray, List.getElem?_cons_succ, List.getElem?_cons_zero]
                      rfl
                    case hqqhab6 => exact fun _ _ _ h => h
                    case hyqhab6 => exact Or.inl ⟨by kernel_rfl, fun w hSw => by go_simp⟩
                    try simp only [Act.put, List.setIfInBounds_toArray, List.set_cons_zero, List.set_cons_succ]
                    refine wpAnyH_take (i := 7) (oi := ?oiqhab7) (v := .bool bb) ?hiqhab7 (by kernel_rfl) (by kernel_rfl) (by kernel_rfl) ?hqqhab7 ?hyqhab7 hHeld ?hrqhab7
                    case hiqhab7 =>
                      simp only [List.getElem?_toArray, List.getElem?_cons_succ, List.getElem?_cons_zero]
                      rfl
                    case hqqhab7 => exact fun _ _ _ h => h
                    case hyqhab7 => exact Or.inl ⟨by kernel_rfl, fun w hSw => by go_simp⟩
                    try simp only [Act.put, List.setIfInBounds_toArray, List.set_cons_zero, List.set_cons_succ]
                    refine wpAnyH_ready (rs := [9]) (by kernel_rfl) (by simp) ?_
                    refine (AllReadyH.cons (o := ?ooqhab9) ?hoqhab9 (fun K hK => ?hkqhab9) AllReadyH.nil)
                    case hoqhab9 =>
                      simp only [List.getElem?_toArray, List.getElem?_cons_succ, List.getElem?_cons_zero]
                      rfl
                    case hkqhab9 =>
                      obtain ⟨cXn, fXn⟩ := one_cell HX_qh2.out
                      go_simp
                      try go_wp2_with fail
                      have BS : Hid (Below n1 w17 (qh2.setCell ⟨qh0.heap.size, 0, none⟩ (.slice xa xm xc))) := B_qh2.out.setCell (Nat.le_trans (Nat.le_of_eq HN1.out.symm) B_qh0.out.size) _
                      refine hK.out _ _ ⟨(BS.out.cell lP).trans p0, (BS.out.cell lE).trans e0, (BS.out.cell lE).trans e1, (BS.out.cell lE).trans e2, (BS.out.cell lE).trans e3, (BS.out.cell lE).trans e4, (BS.out.cell lE).trans e5⟩ (fun hHeld => ?_)
                      clear hK K
                      try simp only [Act.put, List.setIfInBounds_toArray, List.set_cons_zero, List.set_cons_succ]
                      refine wpAnyH_take (i := 10) (oi := ?oiqhab10) (v := .bool bb) ?hiqhab10 (by kernel_rfl) (by kernel_rfl) (by kernel_rfl) ?hqqhab10 ?hyqhab10 hHeld ?hrqhab10
                      case hiqhab10 =>
                        simp only [List.getElem?_toArray, List.getElem?_cons_succ, List.getElem?_cons_zero]
                        rfl
                      case hqqhab10 => exact fun _ _ _ h => h
                      case hyqhab10 => exact Or.inl ⟨by kernel_rfl, fun w hSw => by go_simp⟩
                      try simp only [Act.put, List.setIfInBounds_toArray, List.set_cons_zero, List.set_cons_succ]
                      refine wpAnyH_done (by kernel_rfl) ?_ _
                      have HF : (qh2.setCell ⟨qh0.heap.size, 0, none⟩ (.slice xa xm xc)).heap[qh0.heap.size]? = some (.cells #[.slice xa xm xc] 32 (0, 0)) ∧ n1 ≤ qh0.heap.size ∧ Below n1 w17 (qh2.setCell ⟨qh0.heap.size, 0, none⟩ (.slice xa xm xc)) ∧ ∃ us, Own13 (qh2.setCell ⟨qh0.heap.size, 0, none⟩ (.slice xa xm xc)) n1 (.slice xa xm xc) us Q := ⟨one_set HX_qh2.out _, (Nat.le_trans (Nat.le_of_eq HN1.out.symm) B_qh0.out.size), BS.out, as0, OA_qh2.out.grown (grown_setRow13 _ _ _ _) (fun k hk => by (obtain rfl := Option.some.inj hk; exact .inr ⟨_, _, _, HX_qh2.out, by decide, by decide⟩))⟩
                      generalize qh2.setCell ⟨qh0.heap.size, 0, none⟩ (.slice xa xm xc) = wf at HF ⊢
                      generalize Value.slice xa xm xc = x0 at HF ⊢
                      generalize qh0.heap.size = X at HF ⊢
                      exact hk X u x0 wf HF
            case hkqh8 =>
              go_simp
              try go_wp2_with fail
              have b_qhx : Below w17.heap.size w17 (w17.alloc (.cells #[.slice none 0 0] 32)).drew := by go_grown
              have B_qhx : Hid (Below n1 w17 (w17.alloc (.cells #[.slice none 0 0] 32)).drew) := b_qhx.mono (Nat.le_of_eq HN1.out.symm)
              have HX_qhx : Hid ((w17.alloc (.cells #[.slice none 0 0] 32)).drew.heap[w17.heap.size]? = some (.cells #[.slice none 0 0] 32 (0, 0))) := heap_alloc_new w17 _
              generalize hz9 : (w17.alloc (.cells #[.slice none 0 0] 32)).drew = qhx at *
              clear hz9
              refine hK.out _ _ ⟨(B_qhx.out.cell lP).trans p0, (B_qhx.out.cell lE).trans e0, (B_qhx.out.cell lE).trans e1, (B_qhx.out.cell lE).trans e2, (B_qhx.out.cell lE).trans e3, (B_qhx.out.cell lE).trans e4, (B_qhx.out.cell lE).trans e5⟩ (fun hHeld => ?_)
              clear hK K
              try simp only [Act.put, List.setIfInBounds_toArray, List.set_cons_zero, List.set_cons_succ]
              refine wpAnyH_ready (rs := [1]) (by kernel_rfl) (by simp) ?_
              refine (AllReadyH.cons (o := ?ooqhb1) ?hoqhb1 (fun K hK => ?hkqhb1) AllReadyH.nil)
              case hoqhb1 =>
                simp only [List.getElem?_toArray, List.getElem?_cons_succ, List.getElem?_cons_zero]
                rfl
              case hkqhb1 =>
                go_simp
                go_at_call 7
                refine (htp _ (readsP_below hv (HL17.out.below.trans (B_qhx.out.mono lW)))).mono ?_
                rintro r qh0 ⟨u, rfl, ou, b_qh0⟩
                have B_qh0 : Hid (Below n1 w17 qh0) := B_qhx.out.trans (b_qh0.mono (Nat.le_trans (Nat.le_of_eq HN1.out.symm) B_qhx.out.size))
                have OU_qh0 : Hid _ := ou
                clear ou
                have HX_qh0 : Hid (qh0.heap[w17.heap.size]? = some (.cells #[.slice none 0 0] 32 (0, 0))) := (b_qh0.block _ (Array.getElem?_eq_some_iff.1 HX_qhx.out).1).trans HX_qhx.out
                try go_wp2_with fail
                refine hK.out _ _ ⟨(B_qh0.out.cell lP).trans p0, (B_qh0.out.cell lE).trans e0, (B_qh0.out.cell lE).trans e1, (B_qh0.out.cell lE).trans e2, (B_qh0.out.cell lE).trans e3, (B_qh0.out.cell lE).trans e4, (B_qh0.out.cell lE).trans e5⟩ (fun hHeld => ?_)
                clear hK K
                try simp only [Act.put, List.setIfInBounds_toArray, List.set_cons_zero, List.set_cons_succ]
                refine wpAnyH_ready (rs := [3]) (by kernel_rfl) (by simp) ?_
                refine (AllReadyH.cons (o := ?ooqhb3) ?hoqhb3 (fun K hK => ?hkqhb3) AllReadyH.nil)
                case hoqhb3 =>
                  simp only [List.getElem?_toArray, List.getElem?_cons_succ, List.getElem?_cons_zero]
                  rfl
                case hkqhb3 =>
                  go_simp
                  go_at_call 8
                  refine (hte _).mono ?_
                  rintro r qh1 ⟨rfl, b_qh1⟩
                  have B_qh1 : Hid (Below n1 w17 qh1) := B_qh0.out.trans (b_qh1.mono (Nat.le_trans (Nat.le_of_eq HN1.out.symm) B_qh0.out.size))
                  have OU_qh1 : Hid _ := ownP_kept OU_qh0.out b_qh1
                  have HX_qh1 : Hid (qh1.heap[w17.heap.size]? = some (.cells #[.slice none 0 0] 32 (0, 0))) := (b_qh1.block _ (Array.getElem?_eq_some_iff.1 HX_qh0.out).1).trans HX_qh0.out
                  try go_wp2_with fail
                  refine hK.out _ _ ⟨(B_qh1.out.cell lP).trans p0, (B_qh1.out.cell lE).trans e0, (B_qh1.out.cell lE).trans e1, (B_qh1.out.cell lE).trans e2, (B_qh1.out.cell lE).trans e3, (B_qh1.out.cell lE).trans e4, (B_qh1.out.cell lE).trans e5⟩ (fun hHeld => ?_)
                  clear hK K
                  try simp only [Act.put, List.setIfInBounds_toArray, List.set_cons_zero, List.set_cons_succ]
                  refine wpAnyH_ready (rs := [4]) (by kernel_rfl) (by simp) ?_
                  refine (AllReadyH.cons (o := ?ooqhb4) ?hoqhb4 (fun K hK => ?hkqhb4) AllReadyH.nil)
                  case hoqhb4 =>
                    simp only [List.getElem?_toArray, List.getElem?_cons_succ, List.getElem?_cons_zero]
                    rfl
                  case hkqhb4 =>
                    go_simp
                    go_at_call 9
                    refine (him _ _ (readsP_own OU_qh1.out)).mono ?_
                    rintro r qh2 ⟨x0, as0, rfl, oa, b_qh2⟩
                    have B_qh2 : Hid (Below n1 w17 qh2) := B_qh1.out.trans (b_qh2.mono (Nat.le_trans (Nat.le_of_eq HN1.out.symm) B_qh1.out.size))
                    obtain ⟨xa, xm, xc, hx0⟩ := own_slice oa.row
                    subst hx0
                    have OA_qh2 : Hid (Own13 qh2 n1 (.slice xa xm xc) as0 Q) := oa.mono (Nat.le_trans (Nat.le_of_eq HN1.out.symm) B_qh1.out.size)
                    clear oa
                    have HX_qh2 : Hid (qh2.heap[w17.heap.size]? = some (.cells #[.slice none 0 0] 32 (0, 0))) := (b_qh2.block _ (Array.getElem?_eq_some_iff.1 HX_qh1.out).1).trans HX_qh1.out
                    try go_wp2_with fail
                    refine hK.out _ _ ⟨(B_qh2.out.cell lP).trans p0, (B_qh2.out.cell lE).trans e0, (B_qh2.out.cell lE).trans e1, (B_qh2.out.cell lE).trans e2, (B_qh2.out.cell lE).trans e3, (B_qh2.out.cell lE).trans e4, (B_qh2.out.cell lE).trans e5⟩ (fun hHeld => ?_)
                    clear hK K
                    try simp only [Act.put, List.setIfInBounds_toArray, List.set_cons_zero, List.set_cons_succ]
                    refine wpAnyH_take (i := 5) (oi := ?oiqhb5) (v := .tuple #[.agg #[.slice xa xm xc], .bool bb]) ?hiqhb5 (by kernel_rfl) (by kernel_rfl) (by kernel_rfl) ?hqqhb5 ?hyqhb5 hHeld ?hrqhb5
                    case hiqhb5 =>
                      simp only [List.getElem?_toArray, List.getElem?_cons_succ, List.getElem?_cons_zero]
                      rfl
                    case hqqhb5 => exact fun _ _ _ h => h
                    case hyqhb5 => exact Or.inl ⟨by kernel_rfl, fun w hSw => by go_simp⟩
                    try simp only [Act.put, List.setIfInBounds_toArray, List.set_cons_zero, List.set_cons_succ]
                    refine wpAnyH_take (i := 6) (oi := ?oiqhb6) (v := .agg #[.slice xa xm xc]) ?hiqhb6 (by kernel_rfl) (by kernel_rfl) (by kernel_rfl) ?hqqhb6 ?hyqhb6 hHeld ?hrqhb6
                    case hiqhb6 =>
                      simp only [List.getElem?_toArray, List.getElem?_cons_succ, List.getElem?_cons_zero]
                      rfl
                    case hqqhb6 => exact fun _ _ _ h => h
                    case hyqhb6 => exact Or.inl ⟨by kernel_rfl, fun w hSw => by go_simp⟩
                    try simp only [Act.put, List.setIfInBounds_toArray, List.set_cons_zero, List.set_cons_succ]
                    refine wpAnyH_take (i := 7) (oi := ?oiqhb7) (v := .bool bb) ?hiqhb7 (by kernel_rfl) (by kernel_rfl) (by kernel_rfl) ?hqqhb7 ?hyqhb7 hHeld ?hrqhb7
                    case hiqhb7 =>
                      simp only [List.getElem?_toArray, List.getElem?_cons_succ, List.getElem?_cons_zero]
                      rfl
                    case hqqhb7 => exact fun _ _ _ h => h
                    case hyqhb7 => exact Or.inl ⟨by kernel_rfl, fun w hSw => by go_simp⟩
                    try simp only [Act.put, List.setIfInBounds_toArray, List.set_cons_zero, List.set_cons_succ]
                    refine wpAnyH_ready (rs := [9]) (by kernel_rfl) (by simp) ?_
                    refine (AllReadyH.cons (o := ?ooqhb9) ?hoqhb9 (fun K hK => ?hkqhb9) AllReadyH.nil)
                    case hoqhb9 =>
                      simp only [List.getElem?_toArray, List.getElem?_cons_succ, List.getElem?_cons_zero]
                      rfl
                    case hkqhb9 =>
                      obtain ⟨cXn, fXn⟩ := one_cell HX_qh2.out
                      go_simp
                      try go_wp2_with fail
                      have BS : Hid (Below n1 w17 (qh2.setCell ⟨w17.heap.size, 0, none⟩ (.slice xa xm xc))) := B_qh2.out.setCell (Nat.le_of_eq HN1.out.symm) _
                      refine hK.out _ _ ⟨(BS.out.cell lP).trans p0, (BS.out.cell lE).trans e0, (BS.out.cell lE).trans e1, (BS.out.cell lE).trans e2, (BS.out.cell lE).trans e3, (BS.out.cell lE).trans e4, (BS.out.cell lE).trans e5⟩ (fun hHeld => ?_)
                      clear hK K
                      try simp only [Act.put, List.setIfInBounds_toArray, List.set_cons_zero, List.set_cons_succ]
                      refine wpAnyH_take (i := 10) (oi := ?oiqhb10) (v := .bool bb) ?hiqhb10 (by kernel_rfl) (by kernel_rfl) (by kernel_rfl) ?hqqhb10 ?hyqhb10 hHeld ?hrqhb10
                      case hiqhb10 =>
                        simp only [List.getElem?_toArray, List.getElem?_cons_succ, List.getElem?_cons_zero]
                        rfl
                      case hqqhb10 => exact fun _ _ _ h => h
                      case hyqhb10 => exact Or.inl ⟨by kernel_rfl, fun w hSw => by go_simp⟩
                      try simp only [Act.put, List.setIfInBounds_toArray, List.set_cons_zero, List.set_cons_succ]
                      refine wpAnyH_done (by kernel_rfl) ?_ _
                      have HF : (qh2.setCell ⟨w17.heap.size, 0, none⟩ (.slice xa xm xc)).heap[w17.heap.size]? = some (.cells #[.slice xa xm xc] 32 (0, 0)) ∧ n1 ≤ w17.heap.size ∧ Below n1 w17 (qh2.setCell ⟨w17.heap.size, 0, none⟩ (.slice xa xm xc)) ∧ ∃ us, Own13 (qh2.setCell ⟨w17.heap.size, 0, none⟩ (.slice xa xm xc)) n1 (.slice xa xm xc) us Q := ⟨one_set HX_qh2.out _, (Nat.le_of_eq HN1.out.symm), BS.out, as0, OA_qh2.out.grown (grown_setRow13 _ _ _ _) (fun k hk => by (obtain rfl := Option.some.inj hk; exact .inr ⟨_, _, _, HX_qh2.out, by decide, by decide⟩))⟩
                      generalize qh2.setCell ⟨w17.heap.size, 0, none⟩ (.slice xa xm xc) = wf at HF ⊢
                      generalize Value.slice xa xm xc = x0 at HF ⊢
                      generalize w17.heap.size = X at HF ⊢
                      exact hk X u x0 wf HF
          case restqh =>
            rintro XH u2 h0 w20 ⟨hbH, hXH, bH, hs, OH⟩
            have bHn : Below w17.heap.size w17 w20 := by rw [HN1.out]; exact bH
            have HL20 : Hid (LE w v k pr a sk sx sy w20) := HL17.out.kept bHn HL17.out.size
            have HA20 : Hid (w20.heap[XA]? = some (.cells #[.slice xa xm xc] 32 (0, 0))) := (bHn.block _ (Array.getElem?_eq_some_iff.1 HA17.out).1).trans HA17.out
            have OA20 : Hid (OwnP w20 nA tA (.slice xa xm xc) Q) := ownP_kept OA17.out bHn
            have HG20 : Hid (w20.heap[XG]? = some (.cells #[.slice ga gm gc] 32 (0, 0))) := (bHn.block _ (Array.getElem?_eq_some_iff.1 HG17.out).1).trans HG17.out
            have OG20 : Hid (Own13 w20 nG (.slice ga gm gc) gs (marks13 1 Q)) := OG17.out.kept bHn
            have HH20 : Hid (w20.heap[XH]? = some (.cells #[h0] 32 (0, 0))) := hbH
            have OH20 : Hid _ := readsP_own OH.ownP
            obtain ⟨ha, hm, hc, hh0⟩ := own_slice OH.row
            subst hh0
            clear HN1 lW lP lE lS hbH hXH bH bHn OH
            clear p0 e0 e1 e2 e3 e4 e5
            obtain ⟨cH, -⟩ := one_cell HH20.out
            obtain ⟨cA, -⟩ := one_cell HA20.out
            go_wp2_with fail
            go_at_call 10
            refine (eqProgram Q _ _ w20 hqm1 hqm2 OH20.out (readsP_own OA20.out)).mono ?_
            rintro r w21 ⟨rfl, b21⟩
            have HL21 : Hid (LE w v k pr a sk sx sy w21) := HL20.out.kept b21 HL20.out.size
            have HA21 : Hid (w21.heap[XA]? = some (.cells #[.slice xa xm xc] 32 (0, 0))) := (b21.block _ (Array.getElem?_eq_some_iff.1 HA20.out).1).trans HA20.out
            have OA21 : Hid (OwnP w21 nA tA (.slice xa xm xc) Q) := ownP_kept OA20.out b21
            have HG21 : Hid (w21.heap[XG]? = some (.cells #[.slice ga gm gc] 32 (0, 0))) := (b21.block _ (Array.getElem?_eq_some_iff.1 HG20.out).1).trans HG20.out
            have OG21 : Hid (Own13 w21 nG (.slice ga gm gc) gs (marks13 1 Q)) := OG20.out.kept b21
            clear cH cA b21
            obtain ⟨cG, -⟩ := one_cell HG21.out
            go_wp2_with fail
            go_at_call 12
            refine (heldProgramX Q _ nG gs w21 hq1 hq2 OG21.out).mono ?_
            rintro r w22 ⟨rfl, b22⟩
            have HL22 : Hid (LE w v k pr a sk sx sy w22) := HL21.out.kept b22 HL21.out.size
            clear cG b22
            go_wp2
            go_ret
            exact ⟨rfl, HL22.out.below⟩

set_option maxRecDepth 100000 in
theorem liftedFnExactEdited (os : Os) (started : os.Started) (H : Type) (enc : TypeId × Value → H) :
    ReturnsInHanded {} Try.checked os 3 .any (Rows.fnExactEditedSpec.pre6 enc Try.prog Try.f3 Rows.fnExactEditedRow.domain false) (Rows.fnExactEditedSpec.post enc Try.prog Try.f3 false true false false) := by
  refine returnsInHanded_of_change (C := Try.checked) own started (by kernel_rfl) Try.func3
    (ChangeSpec.witness6 (enc := enc) (C := Try.checked) false ⟨#[], #[.agg #[.slice none 0 0], .agg #[.int .i64 0, .int .i64 0, .int .i64 0, .int .i64 0, .int .i64 0, .int .i64 0]], []⟩ 8 (by kernel_rfl) (by kernel_rfl) (by kernel_rfl) (by kernel_rfl)) ?_
  intro W base args ds gs before hval0 hW hcnd _
  have hval : ∀ (j : Nat) t v, Try.f3.params[j]? = some t → args[j]? = some v → Value.okWide Try.prog W .any base t v := hval0
  have hW' := hW
  obtain ⟨p, q, hA0, hV, rfl, hfz, hnd⟩ := hW
  have hA : DataW.TrodAll enc Try.prog W 0 (fun _ => true) true Try.f3.params.toList args.toList ds p := hA0
  rw [Try.params3] at hA hval
  obtain ⟨v0, vs0, d0, ds0, p0, q0, hargs, rfl, rfl, h0, r0⟩ := trodAll_cons hA
  obtain ⟨v1, vs1, d1, ds1, p1, q1, rfl, rfl, rfl, h1, r1⟩ := trodAll_cons r0
  obtain ⟨rfl, rfl, rfl⟩ := trodAll_nil r1
  obtain rfl : args = #[v0, v1] := by cases args; simp_all
  obtain ⟨rfl, rfl⟩ := trodVars_none hV
  obtain ⟨v, ps, rfl, hr, hl, hq⟩ := open_program (hval 0 24 v0 rfl rfl) h0
  obtain ⟨e, rfl⟩ := open_edit (hval 1 28 v1 rfl rfl) h1
  refine (walkEdited ps e v W hl hq hr).mono fun e W' ⟨he, hb⟩ => ?_
  subst he
  refine ⟨_, rfl, law_post (tb := 4) laidOut ?_ hW' rfl Try.underlying4 rfl rfl hb⟩
  exact all_readable (P := Try.prog) (by kernel_rfl)

theorem overFnExactEdited : Rows.fnExactEditedRow.holds Try.pinned (OpenSpec.ofChange Rows.fnExactEditedSpec) :=
  OpenClaim.holds_of_wide 3 Try.f3 rfl rfl rfl rfl rfl rfl rfl ⟨rfl, rfl, rfl, rfl, rfl⟩ rfl rfl rfl rfl rfl (by kernel_rfl) Try.func3 (by kernel_rfl)
    (of_decide_eq_true (by kernel_rfl)) (by unfold Func.isWrapper; first | (rw [if_pos (by decide +kernel)]; kernel_rfl) | (rw [if_neg (by decide +kernel)]; exact ⟨rfl, rfl⟩))
    (fun os started H enc _ => liftedFnExactEdited os started H enc)

/-- ████ THE STATEMENT ████ -/
theorem editedHolds : Rows.FnExactEditedSaid :=
  overFnExactEdited
#print axioms editedHolds

end Go.Proofs.Ytnhafmclaecjeaa
