/-
  spec.DrawHolds: some Program, a client and tables of which only the kind is known.
-/
import Derived.Test.YtmophdojojcpbaaDrawHolds0
import Derived.Test.YtmophdojojcpbaaRegionLast
namespace Go.Proofs.Ytmophdojojcpbaa
open Go.RowKit
set_option linter.unusedVariables false
set_option linter.unusedSimpArgs false
set_option maxHeartbeats 4000000
set_option maxRecDepth 20000
attribute [local go_sem ↓] Go.wp_at_zero Go.wp_at_succ

theorem drawHolds (bs : List Int) (v : Value) (w : World) (hl : bs.length ≤ 1048576) (hv : Reads w v (bs.map (Value.int .u8))) :
    Calls Try.prog 10 #[v] w fun e w' => ∃ (u : Value) (L : List Nat) (n : Int) (tv : Value) (X : List (List Int)), e = .returned (.tuple #[.agg #[u], .int .i64 n, tv]) ∧ L.length ≤ 5 ∧ (∀ n ∈ L, n ≤ 14) ∧ PrOk w' w.heap.size u L ∧ ReadsSS w' tv X ∧ X.length ≤ 1000 ∧ (∀ x ∈ X, x.length ≤ 7) ∧ Below w.heap.size w w' := by
  have hb0 : Below w.heap.size w (w.alloc (.cells #[.slice none 0 0] 26)) := by go_grown
  go_enter Try.func10, Try.ntmps10
  go_wp2_with fail
  go_at_call 33
  refine (l1New bs v _ hl (reads_below hv hb0)).mono ?_
  rintro e w1 ⟨g, rfl, hg, hc1, b1⟩
  have lt1 : w.heap.size < g := by have := hg; simp at this; omega
  have R1 : w1.heap[w.heap.size]? = some (.cells #[.slice none 0 0] 26 (0, 0)) := (b1.block _ (by simp)).trans (heap_alloc_new w _)
  have L1 : Below w.heap.size w w1 := hb0.trans (b1.mono hb0.size)
  have g1 := curLt hc1
  go_wp2_with fail
  go_at_call 8
  refine (drawTables bs v w1 hl (reads_below hv L1)).mono ?_
  rintro e w2 ⟨u, L, n, rfl, h5, h14, pr2, b2⟩
  have s2 := b2.size
  obtain ⟨ps, rp, hpL⟩ := pr2.reads
  obtain ⟨hps, hpe⟩ := drawn_lensK hpL h5 h14
  obtain ⟨ua, un, uc, rfl⟩ := pr2.slice
  obtain ⟨A, hA⟩ := tabA_some ps n
  obtain ⟨hAl, hAx⟩ := tabA_len7 hA
  obtain ⟨w3, hw3⟩ : ∃ W, w2.alloc (.cells #[.slice ua un uc] 26) = W := ⟨_, rfl⟩
  have b3 : Below w2.heap.size w2 w3 := by rw [← hw3]; go_grown
  obtain ⟨P, hP⟩ : ∃ n, w2.heap.size = n := ⟨_, rfl⟩
  have P3 : Hid (w3.heap[P]? = some (.cells #[.slice ua un uc] 26 (0, 0))) := by
    show w3.heap[P]? = _
    rw [← hw3, ← hP]; exact heap_alloc_new w2 _
  have R3 : Hid (w3.heap[w.heap.size]? = some (.cells #[.slice none 0 0] 26 (0, 0))) := (b3.block _ (by omega)).trans ((b2.block _ (by omega)).trans R1)
  have L3 : Hid (Below w.heap.size w w3) := (L1.trans (b2.mono L1.size)).trans (b3.mono (by have := L1.size; omega))
  have pr3 : Hid (PrOk w3 w1.heap.size (.slice ua un uc) L) := pr2.grown (grown_of_below b3 (some g)) (fun k e => by cases e; omega)
  have s3 : w2.heap.size < w3.heap.size := by rw [← hw3]; simp
  have hg3 : g < w3.heap.size := by omega
  have hPg : g < P := by omega
  have C3 : Cur w3 g bs := cur_below (cur_below hc1 b2) b3
  obtain ⟨cP, -⟩ := oneCell P3.out
  have hsp := specTables ps n A hA (.slice ua un uc) w3 hps hpe (readsP_below rp b3)
  clear hA b1 b2 pr2 rp hpL
  go_wp2_with fail
  go_at_call 13
  clear hw3 hP
  refine hsp.mono ?_
  rintro e w4 ⟨tv, us, rfl, ot, b4⟩
  obtain ⟨ta, tn, tc, rfl⟩ := own_slice ot.row
  obtain rfl := ownSS_len ot
  have H0 : Hid (HB w3 g bs ta A.length w4) := by
    refine ⟨cur_below C3 b4, grown_of_below b4 (some g), ?_⟩
    by_cases h0 : A.length = 0
    · exact .inl h0
    · obtain ⟨gt, hgt⟩ := ownSS_some ot (by omega)
      subst hgt
      exact .inr ⟨gt, rfl, tbOk_own ot hAx⟩
  clear hsp ot b4 C3 cP hc1 R1 L1 hb0
  go_wp2_with fail
  go_loopw [9] (fun q wr => ∃ i : Nat, i ≤ A.length ∧ q = .int .i64 i ∧ HB w3 g bs ta A.length wr) (fun q _ => A.length - (intOf q).toNat)
  case atStart => exact ⟨0, Nat.zero_le _, rfl, H0.out⟩
  case round =>
    obtain ⟨i, hil, rfl, hB⟩ := hrel
    have HB1 : Hid (HB w3 g bs ta A.length wr) := hB
    clear hB H0
    by_cases hi : i < A.length
    · have hi' : (i : Int) < (A.length : Int) := by omega
      have hi0 : (0 : Int) ≤ (i : Int) := by omega
      obtain ⟨gt, hgt, _⟩ := HB1.out.tb.resolve_left (by omega)
      subst hgt
      go_wp2_with fail
      obtain ⟨wo, hwo⟩ : ∃ x, x = wr := ⟨_, rfl⟩
      subst hwo
      go_loopw [10] (fun q wr => ∃ k : Nat, k ≤ 7 ∧ q = .int .i64 k ∧ HB w3 g bs (some ⟨gt, 0, none⟩) A.length wr) (fun q _ => 7 - (intOf q).toNat)
      case atStart => exact ⟨0, Nat.zero_le _, rfl, HB1.out⟩
      case round =>
        obtain ⟨k, hk7, rfl, hB⟩ := hrel
        have HB2 : Hid (HB w3 g bs (some ⟨gt, 0, none⟩) A.length wr) := hB
        obtain ⟨gt', hgt', htb⟩ := hB.tb.resolve_left (by omega)
        injection hgt' with hgt'
        injection hgt' with hgt'
        subst hgt'
        have hlow := htb.low
        obtain ⟨x, cx, fx, hrw⟩ := htb.cellT hi
        obtain ⟨a, m, c, rfl, h7, h8⟩ := hrw
        have hk0 : (0 : Int) ≤ (k : Int) := by omega
        clear hB htb HB1
        by_cases hkm : k < m
        · have hkm' : (k : Int) < (m : Int) := by omega
          obtain ⟨b, ha, hbb, hI⟩ := h8.resolve_left (by omega)
          subst ha
          have HI : Hid (IB wr b m) := hI
          clear h8 hI
          go_wp2_with fail
          go_at_call 39
          refine (l1Once g bs 3 (by omega) wr hl HB2.out.cur).mono ?_
          rintro e w4 ⟨o, rfl, hc4, hg4⟩
          have H4 : Hid (HB w3 g bs (some ⟨gt, 0, none⟩) A.length w4) := HB2.out.step hg3 hg4 hc4
          cases o with
          | false =>
            clear hc4 hg4
            go_wp2
            go_roundw
            case rel => exact ⟨i + 1, by omega, by go_num, H4.out⟩
            case measure => simp [intOf]; omega
          | true =>
            have HI4 : Hid (IB w4 b m) := HI.out.same (hg4.block b HI.out.lt (by simp; omega))
            have cx4 : w4.cell? ⟨gt, i, none⟩ = some (.slice (some ⟨b, 0, none⟩) m c) := hg4.cell cx (by simp; omega)
            obtain ⟨z, hz4, fz4⟩ := HI4.out.cell hkm
            have hbl := fun W hW => l1Below g bs 128 (by omega) W hl hW
            clear hc4 hg4 cx fx HI fz4
            go_wp2_with fail
            refine wp_region_late (S := fun X => X.cell? ⟨gt, i, none⟩ = some (.slice (some ⟨b, 0, none⟩) m c) ∧ X.cell? ⟨b, k, none⟩ = some (.int .i64 z)) (late := fun j => j == 16) (by kernel_rfl) ⟨cx4, hz4⟩ (fun hHeld => ?_)
            refine wpAnyG_take (i := 0) (oi := ?oia0) (v := .slice (some ⟨gt, 0, none⟩) A.length tc) ?hia0 (by kernel_rfl) (by kernel_rfl) (by kernel_rfl) (by kernel_rfl) ?hqa0 ?hya0 hHeld ?hra0
            case hia0 =>
              simp only [List.getElem?_toArray, List.getElem?_cons_succ, List.getElem?_cons_zero]
              rfl
            case hqa0 => exact fun _ _ _ h => h
            case hya0 => exact Or.inl ⟨by kernel_rfl, fun w hSw => by go_simp⟩
            try simp only [Act.put, List.setIfInBounds_toArray, List.set_cons_zero, List.set_cons_succ]
            refine wpAnyG_take (i := 1) (oi := ?oia1) (v := .int .i64 (i : Int)) ?hia1 (by kernel_rfl) (by kernel_rfl) (by kernel_rfl) (by kernel_rfl) ?hqa1 ?hya1 hHeld ?hra1
            case hia1 =>
              simp only [List.getElem?_toArray, List.getElem?_cons_succ, List.getElem?_cons_zero]
              rfl
            case hqa1 => exact fun _ _ _ h => h
            case hya1 => exact Or.inl ⟨by kernel_rfl, fun w hSw => by go_simp⟩
            try simp only [Act.put, List.setIfInBounds_toArray, List.set_cons_zero, List.set_cons_succ]
            refine wpAnyG_take (i := 2) (oi := ?oia2) (v := .pointer (some ⟨gt, i, none⟩)) ?hia2 (by kernel_rfl) (by kernel_rfl) (by kernel_rfl) (by kernel_rfl) ?hqa2 ?hya2 hHeld ?hra2
            case hia2 =>
              simp only [List.getElem?_toArray, List.getElem?_cons_succ, List.getElem?_cons_zero]
              rfl
            case hqa2 => exact fun _ _ _ h => h
            case hya2 => exact Or.inl ⟨by kernel_rfl, fun w hSw => by go_simp⟩
            try simp only [Act.put, List.setIfInBounds_toArray, List.set_cons_zero, List.set_cons_succ]
            refine wpAnyG_take (i := 3) (oi := ?oia3) (v := .slice (some ⟨b, 0, none⟩) m c) ?hia3 (by kernel_rfl) (by kernel_rfl) (by kernel_rfl) (by kernel_rfl) ?hqa3 ?hya3 hHeld ?hra3
            case hia3 =>
              simp only [List.getElem?_toArray, List.getElem?_cons_succ, List.getElem?_cons_zero]
              rfl
            case hqa3 => exact fun _ _ _ h => h
            case hya3 => exact Or.inl ⟨by kernel_rfl, fun w hSw => by obtain ⟨s0, s1⟩ := hSw; go_simp⟩
            try simp only [Act.put, List.setIfInBounds_toArray, List.set_cons_zero, List.set_cons_succ]
            refine wpAnyG_take (i := 4) (oi := ?oia4) (v := .int .i64 (k : Int)) ?hia4 (by kernel_rfl) (by kernel_rfl) (by kernel_rfl) (by kernel_rfl) ?hqa4 ?hya4 hHeld ?hra4
            case hia4 =>
              simp only [List.getElem?_toArray, List.getElem?_cons_succ, List.getElem?_cons_zero]
              rfl
            case hqa4 => exact fun _ _ _ h => h
            case hya4 => exact Or.inl ⟨by kernel_rfl, fun w hSw => by go_simp⟩
            try simp only [Act.put, List.setIfInBounds_toArray, List.set_cons_zero, List.set_cons_succ]
            refine wpAnyG_take (i := 5) (oi := ?oia5) (v := .slice (some ⟨gt, 0, none⟩) A.length tc) ?hia5 (by kernel_rfl) (by kernel_rfl) (by kernel_rfl) (by kernel_rfl) ?hqa5 ?hya5 hHeld ?hra5
            case hia5 =>
              simp only [List.getElem?_toArray, List.getElem?_cons_succ, List.getElem?_cons_zero]
              rfl
            case hqa5 => exact fun _ _ _ h => h
            case hya5 => exact Or.inl ⟨by kernel_rfl, fun w hSw => by go_simp⟩
            try simp only [Act.put, List.setIfInBounds_toArray, List.set_cons_zero, List.set_cons_succ]
            refine wpAnyG_take (i := 6) (oi := ?oia6) (v := .int .i64 (i : Int)) ?hia6 (by kernel_rfl) (by kernel_rfl) (by kernel_rfl) (by kernel_rfl) ?hqa6 ?hya6 hHeld ?hra6
            case hia6 =>
              simp only [List.getElem?_toArray, List.getElem?_cons_succ, List.getElem?_cons_zero]
              rfl
            case hqa6 => exact fun _ _ _ h => h
            case hya6 => exact Or.inl ⟨by kernel_rfl, fun w hSw => by go_simp⟩
            try simp only [Act.put, List.setIfInBounds_toArray, List.set_cons_zero, List.set_cons_succ]
            refine wpAnyG_take (i := 7) (oi := ?oia7) (v := .pointer (some ⟨gt, i, none⟩)) ?hia7 (by kernel_rfl) (by kernel_rfl) (by kernel_rfl) (by kernel_rfl) ?hqa7 ?hya7 hHeld ?hra7
            case hia7 =>
              simp only [List.getElem?_toArray, List.getElem?_cons_succ, List.getElem?_cons_zero]
              rfl
            case hqa7 => exact fun _ _ _ h => h
            case hya7 => exact Or.inl ⟨by kernel_rfl, fun w hSw => by go_simp⟩
            try simp only [Act.put, List.setIfInBounds_toArray, List.set_cons_zero, List.set_cons_succ]
            refine wpAnyG_take (i := 8) (oi := ?oia8) (v := .slice (some ⟨b, 0, none⟩) m c) ?hia8 (by kernel_rfl) (by kernel_rfl) (by kernel_rfl) (by kernel_rfl) ?hqa8 ?hya8 hHeld ?hra8
            case hia8 =>
              simp only [List.getElem?_toArray, List.getElem?_cons_succ, List.getElem?_cons_zero]
              rfl
            case hqa8 => exact fun _ _ _ h => h
            case hya8 => exact Or.inl ⟨by kernel_rfl, fun w hSw => by obtain ⟨s0, s1⟩ := hSw; go_simp⟩
            try simp only [Act.put, List.setIfInBounds_toArray, List.set_cons_zero, List.set_cons_succ]
            refine wpAnyG_take (i := 9) (oi := ?oia9) (v := .int .i64 (k : Int)) ?hia9 (by kernel_rfl) (by kernel_rfl) (by kernel_rfl) (by kernel_rfl) ?hqa9 ?hya9 hHeld ?hra9
            case hia9 =>
              simp only [List.getElem?_toArray, List.getElem?_cons_succ, List.getElem?_cons_zero]
              rfl
            case hqa9 => exact fun _ _ _ h => h
            case hya9 => exact Or.inl ⟨by kernel_rfl, fun w hSw => by go_simp⟩
            try simp only [Act.put, List.setIfInBounds_toArray, List.set_cons_zero, List.set_cons_succ]
            refine wpAnyG_take (i := 10) (oi := ?oia10) (v := .pointer (some ⟨b, k, none⟩)) ?hia10 (by kernel_rfl) (by kernel_rfl) (by kernel_rfl) (by kernel_rfl) ?hqa10 ?hya10 hHeld ?hra10
            case hia10 =>
              simp only [List.getElem?_toArray, List.getElem?_cons_succ, List.getElem?_cons_zero]
              rfl
            case hqa10 => exact fun _ _ _ h => h
            case hya10 => exact Or.inl ⟨by kernel_rfl, fun w hSw => by go_simp⟩
            try simp only [Act.put, List.setIfInBounds_toArray, List.set_cons_zero, List.set_cons_succ]
            refine wpAnyG_take (i := 11) (oi := ?oia11) (v := .int .i64 z) ?hia11 (by kernel_rfl) (by kernel_rfl) (by kernel_rfl) (by kernel_rfl) ?hqa11 ?hya11 hHeld ?hra11
            case hia11 =>
              simp only [List.getElem?_toArray, List.getElem?_cons_succ, List.getElem?_cons_zero]
              rfl
            case hqa11 => exact fun _ _ _ h => h
            case hya11 => exact Or.inl ⟨by kernel_rfl, fun w hSw => by obtain ⟨s0, s1⟩ := hSw; go_simp⟩
            try simp only [Act.put, List.setIfInBounds_toArray, List.set_cons_zero, List.set_cons_succ]
            refine wpAnyG_take (i := 12) (oi := ?oia12) (v := .pointer (some ⟨g, 0, none⟩)) ?hia12 (by kernel_rfl) (by kernel_rfl) (by kernel_rfl) (by kernel_rfl) ?hqa12 ?hya12 hHeld ?hra12
            case hia12 =>
              simp only [List.getElem?_toArray, List.getElem?_cons_succ, List.getElem?_cons_zero]
              rfl
            case hqa12 => exact fun _ _ _ h => h
            case hya12 => exact Or.inl ⟨by kernel_rfl, fun w hSw => by go_simp⟩
            try simp only [Act.put, List.setIfInBounds_toArray, List.set_cons_zero, List.set_cons_succ]
            refine wpAnyG_ready (rs := [13]) (by kernel_rfl) (by simp) ?_
            refine (AllReadyG.cons (o := ?ooa13) ?hoa13 (fun K hK => ?hka13) AllReadyG.nil)
            case hoa13 =>
              simp only [List.getElem?_toArray, List.getElem?_cons_succ, List.getElem?_cons_zero]
              rfl
            case hka13 =>
              go_simp
              go_at_call 40
              refine (hbl w4.drew (cur_below H4.out.cur (Below.drew (Below.refl _ _)))).mono ?_
              rintro e w5 ⟨y, rfl, _, _, _, hc5, hg5⟩
              have H5 : Hid (HB w3 g bs (some ⟨gt, 0, none⟩) A.length w5) := (H4.out.below hg3 (Below.drew (Below.refl _ _))).step hg3 hg5 hc5
              have I5 : Hid (IB w5 b m) := (HI4.out.same (by rfl)).same (hg5.block b HI4.out.lt (by simp; omega))
              have qb : w5.cell? ⟨b, k, none⟩ = some (.int .i64 z) := hg5.cell (show w4.drew.cell? ⟨b, k, none⟩ = _ from hz4) (by simp; omega)
              have qx : w5.cell? ⟨gt, i, none⟩ = some (.slice (some ⟨b, 0, none⟩) m c) := hg5.cell (show w4.drew.cell? ⟨gt, i, none⟩ = _ from cx4) (by simp; omega)
              obtain ⟨_, _, fb⟩ := I5.out.cell hkm
              clear hc5 hg5
              try go_wp2_with fail
              refine hK.out _ _ (Or.inr ⟨qx, qb⟩) (fun hHeld => ?_)
              replace hHeld := hHeld.resolve_left (by decide)
              clear hK K
              try simp only [Act.put, List.setIfInBounds_toArray, List.set_cons_zero, List.set_cons_succ]
              refine wpAnyG_take (i := 14) (oi := ?oia14) (v := .int .i64 (bits .or .i64 z y)) ?hia14 (by kernel_rfl) (by kernel_rfl) (by kernel_rfl) (by kernel_rfl) ?hqa14 ?hya14 hHeld ?hra14
              case hia14 =>
                simp only [List.getElem?_toArray, List.getElem?_cons_succ, List.getElem?_cons_zero]
                rfl
              case hqa14 => exact fun _ _ _ h => h
              case hya14 => exact Or.inl ⟨by kernel_rfl, fun w hSw => by go_simp⟩
              try simp only [Act.put, List.setIfInBounds_toArray, List.set_cons_zero, List.set_cons_succ]
              refine wpAnyG_take (i := 15) (oi := ?oia15) (v := .pointer (some ⟨b, k, none⟩)) ?hia15 (by kernel_rfl) (by kernel_rfl) (by kernel_rfl) (by kernel_rfl) ?hqa15 ?hya15 hHeld ?hra15
              case hia15 =>
                simp only [List.getElem?_toArray, List.getElem?_cons_succ, List.getElem?_cons_zero]
                rfl
              case hqa15 => exact fun _ _ _ h => h
              case hya15 => exact Or.inl ⟨by kernel_rfl, fun w hSw => by go_simp⟩
              try simp only [Act.put, List.setIfInBounds_toArray, List.set_cons_zero, List.set_cons_succ]
              refine wpAnyG_ready (rs := [16]) (by kernel_rfl) (by simp) ?_
              refine (AllReadyG.cons (o := ?ooa16) ?hoa16 (fun K hK => ?hka16) AllReadyG.nil)
              case hoa16 =>
                simp only [List.getElem?_toArray, List.getElem?_cons_succ, List.getElem?_cons_zero]
                rfl
              case hka16 =>
                go_simp
                try go_wp2_with fail
                refine hK.out _ _ (Or.inl rfl) (fun _ => ?_)
                clear hK K
                try simp only [Act.put, List.setIfInBounds_toArray, List.set_cons_zero, List.set_cons_succ]
                refine wpAnyG_done (by kernel_rfl) ?_ _
                have H6 : Hid (HB w3 g bs (some ⟨gt, 0, none⟩) A.length (w5.setCell ⟨b, k, none⟩ (.int .i64 (bits .or .i64 z y)))) := H5.out.put hg3 I5.out hbb k _
                clear qb qx fb
                go_wp2
                go_roundw
                case rel => exact ⟨k + 1, by omega, by go_num, H6.out⟩
                case measure => simp [intOf]; omega
        · have hkm' : ¬ (k : Int) < (m : Int) := by omega
          clear h8
          go_wp2
          go_roundw
          case rel => exact ⟨i + 1, by omega, by go_num, HB2.out⟩
          case measure => simp [intOf]; omega
    · obtain rfl : i = A.length := by omega
      have hni : ¬ (A.length : Int) < (A.length : Int) := by omega
      by_cases h0 : (0 : Int) < (A.length : Int)
      · obtain ⟨gt, hgt, _⟩ := HB1.out.tb.resolve_left (by omega)
        subst hgt
        go_wp2_with fail
        go_at_call 39
        refine (l1Once g bs 3 (by omega) wr hl HB1.out.cur).mono ?_
        rintro e w4 ⟨o, rfl, hc4, hg4⟩
        have H4 : Hid (HB w3 g bs (some ⟨gt, 0, none⟩) A.length w4) := HB1.out.step hg3 hg4 hc4
        clear HB1
        cases o with
        | false =>
          clear hc4 hg4
          obtain ⟨gt', hgt', htb⟩ := H4.out.tb.resolve_left (by omega)
          injection hgt' with hgt'
          injection hgt' with hgt'
          subst hgt'
          obtain ⟨⟨q1, q2, q3⟩, q4, q5, q6⟩ := hold_ends lt1 g1 pr3.out P3.out hPg R3.out L3.out H4.out.gr
          obtain ⟨X, r1, r2, r3⟩ := (htb.tv.grown (grown_setCell7 w4 w.heap.size 0 (.slice ua un uc)) (by omega)).tables (c := tc)
          have HQ : Hid _ := And.intro q4 (And.intro q5 (And.intro r1 (And.intro r2 r3)))
          clear q4 q5 r1 r2 r3 htb
          go_wp2
          refine bodyPost_ret (v := .tuple #[.agg #[.slice ua un uc], .int .i64 n, .slice (some ⟨gt, 0, none⟩) A.length tc]) (by simp [results, Try.results10, go_sem, q6]) rfl ?_
          exact ⟨_, L, n, _, X, rfl, h5, h14, HQ.out.1, HQ.out.2.2.1, by rw [HQ.out.2.2.2.1]; exact hAl, HQ.out.2.2.2.2, HQ.out.2.1⟩
        | true =>
          have hbl := l1Below g bs (A.length : Int) (by omega) w4 hl hc4
          clear hc4 hg4
          go_wp2_with fail
          go_at_call 40
          refine hbl.mono ?_
          rintro e w5 ⟨x, rfl, hx0, hx1, _, hc5, hg5⟩
          have hx2 := hx1 h0
          obtain ⟨k, rfl⟩ : ∃ k : Nat, x = (k : Int) := ⟨x.toNat, by omega⟩
          have hkA : k < A.length := by omega
          have H5 : Hid (HB w3 g bs (some ⟨gt, 0, none⟩) A.length w5) := H4.out.step hg3 hg5 hc5
          have hdr := l6Draw g bs w5 hl hc5
          clear hx1 hbl H4 hc5 hg5
          go_wp2_with fail
          go_at_call 41
          refine hdr.mono ?_
          rintro e w6 ⟨dv, xs, rfl, hx7, hrf, hc6, hg6⟩
          obtain ⟨da, dn, dc, rfl⟩ : ∃ a n c, dv = .slice a n c := by obtain ⟨a, c, e, _⟩ := hrf; exact ⟨_, _, _, e⟩
          have H6 : Hid (HB w3 g bs (some ⟨gt, 0, none⟩) A.length w6) := H5.out.step hg3 hg6 hc6
          obtain ⟨gt', hgt', htb⟩ := H6.out.tb.resolve_left (by omega)
          injection hgt' with hgt'
          injection hgt' with hgt'
          subst hgt'
          obtain ⟨_, htb5⟩ := H5.out.tb.resolve_left (by omega)
          obtain ⟨he5, htb5⟩ := htb5
          injection he5 with he5
          injection he5 with he5
          subst he5
          obtain ⟨C5, hC5, _⟩ := htb5.blk
          have hgt5 : gt < w5.heap.size := (Array.getElem?_eq_some_iff.1 hC5).1
          have hs5 : w3.heap.size ≤ w5.heap.size := H5.out.gr.size
          have hlow := htb.low
          obtain ⟨x9, cx9, fx9, _⟩ := htb.cellT hkA
          have htv := htb.putRow hkA hrf hx7 hgt5 hs5
          have gs := grown_setCell7 w6 gt k (.slice da dn dc)
          have gr7 : w3.grownBy (w6.setCell ⟨gt, k, none⟩ (.slice da dn dc)) (some g) := grownRow H6.out.gr gs (fun k e => by simp at e; omega)
          obtain ⟨⟨q1, q2, q3⟩, q4, q5, q6⟩ := hold_ends lt1 g1 pr3.out P3.out hPg R3.out L3.out gr7
          obtain ⟨X, r1, r2, r3⟩ := (htv.grown (grown_setCell7 (w6.setCell ⟨gt, k, none⟩ (.slice da dn dc)) w.heap.size 0 (.slice ua un uc)) (by omega)).tables (c := tc)
          have HQ : Hid _ := And.intro q4 (And.intro q5 (And.intro r1 (And.intro r2 r3)))
          clear q4 q5 r1 r2 r3 htb htv gs gr7 htb5 hC5 hrf hc6 hg6 H5 H6 hdr
          go_wp2
          refine bodyPost_ret (v := .tuple #[.agg #[.slice ua un uc], .int .i64 n, .slice (some ⟨gt, 0, none⟩) A.length tc]) (by simp [results, Try.results10, go_sem, q6]) rfl ?_
          exact ⟨_, L, n, _, X, rfl, h5, h14, HQ.out.1, HQ.out.2.2.1, by rw [HQ.out.2.2.2.1]; exact hAl, HQ.out.2.2.2.2, HQ.out.2.1⟩
      · have h00 : A.length = 0 := by omega
        obtain ⟨⟨q1, q2, q3⟩, q4, q5, q6⟩ := hold_ends lt1 g1 pr3.out P3.out hPg R3.out L3.out HB1.out.gr
        have HQ : Hid _ := And.intro q4 q5
        clear q4 q5
        go_wp2
        refine bodyPost_ret (v := .tuple #[.agg #[.slice ua un uc], .int .i64 n, .slice ta 0 tc]) (by simp [results, Try.results10, go_sem, q6, h00]) rfl ?_
        exact ⟨_, L, n, _, rfl, h5, h14, HQ.out.1, [], ⟨ta, tc, rfl, fun j xs hx => by simp at hx⟩, by simp, by simp, HQ.out.2⟩

end Go.Proofs.Ytmophdojojcpbaa
