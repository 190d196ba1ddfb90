/-
  spec.Solved.
-/
import Derived.Test.YtebadimjpbhagaaG18LeastM
import Derived.Test.YtebadimjpbhagaaVisSt
import Derived.OwnWalk
import Derived.BigRegion
namespace Go.Proofs.Ytebadimjpbhagaa
open Go.RowKit
set_option linter.unusedVariables false
set_option maxHeartbeats 4000000
set_option maxRecDepth 20000

theorem intAt_made {w : World} {base g n : Nat} (h : w.ownsRow base 2 1 (.slice (some ⟨g, 0, none⟩) n n) n (madeCells #[.int .i64 0] (n * 1)).toList) : IntAt w g (List.replicate n 0) := by
  rcases h.2 with ⟨e, _⟩ | ⟨g', cap, cur, e, _, h2, _, _, h5, h6⟩
  · cases e
  · cases e
    show w.heap[g]? = _
    rw [h2]
    have : cur.toList = ints (List.replicate n 0) := by
      rw [toList_madeCells_one] at h6
      rw [← List.take_of_length_le (l := cur.toList) (i := n * 1) (by simp [h5]), h6]
      simp [ints]
    rw [← this]

def agN : Value → Nat
  | .bool true => 1
  | _ => 0

structure SWt (v : Value) (w : World) (G : Nat) (xs : List Int) (wr : World) : Prop where
  o : IntAt wr G xs
  bl : Below w.heap.size w wr
  bx : wr.heap[w.heap.size]? = some (.cells #[v] 26 (0, 0))

theorem SWt.below {v : Value} {w : World} {G : Nat} {xs : List Int} {wr wr' : World} (h : SWt v w G xs wr) (hb : Below wr.heap.size wr wr') : SWt v w G xs wr' :=
  ⟨(hb.block _ h.o.lt).trans h.o, h.bl.trans (hb.mono h.bl.size), (hb.block _ (Array.getElem?_eq_some_iff.1 h.bx).1).trans h.bx⟩

theorem SWt.set {v : Value} {w : World} {G : Nat} {xs : List Int} {wr : World} (h : SWt v w G xs wr) (hG : w.heap.size < G) (j : Nat) (x : Int) : SWt v w G (xs.set j x) (wr.setCell ⟨G, j, none⟩ (.int .i64 x)) :=
  ⟨h.o.set j x, h.bl.setCell (Nat.le_of_lt hG) _, ((grown_setCell1H wr G j (.int .i64 x)).block _ (Array.getElem?_eq_some_iff.1 h.bx).1 (fun e => by simp at e; omega)).trans h.bx⟩

theorem rem_lor {xs : List Int} {j : Nat} {z : Int} (hs : ∀ k, Small (xs.getD k 0)) (hz : Small z) (hj : j < xs.length) (h : hasA (xs.getD j 0) z = false) : rem (xs.set j (lor (xs.getD j 0) z)) + 1 ≤ rem xs :=
  rem_set xs j _ hj (lor_ge (hs j) hz h) (lor_small (hs j) hz).2

theorem specSolved (ss : List Stm) (c s : Int) (A : List Int) (hAA : SolvedAns c ss s A) (v : Value) (w : World) (hl : ss.length ≤ maxLen) (hv : Reads3 w v ss) :
    Calls Try.prog 10 #[.agg #[v], .int .i64 c, .int .i64 s] w fun e w' => ∃ u, e = .returned u ∧ w'.ownsRow w.heap.size 2 1 u A.length (ints A) ∧ Below w.heap.size w w' := by
  have hb0 : Below w.heap.size w (w.alloc (.cells #[v] 26)) := by go_grown
  have hpo := specProcOk ss v _ hl (reads3_below hv hb0)
  have hcl : ∀ W, Calls Try.prog 42 #[.int .i64 c] W (fun e w' => e = .returned (.bool (isCl c)) ∧ W = w') := fun W => l7Client c W
  have hin := fun W => l1In s 0 127 W
  have H0 := heap_alloc_new w (.cells #[v] 26)
  have s0 : (w.alloc (.cells #[v] 26)).heap.size = w.heap.size + 1 := by simp
  obtain ⟨hA, hA0⟩ := hAA
  cases hok : procOk ss
  · rw [hok] at hpo hA0
    obtain rfl := hA0 (by simp)
    go_enter Try.func10, Try.ntmps10
    go_wp2_with (go_at_call 41; refine hpo.mono ?_; rintro e w2 ⟨rfl, b2⟩)
    go_ret
    have L2 := hb0.trans (b2.mono hb0.size)
    exact ⟨_, rfl, own_mono (made0 w2) L2.size, L2.alloc L2.size _⟩
  rw [hok] at hpo hA hA0
  cases hic : isCl c
  · rw [hic] at hcl hA0
    obtain rfl := hA0 (by simp)
    go_enter Try.func10, Try.ntmps10
    go_wp2_with (first
      | (go_at_call 41; refine hpo.mono ?_; rintro e w2 ⟨rfl, b2⟩)
      | (go_at_call 42; refine (hcl _).mono ?_; rintro e w3 ⟨rfl, rfl⟩))
    go_ret
    have L2 := hb0.trans (b2.mono hb0.size)
    exact ⟨_, rfl, own_mono (made0 w2) L2.size, L2.alloc L2.size _⟩
  rw [hic] at hcl hA hA0
  cases hs : inB s 0 127
  · rw [hs] at hin hA0
    obtain rfl := hA0 (by simp)
    go_enter Try.func10, Try.ntmps10
    go_wp2_with (first
      | (go_at_call 41; refine hpo.mono ?_; rintro e w2 ⟨rfl, b2⟩)
      | (go_at_call 42; refine (hcl _).mono ?_; rintro e w3 ⟨rfl, rfl⟩)
      | (go_at_call 43; refine (hin _).mono ?_; rintro e w4 ⟨rfl, rfl⟩))
    go_ret
    have L2 := hb0.trans (b2.mono hb0.size)
    exact ⟨_, rfl, own_mono (made0 w2) L2.size, L2.alloc L2.size _⟩
  rw [hs] at hin hA
  have hA1 := hA (by simp)
  clear hA hA0
  have hsm := small_in.1 hs
  have hc : c = 1 ∨ c = 2 := by simpa [isCl] using hic
  obtain ⟨h1s, h12, _⟩ := procOk_parts hok
  obtain ⟨vo, vc, hv0, hcv⟩ := id hv
  obtain ⟨i0, hi0, hz0, hz1, hz2⟩ := info_parts infoInt
  have hb8 : i0.bytes * ss.length ≤ 281474976710656 := by rw [hz2]; omega
  have hmx : ss.length ≤ maxLen := by unfold maxLen; omega
  have hp0 : (0 : Int) < (ss.length : Int) := by omega
  subst hv0
  go_enter Try.func10, Try.ntmps10
  go_wp2_with fail
  go_at_call 41
  refine hpo.mono ?_
  rintro e w2 ⟨rfl, b2⟩
  have L2 := hb0.trans (b2.mono hb0.size)
  have s2 := b2.size
  have H2 : Hid _ := (b2.block w.heap.size (by omega)).trans H0
  obtain ⟨c0, f0⟩ := one_cell H2.out
  go_wp2_with (first
    | (go_at_call 42; refine (hcl _).mono ?_; rintro e w3 ⟨rfl, rfl⟩)
    | (go_at_call 43; refine (hin _).mono ?_; rintro e w4 ⟨rfl, rfl⟩)
    | (at_make; refine wpList_make_full _ rfl _ _ 29 rfl w.heap.size 2 i0 (.int .i64 0) 1 Try.underlying29 hi0 hz0 hz1 .i64 .i64 (ss.length : Int) (ss.length : Int) ss.length rfl rfl rfl rfl hb8 hmx L2.size ?_; intro w6 own6 grow6; (have i6 := intAt_made own6); (obtain ⟨c6, f6⟩ := i6.cell 0 (by simp; omega)); (have c6' := c6); clear own6))
  have hz2' : w2.heap.size ≤ w6.heap.size := grow6.size
  have hGw : w.heap.size < w2.heap.size := by omega
  have W6 : SWt (.slice vo ss.length vc) w w2.heap.size (List.replicate ss.length 0) w6 := ⟨i6, L2.grown grow6 L2.size (by simp), (grow6.block _ hGw (by simp)).trans H2.out⟩
  have W7 : Hid _ := W6.set hGw 0 s
  have I7 : Hid _ := SIv.begin (c := c) hok hsm
  obtain ⟨G, hG⟩ : ∃ G, w2.heap.size = G := ⟨_, rfl⟩
  rw [hG] at W7 hGw ⊢
  clear W6 i6 c6 f6 c0 f0 H2 hG c6'
  generalize w6.setCell ⟨G, 0, none⟩ (.int .i64 s) = w7 at W7 ⊢
  clear grow6 hz2' b2 L2 s2 hpo H0 hb0 s0
  go_loopw [8] (fun ag wr => ∃ xs, SWt (.slice vo ss.length vc) w G xs wr ∧ SIv c ss s xs ∧ ((ag = .bool true) ∨ (ag = .bool false ∧ covK c ss xs ss.length = true))) (fun ag wr => agN ag * (1 + remW wr G))
  case atStart => exact ⟨_, W7.out, I7.out, .inl rfl⟩
  case round =>
    obtain ⟨xs0, hS0, hI0, hag⟩ := hrel
    clear W7 I7
    rcases hag with rfl | ⟨rfl, hcov⟩
    · obtain ⟨R0, hR0⟩ : ∃ R0, rem xs0 = R0 := ⟨_, rfl⟩
      have hM0 : Hid (remW wr G = R0) := (remW_eq hS0.o).trans hR0
      have HS0 : Hid _ := hS0
      have HI0 : Hid _ := hI0
      have HR0 : Hid _ := hR0
      obtain ⟨wr0, hwr0⟩ : ∃ z, z = wr := ⟨_, rfl⟩
      subst hwr0
      clear hS0 hI0 hR0
      go_wp2_with fail
      go_loopw [8, 9] (fun ag iv wr => ∃ (i : Nat) (xs : List Int), i ≤ ss.length ∧ iv = .int .i64 i ∧ SWt (.slice vo ss.length vc) w G xs wr ∧ SIv c ss s xs ∧ ((ag = .bool true ∧ rem xs < R0) ∨ (ag = .bool false ∧ rem xs ≤ R0 ∧ covK c ss xs i = true))) (fun _ iv _ => ss.length - (intOf iv).toNat)
      case atStart => exact ⟨0, xs0, Nat.zero_le _, rfl, HS0.out, HI0.out, .inr ⟨rfl, Nat.le_of_eq HR0.out, rfl⟩⟩
      case round =>
        obtain ⟨i, xs, hi, rfl, hS, hI, hag⟩ := hrel
        have HS : Hid _ := hS
        have HI : Hid _ := hI
        have HAG : Hid _ := hag
        clear hS hI hag
        by_cases hlt : i < ss.length
        · have hlt' : (i : Int) < (ss.length : Int) := by omega
          have hxl : i < xs.length := by rw [HI.out.len]; exact hlt
          obtain ⟨q0, fq0⟩ := HS.out.o.cell i hxl
          obtain ⟨c0, f0⟩ := one_cell HS.out.bx
          have LR := HS.out.bl
          have sR := LR.size
          have zG : G < wr.heap.size := HS.out.o.lt
          obtain ⟨vg, voff, rfl, p0, p1, p2⟩ := hcv i ss[i] (by simp [hlt])
          have pB := World.block_lt_of_cell? w _ p0
          have p0 := (LR.cell pB).trans p0
          have p1 := (LR.cell (p := ⟨vg, voff + i * 3 + 1, none⟩) pB).trans p1
          have p2 := (LR.cell (p := ⟨vg, voff + i * 3 + 2, none⟩) pB).trans p2
          have hsm2 := HI.out.small i
          have hfs := flw_smalls (c := c) hok hlt
          have hlf := fun W => l7Flow c ss[i].k ss[i].x ss[i].y hc (stm_ok hok hlt) W
          rw [← flw_eq hlt] at hlf
          have hnx := fun W (hW : Below w.heap.size w W) => l4Next ss i _ W hok hlt (reads3_below hv hW)
          rw [nxI hlt] at hnx
          have hn2 : (nx ss i).length ≤ 2 := by rw [nx_eq hlt]; exact nextsS_length _ _
          have h7 := hfs.1
          obtain ⟨y, hyk⟩ : ∃ y, xs.getD i 0 = y := ⟨_, rfl⟩
          rw [hyk] at q0 hsm2
          have HYK : Hid _ := hyk
          clear hyk
          obtain ⟨rs, hrs⟩ : ∃ rs, flw c ss i = rs := ⟨_, rfl⟩
          rw [hrs] at hfs hlf h7
          have HRS : Hid _ := hrs
          clear hrs
          have hsi := img_small hfs y
          have zw : w.heap.size < wr.heap.size := by omega
          have zv : vg < wr.heap.size := by simp only at pB; omega
          obtain ⟨st', hst⟩ : ∃ st', st' = ss[i] := ⟨_, rfl⟩
          rw [← hst] at p0 p1 p2 hlf
          clear hst
          go_wp2_with fail
          go_region_held3 (fun w' => w'.cell? ⟨w.heap.size, 0, none⟩ = some (.slice (some ⟨vg, voff, none⟩) ss.length vc) ∧ w'.cell? ⟨vg, voff + i * 3, none⟩ = some (.int .i64 st'.k) ∧ w'.cell? ⟨vg, voff + i * 3 + 1, none⟩ = some (.int .i64 st'.x) ∧ w'.cell? ⟨vg, voff + i * 3 + 2, none⟩ = some (.int .i64 st'.y) ∧ w'.cell? ⟨G, i, none⟩ = some (.int .i64 y)) (first | exact ⟨c0, p0, p1, p2, q0⟩ | exact ⟨(hc3 _ _ zw).trans c0, (hc3 _ _ zv).trans p0, (hc3 _ _ zv).trans p1, (hc3 _ _ zv).trans p2, (hc3 _ _ zG).trans q0⟩ | exact ⟨(hc4 _ _ zw).trans c0, (hc4 _ _ zv).trans p0, (hc4 _ _ zv).trans p1, (hc4 _ _ zv).trans p2, (hc4 _ _ zG).trans q0⟩) (first
            | (go_at_call 45; refine (hlf _).mono ?_; rintro e w3 ⟨B, rfl, hB3, i3, b3⟩; have M3 : Below wr.heap.size wr w3 := Below.trans (by go_grown) b3; obtain ⟨hc3, hf3⟩ := bcell M3)
            | (go_at_call 44; refine (l6Image rs y _ _ hfs hsm2 (reads_below (int_reads i3 h7) (by go_grown))).mono ?_; rintro e w4 ⟨rfl, b4⟩; have M4 : Below wr.heap.size wr w4 := Below.trans (Below.trans M3 (by go_grown)) (b4.mono M3.size); obtain ⟨hc4, hf4⟩ := bcell M4))
          have d0 := (hc4 _ _ zw).trans c0
          have S4 : Hid _ := HS.out.below M4
          have L4 := LR.trans (M4.mono LR.size)
          have s4 := M4.size
          clear hc3 hf3 i3 b3 M3 b4 c0 p0 p1 p2 q0 fq0 hlf hf4 hc4 f0 M4
          go_wp2_with fail
          go_at_call 46
          refine (hnx _ L4).mono ?_
          rintro e w5 ⟨gn, cn, rfl, own5, b5⟩
          have S5 : Hid _ := S4.out.below b5
          have O5 : Hid (w5.ownsRow (G + 1) 2 1 (.slice (some ⟨gn, 0, none⟩) (nx ss i).length cn) (nx ss i).length (ints (nx ss i))) := own_mono own5 (by omega)
          clear d0 hnx own5 b5 S4 HS
          obtain ⟨z, hz⟩ : ∃ z, img rs y = z := ⟨_, rfl⟩
          rw [hz] at hsi ⊢
          have HZ : Hid _ := hz
          clear hz
          have HSND : Hid (∀ j : Nat, (j : Int) ∈ nx ss i → Snd c ss s j z) := fun j hj => by
            rw [← HZ.out, ← HRS.out, ← HYK.out]
            exact snd_img hok hlt hj (HI.out.snd i hlt)
          obtain ⟨ns, hns⟩ : ∃ ns, nx ss i = ns := ⟨_, rfl⟩
          have HN : Hid (nx ss i = ns) := hns
          rw [hns] at hn2 O5 ⊢
          clear hns
          go_wp2_with fail
          go_loopw [8, 12] (fun ag kv wr => ∃ (k : Nat) (xs : List Int), k ≤ ns.length ∧ kv = .int .i64 k ∧ SWt (.slice (some ⟨vg, voff, none⟩) ss.length vc) w G xs wr ∧ SIv c ss s xs ∧ wr.ownsRow (G + 1) 2 1 (.slice (some ⟨gn, 0, none⟩) ns.length cn) ns.length (ints ns) ∧ ((ag = .bool true ∧ rem xs < R0) ∨ (ag = .bool false ∧ rem xs ≤ R0 ∧ covK c ss xs i = true ∧ covT c ss xs i k = true ∧ img rs (xs.getD i 0) = z))) (fun _ kv _ => ns.length - (intOf kv).toNat)
          case atStart =>
            refine ⟨0, xs, Nat.zero_le _, rfl, S5.out, HI.out, O5.out, ?_⟩
            rcases HAG.out with h | ⟨h1, h2, h3⟩
            · exact .inl h
            · exact .inr ⟨h1, h2, h3, rfl, by rw [HYK.out]; exact HZ.out⟩
          case round =>
            obtain ⟨k, xs, hk, rfl, hS, hI, hO, hag⟩ := hrel
            have HS2 : Hid _ := hS
            have HI2 : Hid _ := hI
            have HO2 : Hid _ := hO
            have HAG2 : Hid _ := hag
            clear hS hI hO hag
            by_cases hkt : k < ns.length
            · have hkt' : (k : Int) < (ns.length : Int) := by omega
              obtain ⟨j, hj, hjl⟩ := nx_in hok hlt ns[k] (by rw [HN.out]; exact List.getElem_mem hkt)
              have hjl' : (j : Int) < (ss.length : Int) := by omega
              have hjx : j < xs.length := by rw [HI2.out.len]; exact hjl
              obtain ⟨qj, fj⟩ := HS2.out.o.cell j hjx
              have cn1 : wr.cell? ⟨gn, k, none⟩ = some (.int .i64 (j : Int)) := by
                have h2 := (World.ownsRow.cellAt HO2.out) k (by omega)
                rw [h2]
                simp [ints, hkt, hj]
              have hsj := HI2.out.small j
              have hbn : (bits .or .i64 (xs.getD j 0) z != xs.getD j 0) = !hasA (xs.getD j 0) z := has_bne
              have HJ : Hid ((nx ss i)[k]'(by rw [HN.out]; exact hkt) = (j : Int)) := by
                show (nx ss i)[k]'(by rw [HN.out]; exact hkt) = (j : Int)
                simp only [HN.out]; exact hj
              cases hha : hasA (xs.getD j 0) z
              · rw [hha] at hbn
                have hrem : Hid _ := rem_lor HI2.out.small hsi hjx hha
                have HI3 : Hid _ := HI2.out.step hsm hjl hsi (HSND.out j (by rw [HN.out, ← hj]; exact List.getElem_mem hkt))
                have HS3 : Hid (∀ W, Below wr.heap.size wr W → _) := fun W hW => (HS2.out.below hW).set hGw j (lor (xs.getD j 0) z)
                have HR : Hid (rem xs ≤ R0) := by
                  rcases HAG2.out with ⟨_, h⟩ | ⟨_, h, _⟩
                  · exact Nat.le_of_lt h
                  · exact h
                have HO3 : Hid (∀ W, Below wr.heap.size wr W → (W.setCell ⟨G, j, none⟩ (.int .i64 (lor (xs.getD j 0) z))).ownsRow (G + 1) 2 1 (.slice (some ⟨gn, 0, none⟩) ns.length cn) ns.length (ints ns)) := fun W hW => own_grown (own_kept HO2.out hW) (grown_setCell1H W G j _) (fun q hq e => by
                  have := (World.ownsRow.lt HO2.out q hq).1
                  simp at e
                  omega)
                obtain ⟨yj, hyj⟩ : ∃ yj, xs.getD j 0 = yj := ⟨_, rfl⟩
                rw [hyj] at qj hbn HS3 HO3 HI3 hrem hsj
                clear hyj hj hha
                go_wp2_with fail
                go_region
                go_wp2_with fail
                go_region
                go_wp2
                go_roundw
                case rel => exact ⟨k + 1, xs.set j (lor yj z), by omega, by go_num, (HS3.out wr (Below.refl _ _)).below (Below.drew (Below.drew (Below.refl _ _))), HI3.out, own_kept (HO3.out wr (Below.refl _ _)) (Below.drew (Below.drew (Below.refl _ _))), .inl ⟨rfl, by have := hrem.out; have := HR.out; omega⟩⟩
                case measure => simp [intOf]; omega
              · rw [hha] at hbn
                have HAG3 : Hid (∀ ag : Value, ((ag = .bool true ∧ rem xs < R0) ∨ (ag = .bool false ∧ rem xs ≤ R0 ∧ covK c ss xs i = true ∧ covT c ss xs i k = true ∧ img rs (xs.getD i 0) = z)) → ((ag = .bool true ∧ rem xs < R0) ∨ (ag = .bool false ∧ rem xs ≤ R0 ∧ covK c ss xs i = true ∧ covT c ss xs i (k + 1) = true ∧ img rs (xs.getD i 0) = z))) := by
                  rintro ag (h | ⟨h1, h2, h3, h4, h5⟩)
                  · exact .inl h
                  · refine .inr ⟨h1, h2, h3, ?_, h5⟩
                    rw [covT_succ (by rw [HN.out]; exact hkt), h4, HJ.out, Int.toNat_natCast, HRS.out, h5, hha]; rfl
                obtain ⟨yj, hyj⟩ : ∃ yj, xs.getD j 0 = yj := ⟨_, rfl⟩
                rw [hyj] at qj hbn
                clear hyj hj hha
                go_wp2_with fail
                go_region
                go_wp2
                go_roundw
                case rel => exact ⟨k + 1, xs, by omega, by go_num, HS2.out.below (by go_grown), HI2.out, own_kept HO2.out (by go_grown), HAG3.out _ HAG2.out⟩
                case measure => simp [intOf]; omega
            · obtain rfl : k = ns.length := by omega
              have HAG3 : Hid (∀ ag : Value, ((ag = .bool true ∧ rem xs < R0) ∨ (ag = .bool false ∧ rem xs ≤ R0 ∧ covK c ss xs i = true ∧ covT c ss xs i ns.length = true ∧ img rs (xs.getD i 0) = z)) → ((ag = .bool true ∧ rem xs < R0) ∨ (ag = .bool false ∧ rem xs ≤ R0 ∧ covK c ss xs (i + 1) = true))) := by
                rintro ag (h | ⟨h1, h2, h3, h4, h5⟩)
                · exact .inl h
                · refine .inr ⟨h1, h2, ?_⟩
                  rw [covK, h3, ← covT_all (k := ns.length) (by rw [HN.out]; exact Nat.le_refl _), h4]; rfl
              go_wp2
              go_roundw
              case rel => exact ⟨i + 1, xs, by omega, by go_num, HS2.out, HI2.out, HAG3.out _ HAG2.out⟩
              case measure => simp [intOf]; omega
        · obtain rfl : i = ss.length := by omega
          have HMM : Hid (remW wr G = rem xs) := remW_eq HS.out.o
          have HRR : Hid (∀ ag : Value, ((ag = .bool true ∧ rem xs < R0) ∨ (ag = .bool false ∧ rem xs ≤ R0 ∧ covK c ss xs ss.length = true)) → agN ag * (1 + rem xs) < agN (.bool true) * (1 + R0)) := by
            rintro ag (⟨rfl, h⟩ | ⟨rfl, h, _⟩)
            · simp only [agN]; omega
            · simp only [agN]; omega
          go_wp2
          go_roundw
          case rel =>
            refine ⟨xs, HS.out, HI.out, ?_⟩
            rcases HAG.out with ⟨h, _⟩ | ⟨h, _, h3⟩
            · exact .inl h
            · exact .inr ⟨h, h3⟩
          case measure =>
            rw [HMM.out, hM0.out]
            exact HRR.out _ HAG.out
    · have hAe : A = xs0 := solved_unique hA1 (hI0.solved hok hsm hcov)
      have HS0 : Hid _ := hS0
      have HI0 : Hid _ := hI0
      have HAE : Hid _ := hAe
      clear hS0 hI0 hAe
      go_wp2
      go_ret
      have hl0 := HI0.out.len
      refine ⟨_, rfl, ?_, HS0.out.bl⟩
      rw [HAE.out, hl0]
      refine ⟨by rw [ints_length]; omega, .inr ⟨G, ss.length, _, rfl, Nat.le_of_lt hGw, HS0.out.o, Nat.le_refl _, hmx, by simp [ints_length, hl0], ?_⟩⟩
      rw [List.toList_toArray, List.take_of_length_le (by rw [ints_length, hl0]; omega)]

end Go.Proofs.Ytebadimjpbhagaa
