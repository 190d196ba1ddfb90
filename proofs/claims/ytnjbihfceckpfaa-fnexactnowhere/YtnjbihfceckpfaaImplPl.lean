/-
  Chapter 11, the program's side: placesWhere, Nowhere, Tests.
-/
import Derived.Test.YtnjbihfceckpfaaSpecNow
import Derived.Test.YtnjbihfceckpfaaImplAsk
namespace Go.Proofs.Ytnjbihfceckpfaa
open Go.RowKit
set_option linter.unusedVariables false
set_option linter.unusedSimpArgs false
set_option maxHeartbeats 4000000
set_option maxRecDepth 20000

theorem map_pl {w : World} {AA nA base : Nat} {f : Int → Int → Option Int} {u : Value} {X : List Int} (hm : MapAt w AA nA f) (ho : OwnPl w base u X) : u.ownBlock ≠ some AA := by
  intro h
  obtain ⟨n, _, ho⟩ := ho.ex
  obtain ⟨D, ⟨es, clock, hb, _⟩, _⟩ := hm
  rcases ho.2 with ⟨rfl, _⟩ | ⟨g, cap, cur, rfl, _, hg, _⟩
  · cases h
  · cases h
    rw [hb] at hg
    cases hg

theorem placesNow (ps : List (List Stm)) (c : Int) (X : List Int) (hX : PlA ps c nowF X) (v : Value) (w : World) (hl : ps.length ≤ maxLen) (hp : ∀ p ∈ ps, p.length ≤ maxLen) (hv : ReadsP w v ps)
    (hcl : ∀ (s : Stm) (x : Int) (W : World), stmtOk s.k s.x s.y = true → Small x → Calls Try.prog 55 #[.agg #[.int .i64 s.k, .int .i64 s.x, .int .i64 s.y], .int .i64 x] W fun e w' => e = .returned (.bool (nowF s x)) ∧ Below W.heap.size W w') :
    Calls Try.prog 54 #[.agg #[v], .int .i64 c, .func (.func 55) #[] #[]] w fun e w' => ∃ u, e = .returned u ∧ OwnPl w' w.heap.size u X ∧ Below w.heap.size w w' := by
  obtain ⟨ip, hip, hq0, hq1, hq2⟩ := info_parts infoPlace
  have b0 : Below w.heap.size w (w.alloc (.cells #[v] 30)) := by go_grown
  have hP0 := heap_alloc_new w (.cells #[v] 30)
  have s0 : (w.alloc (.cells #[v] 30)).heap.size = w.heap.size + 1 := by simp
  have hcs := canSum ps c v (w.alloc (.cells #[v] 30)) hl hp (readsP_below hv b0)
  cases ho : okB ps c with
  | false =>
    rw [hX.2 ho]
    rw [ho] at hcs
    go_enter Try.func54, Try.ntmps54
    go_wp2_with (go_at_call 44; refine hcs.mono ?_; rintro e w1 ⟨rfl, b1⟩)
    go_ret
    exact ⟨_, rfl, nilP _ _, b0.trans (b1.mono (by omega))⟩
  | true =>
    rw [ho] at hcs
    obtain ⟨I, E, hI, rfl⟩ := hX.1 ho
    obtain ⟨_, hc, hcp, h4⟩ := okB_parts ho
    have h1 := ok_one ho
    have h12 : ∀ i (hi : i < ps.length), ps[i].length ≤ 12 := fun i hi => (procOk_parts (hcp i hi).1).2.1
    have hlenb := fun i (hi : i ≤ ps.length) => allPl_len (selP ps nowF I E) h12 i hi
    have hrowb := fun i k => rowPl_len (selP ps nowF I E) i k
    obtain ⟨ao, cap, rfl, hcell⟩ := id hv
    have hff := fun W (hW : Below w.heap.size w W) => findingsOf ps c _ W hc hcp h1 h4 (readsP_below hv hW)
    go_enter Try.func54, Try.ntmps54
    go_wp2_with fail
    go_at_call 44
    refine hcs.mono ?_
    rintro e w1 ⟨rfl, b1⟩
    have L1 := b0.trans (b1.mono (by omega))
    have P1 := (b1.block w.heap.size (by omega)).trans hP0
    obtain ⟨c1, f1⟩ := one_cell P1
    have z1 : w.heap.size < w1.heap.size := (Array.getElem?_eq_some_iff.1 P1).1
    go_wp2_with fail
    go_at_call 45
    refine (hff w1 L1).mono ?_
    rintro e w2 ⟨gs, G, AA, WW, nA, nW, E2, f, g, rfl, hgs, hin, hent, hE4, hF, hap, hah, hout⟩
    have L2 := L1.trans (hF.bl.mono L1.size)
    have P2 := (hF.bl.block w.heap.size z1).trans P1
    obtain ⟨c2, f2⟩ := one_cell P2
    have hmA := hF.fb.mA hgs hE4
    have HM2 : Hid (MapAt w2 AA nA f) := hF.a
    have HV : Hid (∀ i (hi : i < ps.length) k, k < ps[i].length → (f i k).getD 0 = img (I i k) (E.getD i 0)) := fun i hi k hk => (hah i hi k hk).trans (hI.rows hcp hin hent hi hk)
    have z2 : w.heap.size < w2.heap.size := (Array.getElem?_eq_some_iff.1 P2).1
    clear hcs hff c1 f1 hF hap hah hout hin hent
    go_wp2_with fail
    clear hmA c2 f2
    go_loopw [8, 27] (fun ov iv wr => ∃ i : Nat, i ≤ ps.length ∧ iv = .int .i64 i ∧ OwnPl wr w2.heap.size ov (allPl (selP ps nowF I E) ps i) ∧ MapAt wr AA nA f ∧ Below w2.heap.size w2 wr) (fun _ iv _ => ps.length - (intOf iv).toNat)
    case atStart => exact ⟨0, Nat.zero_le _, rfl, nilP _ _, HM2.out, Below.refl _ _⟩
    case round =>
      obtain ⟨i, hi, rfl, hO, hMa, hB⟩ := hrel
      obtain ⟨wi, rfl⟩ : ∃ wi, wi = wr := ⟨wr, rfl⟩
      have HO : Hid _ := hO
      have HMa : Hid (MapAt wi AA nA f) := hMa
      have HB : Hid _ := hB
      clear HM2 hO hMa hB
      by_cases hlt : i < ps.length
      · have hlt' : (i : Int) < (ps.length : Int) := by omega
        have h12i := h12 i hlt
        have hsz : ps.getD i [] = ps[i] := by simp [List.getD, hlt]
        obtain ⟨gp, op, u, rfl, hu0, au, cu, rfl, hc3⟩ := hcell i ps[i] (by simp [hlt])
        have hLi := L2.trans (HB.out.mono L2.size)
        have hu := (hLi.cell (World.block_lt_of_cell? w _ hu0)).trans hu0
        have b7 : Below wi.heap.size wi (wi.alloc (.cells #[.slice au ps[i].length cu] 81)) := by go_grown
        have HO7 : Hid _ := HO.out.below b7
        have HM7 : Hid (MapAt (wi.alloc (.cells #[.slice au ps[i].length cu] 81)) AA nA f) := HMa.out.below b7
        have HB7 : Hid (Below w2.heap.size w2 (wi.alloc (.cells #[.slice au ps[i].length cu] 81))) := HB.out.trans (b7.mono HB.out.size)
        obtain ⟨q7, _⟩ := one_cell (heap_alloc_new wi (.cells #[.slice au ps[i].length cu] 81))
        clear HO HMa HB b7
        go_wp2_with fail
        go_loopw [8, 35] (fun ov kv wr => ∃ k : Nat, k ≤ ps[i].length ∧ kv = .int .i64 k ∧ OwnPl wr w2.heap.size ov (allPl (selP ps nowF I E) ps i ++ rowPl (selP ps nowF I E) i k) ∧ MapAt wr AA nA f ∧ Below w2.heap.size w2 wr) (fun _ kv _ => ps[i].length - (intOf kv).toNat)
        case atStart => exact ⟨0, Nat.zero_le _, rfl, by unfold rowPl; rw [List.append_nil]; exact HO7.out, HM7.out, HB7.out⟩
        case round =>
          obtain ⟨k, hk, rfl, hO, hMa, hB⟩ := hrel
          obtain ⟨w3, rfl⟩ : ∃ w3, w3 = wr := ⟨wr, rfl⟩
          have HOk : Hid _ := hO
          have HM : Hid (MapAt w3 AA nA f) := hMa
          have HBk : Hid (Below w2.heap.size w2 w3) := hB
          clear HO7 HM7 HB7 q7 hO hMa hB
          by_cases hkl : k < ps[i].length
          · have hkl' : (k : Int) < (ps[i].length : Int) := by omega
            obtain ⟨gs3, off3, rfl, k0, k1, k2⟩ := hc3 k ps[i][k] (by simp [hkl])
            have M0 := L2.trans (HBk.out.mono L2.size)
            have k0 := (M0.cell (World.block_lt_of_cell? w _ k0)).trans k0
            have k1 := (M0.cell (World.block_lt_of_cell? w _ k1)).trans k1
            have k2 := (M0.cell (World.block_lt_of_cell? w _ k2)).trans k2
            have HOKS : Hid (stmtOk ps[i][k].k ps[i][k].x ps[i][k].y = true) := ((hcp i hlt).2 _ (List.getElem_mem hkl)).1
            have hfx := HV.out i hlt k hkl
            have hfs : Small (img (I i k) (E.getD i 0)) := img_small (hI.inn.good i hlt k hkl) _
            have hgd : (ps.getD i []).getD k ⟨0, 0, 0⟩ = ps[i][k] := by rw [hsz]; simp [List.getD, hkl]
            have hPk : selP ps nowF I E i k = nowF ps[i][k] (img (I i k) (E.getD i 0)) := by unfold selP; rw [hgd]
            obtain ⟨⟨sk, sx, sy⟩, hst⟩ : ∃ s, ps[i][k] = s := ⟨_, rfl⟩
            rw [hst] at k0 k1 k2 HOKS hPk
            have hstep : rowPl (selP ps nowF I E) i (k + 1) = rowPl (selP ps nowF I E) i k ++ (if selP ps nowF I E i k then [(i : Int), (k : Int)] else []) := rfl
            rw [hPk] at hstep
            generalize img (I i k) (E.getD i 0) = fx at *
            have hik : Wf i := WalkArith.wf_i64 (by omega)
            have hkk : Wf k := WalkArith.wf_i64 (by omega)
            have b4 : Below w3.heap.size w3 (w3.alloc (.cells #[.int .i64 sk, .int .i64 sx, .int .i64 sy] 92)) := by go_grown
            have HX4 := heap_alloc_new w3 (.cells #[.int .i64 sk, .int .i64 sx, .int .i64 sy] 92)
            clear hst hgd hPk
            go_wp2_with fail
            go_at_call 49
            refine (placeOf i k _).mono ?_
            rintro e w5 ⟨rfl, b5⟩
            have B5 : Below w3.heap.size w3 w5 := b4.trans (b5.mono b4.size)
            have HX5 := (b5.block _ (Array.getElem?_eq_some_iff.1 HX4).1).trans HX4
            have b6 : Below w5.heap.size w5 (w5.alloc (.cells #[.int .i64 (i : Int), .int .i64 (k : Int)] 56)) := by go_grown
            have HX6 := (b6.block _ (Array.getElem?_eq_some_iff.1 HX5).1).trans HX5
            have HY6 := heap_alloc_new w5 (.cells #[.int .i64 (i : Int), .int .i64 (k : Int)] 56)
            have HB36 : Hid (Below w3.heap.size w3 (w5.alloc (.cells #[.int .i64 (i : Int), .int .i64 (k : Int)] 56))) := B5.trans (b6.mono B5.size)
            obtain ⟨t0, t1, t2⟩ := three9 HX6
            obtain ⟨d0, d1⟩ := blk2 HY6
            have y3 := World.block_lt_of_cell? _ _ t0
            have y5 := World.block_lt_of_cell? _ _ d0
            unfold plV
            clear HX4 HX5 HX6 HY6 b4 b5 b6 k0 k1 k2
            go_wp2_with fail
            generalize w5.alloc (.cells #[.int .i64 (i : Int), .int .i64 (k : Int)] 56) = w6 at *
            have HM6 : Hid (MapAt w6 AA nA f) := HM.out.below HB36.out
            refine wp_region_held_drew (S := fun w' => (w'.cell? ⟨w3.heap.size, 0, none⟩ = some (.int .i64 sk) ∧ w'.cell? ⟨w3.heap.size, 1, none⟩ = some (.int .i64 sx) ∧ w'.cell? ⟨w3.heap.size, 2, none⟩ = some (.int .i64 sy)) ∧ (w'.cell? ⟨w5.heap.size, 0, none⟩ = some (.int .i64 (i : Int)) ∧ w'.cell? ⟨w5.heap.size, 1, none⟩ = some (.int .i64 (k : Int))) ∧ MapAt w' AA nA f) (by kernel_rfl) ⟨⟨t0, t1, t2⟩, ⟨d0, d1⟩, HM6.out⟩ (fun hHeld => ?_)
            refine wpAnyH_take (i := 0) (oi := ?oic0) (v := .func (.func 55) #[] #[]) ?hic0 (by kernel_rfl) (by kernel_rfl) (by kernel_rfl) ?hqc0 ?hyc0 hHeld ?hrc0
            case hic0 =>
              simp only [List.getElem?_toArray, List.getElem?_cons_succ, List.getElem?_cons_zero]
              rfl
            case hqc0 => exact fun _ _ _ h => h
            case hyc0 => exact Or.inl ⟨by kernel_rfl, fun w hSw => by go_simp⟩
            try simp only [Act.put, List.setIfInBounds_toArray, List.set_cons_zero, List.set_cons_succ]
            refine wpAnyH_take (i := 1) (oi := ?oic1) (v := .agg #[.int .i64 sk, .int .i64 sx, .int .i64 sy]) ?hic1 (by kernel_rfl) (by kernel_rfl) (by kernel_rfl) ?hqc1 ?hyc1 hHeld ?hrc1
            case hic1 =>
              simp only [List.getElem?_toArray, List.getElem?_cons_succ, List.getElem?_cons_zero]
              rfl
            case hqc1 => exact fun _ _ _ h => h
            case hyc1 => exact Or.inl ⟨by kernel_rfl, fun w hSw => by obtain ⟨⟨s1, s2, s3⟩, ⟨s4, s5⟩, s6⟩ := hSw; go_simp⟩
            try simp only [Act.put, List.setIfInBounds_toArray, List.set_cons_zero, List.set_cons_succ]
            refine wpAnyH_take (i := 2) (oi := ?oic2) (v := .map (some AA)) ?hic2 (by kernel_rfl) (by kernel_rfl) (by kernel_rfl) ?hqc2 ?hyc2 hHeld ?hrc2
            case hic2 =>
              simp only [List.getElem?_toArray, List.getElem?_cons_succ, List.getElem?_cons_zero]
              rfl
            case hqc2 => exact fun _ _ _ h => h
            case hyc2 => exact Or.inl ⟨by kernel_rfl, fun w hSw => by go_simp⟩
            try simp only [Act.put, List.setIfInBounds_toArray, List.set_cons_zero, List.set_cons_succ]
            refine wpAnyH_take (i := 3) (oi := ?oic3) (v := .agg #[.int .i64 (i : Int), .int .i64 (k : Int)]) ?hic3 (by kernel_rfl) (by kernel_rfl) (by kernel_rfl) ?hqc3 ?hyc3 hHeld ?hrc3
            case hic3 =>
              simp only [List.getElem?_toArray, List.getElem?_cons_succ, List.getElem?_cons_zero]
              rfl
            case hqc3 => exact fun _ _ _ h => h
            case hyc3 => exact Or.inl ⟨by kernel_rfl, fun w hSw => by obtain ⟨⟨s1, s2, s3⟩, ⟨s4, s5⟩, s6⟩ := hSw; go_simp⟩
            try simp only [Act.put, List.setIfInBounds_toArray, List.set_cons_zero, List.set_cons_succ]
            refine wpAnyH_take (i := 4) (oi := ?oic4) (v := .int .i64 fx) ?hic4 (by kernel_rfl) (by kernel_rfl) (by kernel_rfl) ?hqc4 ?hyc4 hHeld ?hrc4
            case hic4 =>
              simp only [List.getElem?_toArray, List.getElem?_cons_succ, List.getElem?_cons_zero]
              rfl
            case hqc4 => exact fun _ _ _ h => h
            case hyc4 => exact Or.inl ⟨by kernel_rfl, fun w hSw => by have s1 := MapAt.lookup hSw.2.2 hik hkk; rw [hfx] at s1; unfold plV at s1; go_simp⟩
            try simp only [Act.put, List.setIfInBounds_toArray, List.set_cons_zero, List.set_cons_succ]
            refine wpAnyH_ready (rs := [5]) (by kernel_rfl) (by simp) ?_
            refine (AllReadyH.cons (o := ?ooc5) ?hoc5 (fun K hK => ?hkc5) AllReadyH.nil)
            case hoc5 =>
              simp only [List.getElem?_toArray, List.getElem?_cons_succ, List.getElem?_cons_zero]
              rfl
            case hkc5 =>
              go_simp
              go_at_call 55
              refine (hcl ⟨sk, sx, sy⟩ fx w6.drew HOKS.out hfs).mono ?_
              rintro e w7 ⟨rfl, b7⟩
              have B7 : Hid (Below w6.heap.size w6 w7) := (Below.drew (Below.refl w6.heap.size w6)).trans b7
              clear b7
              try go_wp2_with fail
              refine hK.out _ _ ⟨⟨(B7.out.cell y3).trans t0, (B7.out.cell y3).trans t1, (B7.out.cell y3).trans t2⟩, ⟨(B7.out.cell y5).trans d0, (B7.out.cell y5).trans d1⟩, HM6.out.below B7.out⟩ (fun hHeld => ?_)
              clear hK K
              try simp only [Act.put, List.setIfInBounds_toArray, List.set_cons_zero, List.set_cons_succ]
              refine wpAnyH_done (by kernel_rfl) ?_ _
              have HB37 : Hid (Below w3.heap.size w3 w7) := HB36.out.trans (B7.out.mono HB36.out.size)
              have HOk7 : Hid _ := HOk.out.below HB37.out
              have HM7 : Hid (MapAt w7 AA nA f) := HM.out.below HB37.out
              have HBk7 : Hid (Below w2.heap.size w2 w7) := HBk.out.trans (HB37.out.mono HBk.out.size)
              have d0 := (B7.out.cell y5).trans d0
              have d1 := (B7.out.cell y5).trans d1
              have HST : Hid _ := hstep
              clear hstep t0 t1 t2 hHeld
              cases hFv : nowF ⟨sk, sx, sy⟩ fx
              · rw [hFv] at HST
                go_wp2_with fail
                go_roundw
                case rel => exact ⟨k + 1, by omega, by go_num, by rw [HST.out]; simpa using HOk7.out, HM7.out, HBk7.out⟩
                case measure => simp [intOf]; omega
              · rw [hFv] at HST
                obtain ⟨m, hm, hown⟩ := HOk7.out.ex
                obtain ⟨m1, q1, q2⟩ := hlenb i (by omega)
                obtain ⟨m2, q3, q4⟩ := hrowb i k
                have hmb : m ≤ 1000 := by rw [List.length_append] at hm; omega
                have HNW : Hid _ := World.news_of_block (heap_alloc_new w7 (.cells #[.int .i64 (i : Int), .int .i64 (k : Int)] 56))
                have HAL : Hid _ := hown.alloc (.cells #[.int .i64 (i : Int), .int .i64 (k : Int)] 56)
                have bA : Below w7.heap.size w7 (w7.alloc (.cells #[.int .i64 (i : Int), .int .i64 (k : Int)] 56)) := by go_grown
                have HOA : Hid _ := HOk7.out.below bA
                have HMA : Hid (MapAt (w7.alloc (.cells #[.int .i64 (i : Int), .int .i64 (k : Int)] 56)) AA nA f) := HM7.out.below bA
                have HBA : Hid (Below w2.heap.size w2 (w7.alloc (.cells #[.int .i64 (i : Int), .int .i64 (k : Int)] 56))) := HBk7.out.trans (bA.mono HBk7.out.size)
                have hm1 : m + 1 ≤ maxLen := by unfold maxLen; omega
                have hm2 : (m + 1) * 16 ≤ 140737488355328 := by omega
                have hm3 : w2.heap.size ≤ (w7.alloc (.cells #[.int .i64 (i : Int), .int .i64 (k : Int)] 56)).heap.size := HBA.out.size
                have HMB : Hid _ := hm
                clear hm bA
                go_wp2_with (first
                  | (at_builtin; refine wpList_append_own _ rfl (.tmp 49) (.tmp 51) 43 rfl w2.heap.size 56 ip (.agg #[.int .i64 0, .int .i64 0]) 2 16 Try.underlying43 hip hq0 hq1 hq2 rfl (by decide) u8 m _ rfl HAL.out ⟨w7.heap.size, 0, none⟩ 1 1 [.int .i64 (i : Int), .int .i64 (k : Int)] rfl rfl HNW.out (two_one i k) hm1 hm2 hm3 ?_; intro v9 w9 own9 grow9 _; refine stop_of ?_))
                unfold Stop
                have S9 : Hid _ := OwnPl.app HMB.out own9
                have M9 : Hid (MapAt w9 AA nA f) := HMA.out.same (grow9.block AA HMA.out.lt (fun e => map_pl HM7.out HOk7.out e.symm))
                have B9 : Hid (Below w2.heap.size w2 w9) := HBA.out.grown grow9 HBA.out.size (fun q hq => (hown.lt q hq).1)
                clear own9 grow9
                go_wp2_with fail
                go_roundw
                case rel => exact ⟨k + 1, by omega, by go_num, by rw [HST.out, ← List.append_assoc]; exact S9.out, M9.out, B9.out⟩
                case measure => simp [intOf]; omega
          · have hkk : k = ps[i].length := by omega
            subst hkk
            go_wp2_with fail
            go_roundw
            case rel => exact ⟨i + 1, by omega, by go_num, by unfold allPl; rw [hsz]; exact HOk.out, HM.out, HBk.out⟩
            case measure => simp [intOf]; omega
      · have hii : i = ps.length := by omega
        subst hii
        go_wp2_with fail
        go_ret
        exact ⟨_, rfl, HO.out.mono L2.size, L2.trans (HB.out.mono L2.size)⟩

theorem placesTest (ps : List (List Stm)) (c : Int) (X : List Int) (hX : PlA ps c testF X) (v : Value) (w : World) (hl : ps.length ≤ maxLen) (hp : ∀ p ∈ ps, p.length ≤ maxLen) (hv : ReadsP w v ps)
    (hcl : ∀ (s : Stm) (x : Int) (W : World), stmtOk s.k s.x s.y = true → Small x → Calls Try.prog 57 #[.agg #[.int .i64 s.k, .int .i64 s.x, .int .i64 s.y], .int .i64 x] W fun e w' => e = .returned (.bool (testF s x)) ∧ Below W.heap.size W w') :
    Calls Try.prog 54 #[.agg #[v], .int .i64 c, .func (.func 57) #[] #[]] w fun e w' => ∃ u, e = .returned u ∧ OwnPl w' w.heap.size u X ∧ Below w.heap.size w w' := by
  obtain ⟨ip, hip, hq0, hq1, hq2⟩ := info_parts infoPlace
  have b0 : Below w.heap.size w (w.alloc (.cells #[v] 30)) := by go_grown
  have hP0 := heap_alloc_new w (.cells #[v] 30)
  have s0 : (w.alloc (.cells #[v] 30)).heap.size = w.heap.size + 1 := by simp
  have hcs := canSum ps c v (w.alloc (.cells #[v] 30)) hl hp (readsP_below hv b0)
  cases ho : okB ps c with
  | false =>
    rw [hX.2 ho]
    rw [ho] at hcs
    go_enter Try.func54, Try.ntmps54
    go_wp2_with (go_at_call 44; refine hcs.mono ?_; rintro e w1 ⟨rfl, b1⟩)
    go_ret
    exact ⟨_, rfl, nilP _ _, b0.trans (b1.mono (by omega))⟩
  | true =>
    rw [ho] at hcs
    obtain ⟨I, E, hI, rfl⟩ := hX.1 ho
    obtain ⟨_, hc, hcp, h4⟩ := okB_parts ho
    have h1 := ok_one ho
    have h12 : ∀ i (hi : i < ps.length), ps[i].length ≤ 12 := fun i hi => (procOk_parts (hcp i hi).1).2.1
    have hlenb := fun i (hi : i ≤ ps.length) => allPl_len (selP ps testF I E) h12 i hi
    have hrowb := fun i k => rowPl_len (selP ps testF I E) i k
    obtain ⟨ao, cap, rfl, hcell⟩ := id hv
    have hff := fun W (hW : Below w.heap.size w W) => findingsOf ps c _ W hc hcp h1 h4 (readsP_below hv hW)
    go_enter Try.func54, Try.ntmps54
    go_wp2_with fail
    go_at_call 44
    refine hcs.mono ?_
    rintro e w1 ⟨rfl, b1⟩
    have L1 := b0.trans (b1.mono (by omega))
    have P1 := (b1.block w.heap.size (by omega)).trans hP0
    obtain ⟨c1, f1⟩ := one_cell P1
    have z1 : w.heap.size < w1.heap.size := (Array.getElem?_eq_some_iff.1 P1).1
    go_wp2_with fail
    go_at_call 45
    refine (hff w1 L1).mono ?_
    rintro e w2 ⟨gs, G, AA, WW, nA, nW, E2, f, g, rfl, hgs, hin, hent, hE4, hF, hap, hah, hout⟩
    have L2 := L1.trans (hF.bl.mono L1.size)
    have P2 := (hF.bl.block w.heap.size z1).trans P1
    obtain ⟨c2, f2⟩ := one_cell P2
    have hmA := hF.fb.mA hgs hE4
    have HM2 : Hid (MapAt w2 AA nA f) := hF.a
    have HV : Hid (∀ i (hi : i < ps.length) k, k < ps[i].length → (f i k).getD 0 = img (I i k) (E.getD i 0)) := fun i hi k hk => (hah i hi k hk).trans (hI.rows hcp hin hent hi hk)
    have z2 : w.heap.size < w2.heap.size := (Array.getElem?_eq_some_iff.1 P2).1
    clear hcs hff c1 f1 hF hap hah hout hin hent
    go_wp2_with fail
    clear hmA c2 f2
    go_loopw [8, 27] (fun ov iv wr => ∃ i : Nat, i ≤ ps.length ∧ iv = .int .i64 i ∧ OwnPl wr w2.heap.size ov (allPl (selP ps testF I E) ps i) ∧ MapAt wr AA nA f ∧ Below w2.heap.size w2 wr) (fun _ iv _ => ps.length - (intOf iv).toNat)
    case atStart => exact ⟨0, Nat.zero_le _, rfl, nilP _ _, HM2.out, Below.refl _ _⟩
    case round =>
      obtain ⟨i, hi, rfl, hO, hMa, hB⟩ := hrel
      obtain ⟨wi, rfl⟩ : ∃ wi, wi = wr := ⟨wr, rfl⟩
      have HO : Hid _ := hO
      have HMa : Hid (MapAt wi AA nA f) := hMa
      have HB : Hid _ := hB
      clear HM2 hO hMa hB
      by_cases hlt : i < ps.length
      · have hlt' : (i : Int) < (ps.length : Int) := by omega
        have h12i := h12 i hlt
        have hsz : ps.getD i [] = ps[i] := by simp [List.getD, hlt]
        obtain ⟨gp, op, u, rfl, hu0, au, cu, rfl, hc3⟩ := hcell i ps[i] (by simp [hlt])
        have hLi := L2.trans (HB.out.mono L2.size)
        have hu := (hLi.cell (World.block_lt_of_cell? w _ hu0)).trans hu0
        have b7 : Below wi.heap.size wi (wi.alloc (.cells #[.slice au ps[i].length cu] 81)) := by go_grown
        have HO7 : Hid _ := HO.out.below b7
        have HM7 : Hid (MapAt (wi.alloc (.cells #[.slice au ps[i].length cu] 81)) AA nA f) := HMa.out.below b7
        have HB7 : Hid (Below w2.heap.size w2 (wi.alloc (.cells #[.slice au ps[i].length cu] 81))) := HB.out.trans (b7.mono HB.out.size)
        obtain ⟨q7, _⟩ := one_cell (heap_alloc_new wi (.cells #[.slice au ps[i].length cu] 81))
        clear HO HMa HB b7
        go_wp2_with fail
        go_loopw [8, 35] (fun ov kv wr => ∃ k : Nat, k ≤ ps[i].length ∧ kv = .int .i64 k ∧ OwnPl wr w2.heap.size ov (allPl (selP ps testF I E) ps i ++ rowPl (selP ps testF I E) i k) ∧ MapAt wr AA nA f ∧ Below w2.heap.size w2 wr) (fun _ kv _ => ps[i].length - (intOf kv).toNat)
        case atStart => exact ⟨0, Nat.zero_le _, rfl, by unfold rowPl; rw [List.append_nil]; exact HO7.out, HM7.out, HB7.out⟩
        case round =>
          obtain ⟨k, hk, rfl, hO, hMa, hB⟩ := hrel
          obtain ⟨w3, rfl⟩ : ∃ w3, w3 = wr := ⟨wr, rfl⟩
          have HOk : Hid _ := hO
          have HM : Hid (MapAt w3 AA nA f) := hMa
          have HBk : Hid (Below w2.heap.size w2 w3) := hB
          clear HO7 HM7 HB7 q7 hO hMa hB
          by_cases hkl : k < ps[i].length
          · have hkl' : (k : Int) < (ps[i].length : Int) := by omega
            obtain ⟨gs3, off3, rfl, k0, k1, k2⟩ := hc3 k ps[i][k] (by simp [hkl])
            have M0 := L2.trans (HBk.out.mono L2.size)
            have k0 := (M0.cell (World.block_lt_of_cell? w _ k0)).trans k0
            have k1 := (M0.cell (World.block_lt_of_cell? w _ k1)).trans k1
            have k2 := (M0.cell (World.block_lt_of_cell? w _ k2)).trans k2
            have HOKS : Hid (stmtOk ps[i][k].k ps[i][k].x ps[i][k].y = true) := ((hcp i hlt).2 _ (List.getElem_mem hkl)).1
            have hfx := HV.out i hlt k hkl
            have hfs : Small (img (I i k) (E.getD i 0)) := img_small (hI.inn.good i hlt k hkl) _
            have hgd : (ps.getD i []).getD k ⟨0, 0, 0⟩ = ps[i][k] := by rw [hsz]; simp [List.getD, hkl]
            have hPk : selP ps testF I E i k = testF ps[i][k] (img (I i k) (E.getD i 0)) := by unfold selP; rw [hgd]
            obtain ⟨⟨sk, sx, sy⟩, hst⟩ : ∃ s, ps[i][k] = s := ⟨_, rfl⟩
            rw [hst] at k0 k1 k2 HOKS hPk
            have hstep : rowPl (selP ps testF I E) i (k + 1) = rowPl (selP ps testF I E) i k ++ (if selP ps testF I E i k then [(i : Int), (k : Int)] else []) := rfl
            rw [hPk] at hstep
            generalize img (I i k) (E.getD i 0) = fx at *
            have hik : Wf i := WalkArith.wf_i64 (by omega)
            have hkk : Wf k := WalkArith.wf_i64 (by omega)
            have b4 : Below w3.heap.size w3 (w3.alloc (.cells #[.int .i64 sk, .int .i64 sx, .int .i64 sy] 92)) := by go_grown
            have HX4 := heap_alloc_new w3 (.cells #[.int .i64 sk, .int .i64 sx, .int .i64 sy] 92)
            clear hst hgd hPk
            go_wp2_with fail
            go_at_call 49
            refine (placeOf i k _).mono ?_
            rintro e w5 ⟨rfl, b5⟩
            have B5 : Below w3.heap.size w3 w5 := b4.trans (b5.mono b4.size)
            have HX5 := (b5.block _ (Array.getElem?_eq_some_iff.1 HX4).1).trans HX4
            have b6 : Below w5.heap.size w5 (w5.alloc (.cells #[.int .i64 (i : Int), .int .i64 (k : Int)] 56)) := by go_grown
            have HX6 := (b6.block _ (Array.getElem?_eq_some_iff.1 HX5).1).trans HX5
            have HY6 := heap_alloc_new w5 (.cells #[.int .i64 (i : Int), .int .i64 (k : Int)] 56)
            have HB36 : Hid (Below w3.heap.size w3 (w5.alloc (.cells #[.int .i64 (i : Int), .int .i64 (k : Int)] 56))) := B5.trans (b6.mono B5.size)
            obtain ⟨t0, t1, t2⟩ := three9 HX6
            obtain ⟨d0, d1⟩ := blk2 HY6
            have y3 := World.block_lt_of_cell? _ _ t0
            have y5 := World.block_lt_of_cell? _ _ d0
            unfold plV
            clear HX4 HX5 HX6 HY6 b4 b5 b6 k0 k1 k2
            go_wp2_with fail
            generalize w5.alloc (.cells #[.int .i64 (i : Int), .int .i64 (k : Int)] 56) = w6 at *
            have HM6 : Hid (MapAt w6 AA nA f) := HM.out.below HB36.out
            refine wp_region_held_drew (S := fun w' => (w'.cell? ⟨w3.heap.size, 0, none⟩ = some (.int .i64 sk) ∧ w'.cell? ⟨w3.heap.size, 1, none⟩ = some (.int .i64 sx) ∧ w'.cell? ⟨w3.heap.size, 2, none⟩ = some (.int .i64 sy)) ∧ (w'.cell? ⟨w5.heap.size, 0, none⟩ = some (.int .i64 (i : Int)) ∧ w'.cell? ⟨w5.heap.size, 1, none⟩ = some (.int .i64 (k : Int))) ∧ MapAt w' AA nA f) (by kernel_rfl) ⟨⟨t0, t1, t2⟩, ⟨d0, d1⟩, HM6.out⟩ (fun hHeld => ?_)
            refine wpAnyH_take (i := 0) (oi := ?oic0) (v := .func (.func 57) #[] #[]) ?hic0 (by kernel_rfl) (by kernel_rfl) (by kernel_rfl) ?hqc0 ?hyc0 hHeld ?hrc0
            case hic0 =>
              simp only [List.getElem?_toArray, List.getElem?_cons_succ, List.getElem?_cons_zero]
              rfl
            case hqc0 => exact fun _ _ _ h => h
            case hyc0 => exact Or.inl ⟨by kernel_rfl, fun w hSw => by go_simp⟩
            try simp only [Act.put, List.setIfInBounds_toArray, List.set_cons_zero, List.set_cons_succ]
            refine wpAnyH_take (i := 1) (oi := ?oic1) (v := .agg #[.int .i64 sk, .int .i64 sx, .int .i64 sy]) ?hic1 (by kernel_rfl) (by kernel_rfl) (by kernel_rfl) ?hqc1 ?hyc1 hHeld ?hrc1
            case hic1 =>
              simp only [List.getElem?_toArray, List.getElem?_cons_succ, List.getElem?_cons_zero]
              rfl
            case hqc1 => exact fun _ _ _ h => h
            case hyc1 => exact Or.inl ⟨by kernel_rfl, fun w hSw => by obtain ⟨⟨s1, s2, s3⟩, ⟨s4, s5⟩, s6⟩ := hSw; go_simp⟩
            try simp only [Act.put, List.setIfInBounds_toArray, List.set_cons_zero, List.set_cons_succ]
            refine wpAnyH_take (i := 2) (oi := ?oic2) (v := .map (some AA)) ?hic2 (by kernel_rfl) (by kernel_rfl) (by kernel_rfl) ?hqc2 ?hyc2 hHeld ?hrc2
            case hic2 =>
              simp only [List.getElem?_toArray, List.getElem?_cons_succ, List.getElem?_cons_zero]
              rfl
            case hqc2 => exact fun _ _ _ h => h
            case hyc2 => exact Or.inl ⟨by kernel_rfl, fun w hSw => by go_simp⟩
            try simp only [Act.put, List.setIfInBounds_toArray, List.set_cons_zero, List.set_cons_succ]
            refine wpAnyH_take (i := 3) (oi := ?oic3) (v := .agg #[.int .i64 (i : Int), .int .i64 (k : Int)]) ?hic3 (by kernel_rfl) (by kernel_rfl) (by kernel_rfl) ?hqc3 ?hyc3 hHeld ?hrc3
            case hic3 =>
              simp only [List.getElem?_toArray, List.getElem?_cons_succ, List.getElem?_cons_zero]
              rfl
            case hqc3 => exact fun _ _ _ h => h
            case hyc3 => exact Or.inl ⟨by kernel_rfl, fun w hSw => by obtain ⟨⟨s1, s2, s3⟩, ⟨s4, s5⟩, s6⟩ := hSw; go_simp⟩
            try simp only [Act.put, List.setIfInBounds_toArray, List.set_cons_zero, List.set_cons_succ]
            refine wpAnyH_take (i := 4) (oi := ?oic4) (v := .int .i64 fx) ?hic4 (by kernel_rfl) (by kernel_rfl) (by kernel_rfl) ?hqc4 ?hyc4 hHeld ?hrc4
            case hic4 =>
              simp only [List.getElem?_toArray, List.getElem?_cons_succ, List.getElem?_cons_zero]
              rfl
            case hqc4 => exact fun _ _ _ h => h
            case hyc4 => exact Or.inl ⟨by kernel_rfl, fun w hSw => by have s1 := MapAt.lookup hSw.2.2 hik hkk; rw [hfx] at s1; unfold plV at s1; go_simp⟩
            try simp only [Act.put, List.setIfInBounds_toArray, List.set_cons_zero, List.set_cons_succ]
            refine wpAnyH_ready (rs := [5]) (by kernel_rfl) (by simp) ?_
            refine (AllReadyH.cons (o := ?ooc5) ?hoc5 (fun K hK => ?hkc5) AllReadyH.nil)
            case hoc5 =>
              simp only [List.getElem?_toArray, List.getElem?_cons_succ, List.getElem?_cons_zero]
              rfl
            case hkc5 =>
              go_simp
              go_at_call 57
              refine (hcl ⟨sk, sx, sy⟩ fx w6.drew HOKS.out hfs).mono ?_
              rintro e w7 ⟨rfl, b7⟩
              have B7 : Hid (Below w6.heap.size w6 w7) := (Below.drew (Below.refl w6.heap.size w6)).trans b7
              clear b7
              try go_wp2_with fail
              refine hK.out _ _ ⟨⟨(B7.out.cell y3).trans t0, (B7.out.cell y3).trans t1, (B7.out.cell y3).trans t2⟩, ⟨(B7.out.cell y5).trans d0, (B7.out.cell y5).trans d1⟩, HM6.out.below B7.out⟩ (fun hHeld => ?_)
              clear hK K
              try simp only [Act.put, List.setIfInBounds_toArray, List.set_cons_zero, List.set_cons_succ]
              refine wpAnyH_done (by kernel_rfl) ?_ _
              have HB37 : Hid (Below w3.heap.size w3 w7) := HB36.out.trans (B7.out.mono HB36.out.size)
              have HOk7 : Hid _ := HOk.out.below HB37.out
              have HM7 : Hid (MapAt w7 AA nA f) := HM.out.below HB37.out
              have HBk7 : Hid (Below w2.heap.size w2 w7) := HBk.out.trans (HB37.out.mono HBk.out.size)
              have d0 := (B7.out.cell y5).trans d0
              have d1 := (B7.out.cell y5).trans d1
              have HST : Hid _ := hstep
              clear hstep t0 t1 t2 hHeld
              cases hFv : testF ⟨sk, sx, sy⟩ fx
              · rw [hFv] at HST
                go_wp2_with fail
                go_roundw
                case rel => exact ⟨k + 1, by omega, by go_num, by rw [HST.out]; simpa using HOk7.out, HM7.out, HBk7.out⟩
                case measure => simp [intOf]; omega
              · rw [hFv] at HST
                obtain ⟨m, hm, hown⟩ := HOk7.out.ex
                obtain ⟨m1, q1, q2⟩ := hlenb i (by omega)
                obtain ⟨m2, q3, q4⟩ := hrowb i k
                have hmb : m ≤ 1000 := by rw [List.length_append] at hm; omega
                have HNW : Hid _ := World.news_of_block (heap_alloc_new w7 (.cells #[.int .i64 (i : Int), .int .i64 (k : Int)] 56))
                have HAL : Hid _ := hown.alloc (.cells #[.int .i64 (i : Int), .int .i64 (k : Int)] 56)
                have bA : Below w7.heap.size w7 (w7.alloc (.cells #[.int .i64 (i : Int), .int .i64 (k : Int)] 56)) := by go_grown
                have HOA : Hid _ := HOk7.out.below bA
                have HMA : Hid (MapAt (w7.alloc (.cells #[.int .i64 (i : Int), .int .i64 (k : Int)] 56)) AA nA f) := HM7.out.below bA
                have HBA : Hid (Below w2.heap.size w2 (w7.alloc (.cells #[.int .i64 (i : Int), .int .i64 (k : Int)] 56))) := HBk7.out.trans (bA.mono HBk7.out.size)
                have hm1 : m + 1 ≤ maxLen := by unfold maxLen; omega
                have hm2 : (m + 1) * 16 ≤ 140737488355328 := by omega
                have hm3 : w2.heap.size ≤ (w7.alloc (.cells #[.int .i64 (i : Int), .int .i64 (k : Int)] 56)).heap.size := HBA.out.size
                have HMB : Hid _ := hm
                clear hm bA
                go_wp2_with (first
                  | (at_builtin; refine wpList_append_own _ rfl (.tmp 49) (.tmp 51) 43 rfl w2.heap.size 56 ip (.agg #[.int .i64 0, .int .i64 0]) 2 16 Try.underlying43 hip hq0 hq1 hq2 rfl (by decide) u8 m _ rfl HAL.out ⟨w7.heap.size, 0, none⟩ 1 1 [.int .i64 (i : Int), .int .i64 (k : Int)] rfl rfl HNW.out (two_one i k) hm1 hm2 hm3 ?_; intro v9 w9 own9 grow9 _; refine stop_of ?_))
                unfold Stop
                have S9 : Hid _ := OwnPl.app HMB.out own9
                have M9 : Hid (MapAt w9 AA nA f) := HMA.out.same (grow9.block AA HMA.out.lt (fun e => map_pl HM7.out HOk7.out e.symm))
                have B9 : Hid (Below w2.heap.size w2 w9) := HBA.out.grown grow9 HBA.out.size (fun q hq => (hown.lt q hq).1)
                clear own9 grow9
                go_wp2_with fail
                go_roundw
                case rel => exact ⟨k + 1, by omega, by go_num, by rw [HST.out, ← List.append_assoc]; exact S9.out, M9.out, B9.out⟩
                case measure => simp [intOf]; omega
          · have hkk : k = ps[i].length := by omega
            subst hkk
            go_wp2_with fail
            go_roundw
            case rel => exact ⟨i + 1, by omega, by go_num, by unfold allPl; rw [hsz]; exact HOk.out, HM.out, HBk.out⟩
            case measure => simp [intOf]; omega
      · have hii : i = ps.length := by omega
        subst hii
        go_wp2_with fail
        go_ret
        exact ⟨_, rfl, HO.out.mono L2.size, L2.trans (HB.out.mono L2.size)⟩

theorem nowClos (s : Stm) (x : Int) (W : World) (hs : stmtOk s.k s.x s.y = true) (hx : Small x) : Calls Try.prog 55 #[.agg #[.int .i64 s.k, .int .i64 s.x, .int .i64 s.y], .int .i64 x] W fun e w' => e = .returned (.bool (nowF s x)) ∧ Below W.heap.size W w' := by
  have h : nowF s x = (x == 0) := by unfold nowF; rw [Bool.eq_iff_iff]; simp
  rw [h]
  go_enter Try.func55, Try.ntmps55
  go_wp2
  go_ret
  exact ⟨rfl, by go_grown⟩

theorem implNowhere (ps : List (List Stm)) (X : List Int) (hX : PlA ps 1 nowF X) (v : Value) (w : World) (hl : ps.length ≤ maxLen) (hp : ∀ p ∈ ps, p.length ≤ maxLen) (hv : ReadsP w v ps) :
    Calls Try.prog 26 #[.agg #[v]] w fun e w' => ∃ u, e = .returned u ∧ OwnPl w' w.heap.size u X ∧ Below w.heap.size w w' := by
  have b0 : Below w.heap.size w (w.alloc (.cells #[v] 30)) := by go_grown
  have hpl := placesNow ps 1 X hX v (w.alloc (.cells #[v] 30)) hl hp (readsP_below hv b0) nowClos
  go_enter Try.func26, Try.ntmps26
  go_wp2_with fail
  go_at_call 54
  refine hpl.mono ?_
  rintro e w1 ⟨u, rfl, o1, b1⟩
  go_wp2_with fail
  go_ret
  exact ⟨_, rfl, o1.mono b0.size, b0.trans (b1.mono b0.size)⟩

theorem testClos (s : Stm) (x : Int) (W : World) (hs : stmtOk s.k s.x s.y = true) (hx : Small x) : Calls Try.prog 57 #[.agg #[.int .i64 s.k, .int .i64 s.x, .int .i64 s.y], .int .i64 x] W fun e w' => e = .returned (.bool (testF s x)) ∧ Below W.heap.size W w' := by
  obtain ⟨sk, sx, sy⟩ := s
  by_cases h6 : sk = 6
  · subst h6
    obtain ⟨n, hn, hn6⟩ := stmtOk_x6 hs
    simp only at hn
    subst hn
    have e : testF ⟨6, (n : Int), sy⟩ x = bit x (n + 1) := by
      unfold testF
      have : ((n : Int) + 1).toNat = n + 1 := by omega
      simp [this]
    rw [e]
    have hf := factOf n hn6
    have hh := hasOne x hx (n + 1) (by omega)
    have e2 : factN n = 2 ^ (n + 1) := rfl
    rw [e2] at hf
    go_enter Try.func57, Try.ntmps57
    go_wp2_with (first
      | (go_at_call 59; refine (hf _).mono ?_; rintro e w1 ⟨rfl, rfl⟩)
      | (go_at_call 58; refine (hh _).mono ?_; rintro e w2 ⟨rfl, rfl⟩))
    go_ret
    exact ⟨rfl, by go_grown⟩
  · have e : testF ⟨sk, sx, sy⟩ x = false := by unfold testF; simp [h6]
    rw [e]
    go_enter Try.func57, Try.ntmps57
    go_wp2_with fail
    go_ret
    exact ⟨rfl, by go_grown⟩

theorem implTests (ps : List (List Stm)) (c : Int) (X : List Int) (hX : PlA ps c testF X) (v : Value) (w : World) (hl : ps.length ≤ maxLen) (hp : ∀ p ∈ ps, p.length ≤ maxLen) (hv : ReadsP w v ps) :
    Calls Try.prog 31 #[.agg #[v], .int .i64 c] w fun e w' => ∃ u, e = .returned u ∧ OwnPl w' w.heap.size u X ∧ Below w.heap.size w w' := by
  have b0 : Below w.heap.size w (w.alloc (.cells #[v] 30)) := by go_grown
  have hpl := placesTest ps c X hX v (w.alloc (.cells #[v] 30)) hl hp (readsP_below hv b0) testClos
  go_enter Try.func31, Try.ntmps31
  go_wp2_with fail
  go_at_call 54
  refine hpl.mono ?_
  rintro e w1 ⟨u, rfl, o1, b1⟩
  go_wp2_with fail
  go_ret
  exact ⟨_, rfl, o1.mono b0.size, b0.trans (b1.mono b0.size)⟩

end Go.Proofs.Ytnjbihfceckpfaa
