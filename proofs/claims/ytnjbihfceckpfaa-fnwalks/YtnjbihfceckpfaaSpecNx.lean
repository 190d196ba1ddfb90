/-
 Chapter 12, the specification's side: l12Next.
-/
import Derived.Test.YtnjbihfceckpfaaG00Stmt
import Derived.Test.YtnjbihfceckpfaaG20Lists
import Derived.Test.YtnjbihfceckpfaaG10SpecFlow
import Derived.Deep.RegionLaw
namespace Go.Proofs.Ytnjbihfceckpfaa
open Go.RowKit
set_option linter.unusedVariables false
set_option linter.unusedSimpArgs false
set_option maxHeartbeats 4000000
set_option maxRecDepth 20000

theorem pl_cells {w : World} {b : Nat} {x0 x1 : Value} {T : TypeId} (h : w.heap[b]? = some (.cells #[x0, x1] T (0, 0))) :
 w.cell? ⟨b, 0, none⟩ = some x0 ∧ w.cell? ⟨b, 1, none⟩ = some x1 ∧ w.frozen? ⟨b, 0, none⟩ = false ∧ w.frozen? ⟨b, 1, none⟩ = false := by
 refine ⟨?_, ?_, ?_, ?_⟩ <;> simp [World.cell?, World.frozen?, h]

theorem l12Next (ps : List (List Stm)) (p i : Nat) (op : List (Nat × Nat × Int)) (v ov : Value) (w : World) (hcan : CanP ps) (h4 : ps.length ≤ 4) (hp : p < ps.length) (hi : i < (ps.getD p []).length) (hv : ReadsP w v ps)
 (ho : Reads2 w ov op.length (ints (flatP op))) (hl : op.length ≤ 100) (hop : ∀ t ∈ op, t.2.1 ≤ 12) :
 Calls Try.prog 93 #[.agg #[v], .agg #[.int .i64 p, .int .i64 i], ov] w fun e w' => ∃ u, e = .returned u ∧ OwnPl w' w.heap.size u (nxS (stW ps p i) p i op) ∧ Below w.heap.size w w' := by
 obtain ⟨hpo, hps⟩ := procs_of hcan hp
 obtain ⟨_, h12, _⟩ := procOk_parts hpo
 obtain ⟨ao, cap, rfl, hc⟩ := id hv
 have hsz : ps[p]? = some (ps.getD p []) := by simp [List.getD, hp]
 obtain ⟨g, off, pv, rfl, hcell, hR⟩ := hc p _ hsz
 obtain ⟨ao2, cap2, rfl, hc2⟩ := id hR
 have hst : (ps.getD p [])[i]? = some (stW ps p i) := by rw [stW_eq hi]; exact List.getElem?_eq_getElem hi
 obtain ⟨g2, off2, rfl, q0, q1, q2⟩ := hc2 i _ hst
 have z1 := World.block_lt_of_cell? w _ hcell
 have z2 := World.block_lt_of_cell? w _ q0
 simp only at z1 z2
 have HTE : Hid _ := stW_eq hi
 generalize stW ps p i = t at *
 generalize ps.getD p [] = ss at *
 obtain ⟨A, hA⟩ : ∃ A, nxS t p i op = A := ⟨_, rfl⟩
 rw [hA]
 have HA : Hid (nxS t p i op = A) := hA
 clear hA
 obtain ⟨W0, hW0⟩ : ∃ W0, (w.alloc (.cells #[.slice (some ⟨g, off, none⟩) ps.length cap] 30)).alloc (.cells #[.int .i64 (p : Int), .int .i64 (i : Int)] 56) = W0 := ⟨_, rfl⟩
 have b0 : Below w.heap.size w W0 := by rw [← hW0]; go_grown
 have s0 : W0.heap.size = w.heap.size + 2 := by rw [← hW0]; simp
 have H0 : W0.heap[w.heap.size]? = some (.cells #[.slice (some ⟨g, off, none⟩) ps.length cap] 30 (0, 0)) := by rw [← hW0, old_block (by simp)]; exact heap_alloc_new w _
 have H1 : W0.heap[w.heap.size + 1]? = some (.cells #[.int .i64 (p : Int), .int .i64 (i : Int)] 56 (0, 0)) := by
  rw [← hW0]
  have := heap_alloc_new (w.alloc (.cells #[.slice (some ⟨g, off, none⟩) ps.length cap] 30)) (.cells #[.int .i64 (p : Int), .int .i64 (i : Int)] 56)
  simpa using this
 have c0 := (one_cell H0).1
 obtain ⟨c1, c2, _, _⟩ := pl_cells H1
 have hcell := (b0.cell z1).trans hcell
 have q0 := (b0.cell (p := ⟨g2, off2 + i * 3, none⟩) z2).trans q0
 have q1 := (b0.cell (p := ⟨g2, off2 + i * 3 + 1, none⟩) z2).trans q1
 have q2 := (b0.cell (p := ⟨g2, off2 + i * 3 + 2, none⟩) z2).trans q2
 have hpl : (p : Int) < (ps.length : Int) := by omega
 have hil : (i : Int) < (ss.length : Int) := by omega
 have y1 : g < W0.heap.size := by omega
 have y2 : g2 < W0.heap.size := by omega
 have y3 : w.heap.size < W0.heap.size := by omega
 have y4 : w.heap.size + 1 < W0.heap.size := by omega
 have S0 : Hid (W0.heap.size = w.heap.size + 2) := s0
 clear hc hc2 hsz hst s0
 go_enter Try.func93, Try.ntmps93
 go_wp2_with fail
 go_region
 obtain ⟨W1, hW1⟩ : ∃ W1, (W0.alloc (.cells #[.int .i64 t.k, .int .i64 t.x, .int .i64 t.y] 92)).drew = W1 := ⟨_, rfl⟩
 have H2 : W1.heap[W0.heap.size]? = some (.cells #[.int .i64 t.k, .int .i64 t.x, .int .i64 t.y] 92 (0, 0)) := by rw [← hW1]; exact heap_alloc_new W0 _
 have b1 : Below W0.heap.size W0 W1 := by rw [← hW1]; go_grown
 rw [hW1]
 have hW1s : W1.heap.size = W0.heap.size + 1 := by rw [← hW1]; simp
 clear hW1
 obtain ⟨W2, hW2⟩ : ∃ W2, W1.alloc (.cells #[] 56) = W2 := ⟨_, rfl⟩
 have O2 : Hid (OwnPl W2 W1.heap.size (.slice (some ⟨W1.heap.size, 0, none⟩) 0 0) []) := by rw [← hW2]; exact made0P W1
 have b2 : Below W1.heap.size W1 W2 := by rw [← hW2]; go_grown
 have H3 := (b2.block W0.heap.size (by omega)).trans H2
 obtain ⟨k0, k1, k2⟩ := stmt_cells H3
 have B2 : Hid (Below w.heap.size w W2) := (b0.trans (b1.mono b0.size)).trans (b2.mono (by omega))
 have HZ : Hid (W1.heap.size = W0.heap.size + 1) := hW1s
 have b02 : Below W0.heap.size W0 W2 := b1.trans (b2.mono (by omega))
 have C0 : Hid _ := (b02.cell (p := ⟨w.heap.size, 0, none⟩) y3).trans c0
 have C1 : Hid _ := (b02.cell (p := ⟨w.heap.size + 1, 0, none⟩) y4).trans c1
 have C2 : Hid _ := (b02.cell (p := ⟨w.heap.size + 1, 1, none⟩) y4).trans c2
 have C3 : Hid _ := (b02.cell (p := ⟨g, off + p, none⟩) y1).trans hcell
 have HV2 : Hid _ := readsP_below hv B2.out
 have HR2 : Hid _ := reads3_below hR B2.out
 have x1 : W0.heap.size < W2.heap.size := by have := b2.size; omega
 have x3 : W1.heap.size ≤ W2.heap.size := b2.size
 have x2 : w.heap.size ≤ W1.heap.size := by have := HZ.out; have := S0.out; omega
 clear b02 hcell q0 q1 q2 H3 H2 hW1s b0 b1 b2 c0 c1 c2 H0 H1
 obtain ⟨ip, hip, hq0, hq1, hq2⟩ := info_parts infoPlace
 by_cases h8 : t.k = 8
 · obtain ⟨y, hy, hyl⟩ := CanS.y (hps t (by rw [HTE.out]; exact List.getElem_mem _)) h8
   have HE : Hid (A = [(y : Int), 0]) := by
    show A = [(y : Int), 0]
    rw [← HA.out]; unfold nxS; rw [if_pos h8, hy]
   rw [hy] at k2
   rw [h8] at k0
   obtain ⟨m, hm, hown⟩ := O2.out.ex
   have hm0 : m = 0 := by simp at hm; omega
   subst hm0
   have HAL : Hid _ := hown.alloc (.cells #[.int .i64 (y : Int), .int .i64 0] 56)
   have HNW : Hid _ := World.news_of_block (heap_alloc_new W2 (.cells #[.int .i64 (y : Int), .int .i64 0] 56))
   have hm3 : W1.heap.size ≤ (W2.alloc (.cells #[.int .i64 (y : Int), .int .i64 0] 56)).heap.size := by rw [World.size_alloc]; omega
   have BA : Hid (Below w.heap.size w (W2.alloc (.cells #[.int .i64 (y : Int), .int .i64 0] 56))) := B2.out.alloc B2.out.size _
   go_wp2_with (first
    | (at_builtin; refine wpList_append_own _ rfl (.tmp 28) (.tmp 32) 43 rfl W1.heap.size 56 ip (.agg #[.int .i64 0, .int .i64 0]) 2 16 Try.underlying43 hip hq0 hq1 hq2 rfl (by decide) (.slice (some ⟨W1.heap.size, 0, none⟩) 0 0) 0 _ rfl HAL.out ⟨W2.heap.size, 0, none⟩ 1 1 [.int .i64 (y : Int), .int .i64 0] rfl rfl HNW.out (two_one y 0) (by unfold maxLen; omega) (by omega) hm3 ?_; intro v7 w7 own7 grow7 _))
   go_ret
   refine ⟨_, rfl, ?_, ?_⟩
   · rw [HE.out]
     exact ⟨1, rfl, own_mono own7 x2⟩
   · exact BA.out.grown grow7 BA.out.size (fun q hq => by have := (hown.lt q hq).1; omega)
 have ho := reads2_below ho B2.out
 obtain ⟨oo, ocap, rfl, hoc⟩ := ho
 by_cases h9 : t.k = 9
 · rw [h9] at k0
   have HN : Hid (A = lastPl op) := by
    show A = lastPl op
    rw [← HA.out]; unfold nxS; rw [if_neg h8, if_pos h9]
   clear h8 h9
   rcases List.eq_nil_or_concat op with rfl | ⟨op', t', hcc⟩
   · have hl0 : ([] : List (Nat × Nat × Int)).length = 0 := rfl
     rw [hl0]
     go_wp2_with fail
     go_ret
     exact ⟨_, rfl, by rw [HN.out]; exact O2.out.mono x2, B2.out⟩
   · rw [List.concat_eq_append] at hcc
     subst hcc
     have el : (op' ++ [t']).length = op'.length + 1 := by simp
     have e1 : (ints (flatP (op' ++ [t'])))[op'.length * 2]? = some (.int .i64 (t'.1 : Int)) := by
      rw [flatP_app, ints_append, List.getElem?_append_right (by rw [ints_length, flatP_len]; omega), ints_length, flatP_len]
      rw [show op'.length * 2 - 2 * op'.length = 0 by omega]; rfl
     have e2 : (ints (flatP (op' ++ [t'])))[op'.length * 2 + 1]? = some (.int .i64 (t'.2.1 : Int)) := by
      rw [flatP_app, ints_append, List.getElem?_append_right (by rw [ints_length, flatP_len]; omega), ints_length, flatP_len]
      rw [show op'.length * 2 + 1 - 2 * op'.length = 1 by omega]; rfl
     obtain ⟨g5, o5, rfl, c5⟩ := hoc _ _ e1
     obtain ⟨g9, o9, e9, c6⟩ := hoc _ _ e2
     cases e9
     rw [← Nat.add_assoc] at c6
     have hj := hop t' (by simp)
     rw [el] at hl ⊢
     have HM : Hid (A = [(t'.1 : Int), (t'.2.1 : Int) + 1]) := by
      show A = _
      rw [HN.out]; unfold lastPl; simp
     clear hoc e1 e2 el hop
     generalize op'.length = n at *
     obtain ⟨q, j, kk⟩ := t'
     simp only at c5 c6 hj HM
     have z5 := World.block_lt_of_cell? W2 _ c5
     have hw1 : IntKind.i64.wrap ((j : Int) + 1) = (j : Int) + 1 := IntWalk.i64_in _ (by omega)
     have hw2 : IntKind.i64.wrap ((n : Int) + 1 - 1) = (n : Int) := by rw [show (n : Int) + 1 - 1 = n by omega]; exact IntWalk.i64_in _ (by omega)
     obtain ⟨m, hm, hown⟩ := O2.out.ex
     have hm0 : m = 0 := by simp at hm; omega
     subst hm0
     have HOWN : Hid (W2.ownsRow W1.heap.size 56 2 (.slice (some ⟨W1.heap.size, 0, none⟩) 0 0) 0 (ints [])) := hown
     clear hm hown
     have hw3 : IntKind.i64.wrap (n : Int) = (n : Int) := IntWalk.i64_in _ (by omega)
     have hn1 : (n : Int) < (n : Int) + 1 := by omega
     have hn2 : (n : Int) < ((n + 1 : Nat) : Int) := by omega
     have hn3 : (0 : Int) ≤ (n : Int) := by omega
     go_wp2_with fail
     go_region_law (refine step_append_lies _ rfl (.tmp 40) (.tmp 55) 43 rfl W1.heap.size 56 ip (.agg #[.int .i64 0, .int .i64 0]) 2 16 Try.underlying43 hip hq0 hq1 hq2 rfl (by decide) (.slice (some ⟨W1.heap.size, 0, none⟩) 0 0) 0 (ints []) (by simp [Act.eval]) (own_kept HOWN.out (by go_grown)) ⟨W2.heap.size, 0, none⟩ 1 1 [.int .i64 (q : Int), .int .i64 ((j : Int) + 1)] (by simp [Act.eval]) rfl (World.news_of_block (heap_alloc_new W2 _)) (two_one q (j + 1)) (by omega) (by unfold maxLen; omega) (by omega) (by simp; omega) _ rfl ?_; intro g7 cap7 w7 own7 grow7 hat7 hlt7)
     all_goals
      generalize hd9 : Oper.dst _ = x9
      obtain rfl : some 8 = x9 := hd9
      simp only [Act.put, List.setIfInBounds_toArray, List.set_cons_succ, List.set_cons_zero]
      have BA : Hid (Below w.heap.size w (W2.alloc (.cells #[.int .i64 (q : Int), .int .i64 ((j : Int) + 1)] 56))) := B2.out.alloc B2.out.size _
      have F7 : Hid (w7.ownsRow W1.heap.size 56 2 (.slice (some ⟨g7, 0, none⟩) (0 + 1) cap7) (0 + 1) (ints [] ++ [.int .i64 (q : Int), .int .i64 ((j : Int) + 1)])) := own7
      have E7 : Hid (Below w.heap.size w w7) := by
       have BD := Below.drew BA.out
       exact BD.grown grow7 BD.size (fun k hk => by cases hk; exact x2)
      clear own7 grow7 hat7
      go_wp2_with fail
      go_ret
      refine ⟨_, rfl, ?_, E7.out⟩
      rw [HM.out]
      exact ⟨1, rfl, own_mono F7.out x2⟩
 have HN : Hid (A = (nextsS t i).flatMap (fun x => [(p : Int), x])) := by
  show A = _
  rw [← HA.out]; unfold nxS; rw [if_neg h8, if_neg h9]
 have hx8 : (t.k == 8) = false := by simpa using h8
 have hx9 : (t.k == 9) = false := by simpa using h9
 have x5 : w.heap.size < W2.heap.size := by omega
 have x6 : w.heap.size + 1 < W2.heap.size := by omega
 have x7 : g < W2.heap.size := by omega
 have c0 := C0.out
 have c1 := C1.out
 have c2 := C2.out
 have c3 := C3.out
 go_wp2_with fail
 refine wp_region_held_drew (S := fun w' => (w'.cell? ⟨w.heap.size, 0, none⟩ = some (.slice (some ⟨g, off, none⟩) ps.length cap) ∧ w'.cell? ⟨w.heap.size + 1, 0, none⟩ = some (.int .i64 (p : Int))) ∧ w'.cell? ⟨w.heap.size + 1, 1, none⟩ = some (.int .i64 (i : Int)) ∧ w'.cell? ⟨g, off + p, none⟩ = some (.slice (some ⟨g2, off2, none⟩) ss.length cap2)) (by kernel_rfl) ⟨⟨c0, c1⟩, c2, c3⟩ (fun hHeld => ?_)
 refine wpAnyH_take (i := 0) (oi := ?oin0) (v := .pointer (some ⟨w.heap.size, 0, none⟩)) ?hin0 (by kernel_rfl) (by kernel_rfl) (by kernel_rfl) ?hqn0 ?hyn0 hHeld ?hrn0
 case hin0 =>
  simp only [gA, gB, gC]
  rfl
 case hqn0 => exact fun _ _ _ h => h
 case hyn0 => exact Or.inl ⟨by kernel_rfl, fun w hSw => by go_simp⟩
 try simp only [Act.put, gD, gE, gF]
 refine wpAnyH_take (i := 1) (oi := ?oin1) (v := .slice (some ⟨g, off, none⟩) ps.length cap) ?hin1 (by kernel_rfl) (by kernel_rfl) (by kernel_rfl) ?hqn1 ?hyn1 hHeld ?hrn1
 case hin1 =>
  simp only [gA, gB, gC]
  rfl
 case hqn1 => exact fun _ _ _ h => h
 case hyn1 => exact Or.inl ⟨by kernel_rfl, fun w hSw => by obtain ⟨⟨s1, s2⟩, s3, s4⟩ := hSw; go_simp⟩
 try simp only [Act.put, gD, gE, gF]
 refine wpAnyH_take (i := 2) (oi := ?oin2) (v := .pointer (some ⟨w.heap.size + 1, 0, none⟩)) ?hin2 (by kernel_rfl) (by kernel_rfl) (by kernel_rfl) ?hqn2 ?hyn2 hHeld ?hrn2
 case hin2 =>
  simp only [gA, gB, gC]
  rfl
 case hqn2 => exact fun _ _ _ h => h
 case hyn2 => exact Or.inl ⟨by kernel_rfl, fun w hSw => by go_simp⟩
 try simp only [Act.put, gD, gE, gF]
 refine wpAnyH_take (i := 3) (oi := ?oin3) (v := .int .i64 (p : Int)) ?hin3 (by kernel_rfl) (by kernel_rfl) (by kernel_rfl) ?hqn3 ?hyn3 hHeld ?hrn3
 case hin3 =>
  simp only [gA, gB, gC]
  rfl
 case hqn3 => exact fun _ _ _ h => h
 case hyn3 => exact Or.inl ⟨by kernel_rfl, fun w hSw => by obtain ⟨⟨s1, s2⟩, s3, s4⟩ := hSw; go_simp⟩
 try simp only [Act.put, gD, gE, gF]
 refine wpAnyH_take (i := 4) (oi := ?oin4) (v := .pointer (some ⟨g, off + p, none⟩)) ?hin4 (by kernel_rfl) (by kernel_rfl) (by kernel_rfl) ?hqn4 ?hyn4 hHeld ?hrn4
 case hin4 =>
  simp only [gA, gB, gC]
  rfl
 case hqn4 => exact fun _ _ _ h => h
 case hyn4 => exact Or.inl ⟨by kernel_rfl, fun w hSw => by go_simp⟩
 try simp only [Act.put, gD, gE, gF]
 refine wpAnyH_take (i := 5) (oi := ?oin5) (v := .agg #[.slice (some ⟨g2, off2, none⟩) ss.length cap2]) ?hin5 (by kernel_rfl) (by kernel_rfl) (by kernel_rfl) ?hqn5 ?hyn5 hHeld ?hrn5
 case hin5 =>
  simp only [gA, gB, gC]
  rfl
 case hqn5 => exact fun _ _ _ h => h
 case hyn5 => exact Or.inl ⟨by kernel_rfl, fun w hSw => by obtain ⟨⟨s1, s2⟩, s3, s4⟩ := hSw; go_simp⟩
 try simp only [Act.put, gD, gE, gF]
 refine wpAnyH_take (i := 6) (oi := ?oin6) (v := .pointer (some ⟨w.heap.size + 1, 1, none⟩)) ?hin6 (by kernel_rfl) (by kernel_rfl) (by kernel_rfl) ?hqn6 ?hyn6 hHeld ?hrn6
 case hin6 =>
  simp only [gA, gB, gC]
  rfl
 case hqn6 => exact fun _ _ _ h => h
 case hyn6 => exact Or.inl ⟨by kernel_rfl, fun w hSw => by go_simp⟩
 try simp only [Act.put, gD, gE, gF]
 refine wpAnyH_take (i := 7) (oi := ?oin7) (v := .int .i64 (i : Int)) ?hin7 (by kernel_rfl) (by kernel_rfl) (by kernel_rfl) ?hqn7 ?hyn7 hHeld ?hrn7
 case hin7 =>
  simp only [gA, gB, gC]
  rfl
 case hqn7 => exact fun _ _ _ h => h
 case hyn7 => exact Or.inl ⟨by kernel_rfl, fun w hSw => by obtain ⟨⟨s1, s2⟩, s3, s4⟩ := hSw; go_simp⟩
 try simp only [Act.put, gD, gE, gF]
 refine wpAnyH_ready (rs := [8]) (by kernel_rfl) (by simp) ?_
 refine AllReadyH.cons (o := ?oon8) ?hon8 (fun K hK => ?_) AllReadyH.nil
 case hon8 =>
  simp only [gA, gB, gC]
  rfl
 go_simp
 go_at_call 100
 refine (l4Next ss i _ _ hpo hi (reads3_below HR2.out (by go_grown))).mono ?_
 rintro e w3 ⟨g3, cp3, rfl, o3, b3'⟩
 have B3 : Hid (Below W2.heap.size W2 w3) := Below.trans (by go_grown) b3'
 have O3 : Hid _ := o3
 rw [← HTE.out] at *
 clear b3' o3
 go_wp2_with fail
 refine hK.out _ _ ⟨⟨(B3.out.cell x5).trans c0, (B3.out.cell x6).trans c1⟩, (B3.out.cell x6).trans c2, (B3.out.cell x7).trans c3⟩ (fun hHeld => ?_)
 clear hK K
 try simp only [Act.put, gD, gE, gF]
 refine wpAnyH_take (i := 9) (oi := ?oin9) (v := .slice (some ⟨g3, 0, none⟩) (nextsS t (i : Int)).length cp3) ?hin9 (by kernel_rfl) (by kernel_rfl) (by kernel_rfl) ?hqn9 ?hyn9 hHeld ?hrn9
 case hin9 =>
  simp only [gA, gB, gC]
  rfl
 case hqn9 => exact fun _ _ _ h => h
 case hyn9 => exact Or.inl ⟨by kernel_rfl, fun w hSw => by go_simp⟩
 try simp only [Act.put, gD, gE, gF]
 refine wpAnyH_done (by kernel_rfl) ?_ _
 have O3' : Hid (w3.ownsRow W2.heap.size 2 1 (.slice (some ⟨g3, 0, none⟩) (nextsS t (i : Int)).length cp3) (nextsS t (i : Int)).length (ints (nextsS t (i : Int)))) := O3.out
 have hL2 := nextsS_length t i
 have x8 : w.heap.size + 1 < W1.heap.size := by have := HZ.out; have := S0.out; omega
 have B13 : Hid (Below W1.heap.size W2 w3) := B3.out.mono x3
 have O23 : Hid _ := O2.out.below B3.out
 clear O3 O2 c0 c2 c3 C0 C1 C2 C3
 generalize nextsS t (i : Int) = L at *
 go_wp2_with fail
 go_loopw [8, 11] (fun ov kv wr => ∃ k : Nat, k ≤ L.length ∧ kv = .int .i64 k ∧ OwnPl wr W1.heap.size ov ((L.take k).flatMap (fun x => [(p : Int), x])) ∧ wr.ownsRow W2.heap.size 2 1 (.slice (some ⟨g3, 0, none⟩) L.length cp3) L.length (ints L) ∧ Below W1.heap.size W2 wr) (fun _ kv _ => L.length - (intOf kv).toNat)
 case atStart => exact ⟨0, Nat.zero_le _, rfl, O23.out, O3'.out, B13.out⟩
 case round =>
  obtain ⟨k, hk, rfl, hO, hL, hB⟩ := hrel
  have HO : Hid _ := hO
  have HL : Hid (wr.ownsRow W2.heap.size 2 1 (.slice (some ⟨g3, 0, none⟩) L.length cp3) L.length (ints L)) := hL
  have HB : Hid _ := hB
  by_cases hlt : k < L.length
  · have hlt' : (k : Int) < (L.length : Int) := by omega
    have c6 : wr.cell? ⟨g3, k, none⟩ = some (.int .i64 L[k]) := by
     have := hL.cellAt k (by omega)
     rw [this]; simp [ints, hlt]
    have c7 : wr.cell? ⟨w.heap.size + 1, 0, none⟩ = some (.int .i64 (p : Int)) := (hB.cell x8).trans c1
    have z6 := World.block_lt_of_cell? wr _ c6
    have z7 := World.block_lt_of_cell? wr _ c7
    have HST : Hid ((L.take (k + 1)).flatMap (fun x => [(p : Int), x]) = (L.take k).flatMap (fun x => [(p : Int), x]) ++ [(p : Int), L[k]]) := by
     show _ = _
     rw [List.take_succ_eq_append_getElem hlt, List.flatMap_append]; rfl
    obtain ⟨m, hm, hown⟩ := hO.ex
    have hmb : m ≤ 12 := by
     rw [pairs_len] at hm
     simp at hm
     omega
    have HOW : Hid (wr.ownsRow W1.heap.size 56 2 u8 m (ints ((L.take k).flatMap (fun x => [(p : Int), x])))) := hown
    have hlo : ∀ q, u8.ownBlock = some q → W1.heap.size ≤ q := fun q hq => (hown.lt q hq).1
    have HM : Hid _ := hm
    have HLK : Hid ((ints L)[k]? = some (.int .i64 L[k])) := by show _ = _; simp [ints, hlt]
    clear hO hL hB hown hm
    generalize L[k] = x at *
    go_wp2_with fail
    refine wp_region_held_drew (S := fun w' => w'.cell? ⟨g3, k, none⟩ = some (.int .i64 x) ∧ w'.cell? ⟨w.heap.size + 1, 0, none⟩ = some (.int .i64 (p : Int))) (by kernel_rfl) ⟨c6, c7⟩ (fun hHeld => ?_)
    refine wpAnyH_take (i := 0) (oi := ?oiq0) (v := u8) ?hiq0 (by kernel_rfl) (by kernel_rfl) (by kernel_rfl) ?hqq0 ?hyq0 hHeld ?hrq0
    case hiq0 =>
     simp only [gA, gB, gC]
     rfl
    case hqq0 => exact fun _ _ _ h => h
    case hyq0 => exact Or.inl ⟨by kernel_rfl, fun w hSw => by go_simp⟩
    try simp only [Act.put, gD, gE, gF]
    refine wpAnyH_take (i := 1) (oi := ?oiq1) (v := .pointer (some ⟨w.heap.size + 1, 0, none⟩)) ?hiq1 (by kernel_rfl) (by kernel_rfl) (by kernel_rfl) ?hqq1 ?hyq1 hHeld ?hrq1
    case hiq1 =>
     simp only [gA, gB, gC]
     rfl
    case hqq1 => exact fun _ _ _ h => h
    case hyq1 => exact Or.inl ⟨by kernel_rfl, fun w hSw => by go_simp⟩
    try simp only [Act.put, gD, gE, gF]
    refine wpAnyH_take (i := 2) (oi := ?oiq2) (v := .int .i64 (p : Int)) ?hiq2 (by kernel_rfl) (by kernel_rfl) (by kernel_rfl) ?hqq2 ?hyq2 hHeld ?hrq2
    case hiq2 =>
     simp only [gA, gB, gC]
     rfl
    case hqq2 => exact fun _ _ _ h => h
    case hyq2 => exact Or.inl ⟨by kernel_rfl, fun w hSw => by obtain ⟨s1, s2⟩ := hSw; go_simp⟩
    try simp only [Act.put, gD, gE, gF]
    refine wpAnyH_take (i := 3) (oi := ?oiq3) (v := .slice (some ⟨g3, 0, none⟩) L.length cp3) ?hiq3 (by kernel_rfl) (by kernel_rfl) (by kernel_rfl) ?hqq3 ?hyq3 hHeld ?hrq3
    case hiq3 =>
     simp only [gA, gB, gC]
     rfl
    case hqq3 => exact fun _ _ _ h => h
    case hyq3 => exact Or.inl ⟨by kernel_rfl, fun w hSw => by go_simp⟩
    try simp only [Act.put, gD, gE, gF]
    refine wpAnyH_take (i := 4) (oi := ?oiq4) (v := .int .i64 (k : Int)) ?hiq4 (by kernel_rfl) (by kernel_rfl) (by kernel_rfl) ?hqq4 ?hyq4 hHeld ?hrq4
    case hiq4 =>
     simp only [gA, gB, gC]
     rfl
    case hqq4 => exact fun _ _ _ h => h
    case hyq4 => exact Or.inl ⟨by kernel_rfl, fun w hSw => by go_simp⟩
    try simp only [Act.put, gD, gE, gF]
    refine wpAnyH_take (i := 5) (oi := ?oiq5) (v := .pointer (some ⟨g3, k, none⟩)) ?hiq5 (by kernel_rfl) (by kernel_rfl) (by kernel_rfl) ?hqq5 ?hyq5 hHeld ?hrq5
    case hiq5 =>
     simp only [gA, gB, gC]
     rfl
    case hqq5 => exact fun _ _ _ h => h
    case hyq5 => exact Or.inl ⟨by kernel_rfl, fun w hSw => by go_simp⟩
    try simp only [Act.put, gD, gE, gF]
    refine wpAnyH_take (i := 6) (oi := ?oiq6) (v := .int .i64 x) ?hiq6 (by kernel_rfl) (by kernel_rfl) (by kernel_rfl) ?hqq6 ?hyq6 hHeld ?hrq6
    case hiq6 =>
     simp only [gA, gB, gC]
     rfl
    case hqq6 => exact fun _ _ _ h => h
    case hyq6 => exact Or.inl ⟨by kernel_rfl, fun w hSw => by obtain ⟨s1, s2⟩ := hSw; go_simp⟩
    try simp only [Act.put, gD, gE, gF]
    refine wpAnyH_take (i := 7) (oi := ?oiq7) (v := .agg #[.int .i64 (p : Int), .int .i64 x]) ?hiq7 (by kernel_rfl) (by kernel_rfl) (by kernel_rfl) ?hqq7 ?hyq7 hHeld ?hrq7
    case hiq7 =>
     simp only [gA, gB, gC]
     rfl
    case hqq7 => exact fun _ _ _ h => h
    case hyq7 => exact Or.inl ⟨by kernel_rfl, fun w hSw => by go_simp⟩
    try simp only [Act.put, gD, gE, gF]
    refine wpAnyH_ready (rs := [8]) (by kernel_rfl) (by simp) ?_
    refine (AllReadyH.cons (o := ?ooq8) ?hoq8 (fun K hK => ?hkq8) AllReadyH.nil)
    case hoq8 =>
     simp only [gA, gB, gC]
     rfl
    case hkq8 =>
     go_simp
     try go_wp2_with fail
     have B6 : Hid (Below wr.heap.size wr (wr.alloc (.cells #[.int .i64 (p : Int), .int .i64 x] 56)).drew) := Below.drew (Below.alloc (Below.refl _ _) (Nat.le_refl _) _)
     have HNB : Hid ((wr.alloc (.cells #[.int .i64 (p : Int), .int .i64 x] 56)).drew.heap[wr.heap.size]? = _) := heap_alloc_new wr (.cells #[.int .i64 (p : Int), .int .i64 x] 56)
     have hs6 : wr.heap.size < (wr.alloc (.cells #[.int .i64 (p : Int), .int .i64 x] 56)).drew.heap.size := by simp
     generalize hw6 : (wr.alloc (.cells #[.int .i64 (p : Int), .int .i64 x] 56)).drew = w6 at *
     clear hw6
     refine hK.out _ _ ⟨(B6.out.cell z6).trans c6, (B6.out.cell z7).trans c7⟩ (fun hHeld => ?_)
     clear hK K
     try simp only [Act.put, gD, gE, gF]
     refine wpAnyH_ready (rs := [9]) (by kernel_rfl) (by simp) ?_
     refine (AllReadyH.cons (o := ?ooq9) ?hoq9 (fun K hK => ?hkq9) AllReadyH.nil)
     case hoq9 =>
      simp only [gA, gB, gC]
      rfl
     case hkq9 =>
      refine step_append_lies _ rfl (.tmp 73) (.tmp 81) 43 rfl W1.heap.size 56 ip (.agg #[.int .i64 0, .int .i64 0]) 2 16 Try.underlying43 hip hq0 hq1 hq2 rfl (by decide) u8 m _ rfl (own_kept HOW.out B6.out) ⟨wr.heap.size, 0, none⟩ 1 1 [.int .i64 (p : Int), .int .i64 x] rfl rfl (World.news_of_block HNB.out) (two_one p x) (by omega) (by unfold maxLen; omega) (by omega) (by have := HB.out.size; omega) _ rfl ?_
      intro g7 cp7 w7 own7 grow7 hlo7 hlt7
      have S7 : Hid (OwnPl w7 W1.heap.size (.slice (some ⟨g7, 0, none⟩) (m + 1) cp7) ((L.take (k + 1)).flatMap (fun x => [(p : Int), x]))) := by rw [HST.out]; exact ⟨m + 1, by simp [HM.out]; omega, by rw [ints_append]; exact own7⟩
      have L7 : Hid (w7.ownsRow W2.heap.size 2 1 (.slice (some ⟨g3, 0, none⟩) L.length cp3) L.length (ints L)) := own_same (own_kept HL.out B6.out) (fun q hq => grow7.block q ((own_kept HL.out B6.out).lt q hq).2 (fun e => row_kind (own_kept HL.out B6.out) (own_kept HOW.out B6.out) (by decide) hq e.symm))
      have B7 : Hid (Below W1.heap.size W2 w7) := (HB.out.trans (B6.out.mono (Nat.le_trans x3 HB.out.size))).grown grow7 (Nat.le_trans x3 (Nat.le_trans HB.out.size B6.out.size)) hlo
      have d7 : w7.cell? ⟨g3, k, none⟩ = some (.int .i64 x) := by rw [L7.out.cellAt k (by omega)]; exact HLK.out
      have d8 : w7.cell? ⟨w.heap.size + 1, 0, none⟩ = some (.int .i64 (p : Int)) := (B7.out.cell x8).trans c1
      clear own7 grow7 hlo7
      refine hK.out _ _ ⟨d7, d8⟩ (fun hHeld => ?_)
      clear hK K
      try simp only [Act.put, gD, gE, gF]
      refine wpAnyH_take (i := 10) (oi := ?oiq10) (v := .slice (some ⟨g7, 0, none⟩) (m + 1) cp7) ?hiq10 (by kernel_rfl) (by kernel_rfl) (by kernel_rfl) ?hqq10 ?hyq10 hHeld ?hrq10
      case hiq10 =>
       simp only [gA, gB, gC]
       rfl
      case hqq10 => exact fun _ _ _ h => h
      case hyq10 => exact Or.inl ⟨by kernel_rfl, fun w hSw => by go_simp⟩
      try simp only [Act.put, gD, gE, gF]
      refine wpAnyH_done (by kernel_rfl) ?_ _
      go_wp2_with fail
      go_roundw
      case rel => exact ⟨k + 1, by omega, by go_num, S7.out, L7.out, B7.out⟩
      case measure => simp [intOf]; omega
  · have hkk : k = L.length := by omega
    subst hkk
    rw [List.take_length] at HO
    go_wp2_with fail
    go_ret
    exact ⟨_, rfl, by rw [HN.out]; exact HO.out.mono x2, (B2.out.trans (Below.mono HB.out x2))⟩

end Go.Proofs.Ytnjbihfceckpfaa
