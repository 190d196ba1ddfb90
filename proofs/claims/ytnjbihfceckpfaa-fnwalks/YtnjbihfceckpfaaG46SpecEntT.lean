/-
 Put together out of: ImplNoFind, FactsM, SpecEntT.
-/
import Derived.Test.YtnjbihfceckpfaaG00Stmt
import Derived.Test.YtnjbihfceckpfaaImplBegin
import Derived.Test.YtnjbihfceckpfaaG45ImplTop
import Derived.Test.YtnjbihfceckpfaaSpecEnt
/-
 Chapter 11, the program's side: noFindings.
-/
namespace Go.Proofs.Ytnjbihfceckpfaa
open Go.RowKit
set_option linter.unusedVariables false
set_option linter.unusedSimpArgs false
set_option maxHeartbeats 4000000
set_option maxRecDepth 20000

/-- I has the relations of every statement. -/
def InI (c : Int) (ps : List (List Stm)) (I : Nat → Nat → List Int) : Prop := ∃ T, IsTables c ps T ∧ ∀ a (ha : a < ps.length), ∃ R, IsInner (effN c T ps[a]) ps[a] R ∧ ∀ k, k < ps[a].length → I a k = R.getD k []

theorem InI.good {c : Int} {ps : List (List Stm)} {I : Nat → Nat → List Int} (h : InI c ps I) : GoodI ps I := fun i hi k hk => by
 obtain ⟨T, _, hR⟩ := h
 obtain ⟨R, h1, h2⟩ := hR i hi
 rw [h2 k hk]
 exact h1.good k hk

theorem InI.uniq {c : Int} {ps : List (List Stm)} (hp : CanP ps) {I J : Nat → Nat → List Int} (h : InI c ps I) (h' : InI c ps J) {i : Nat} (hi : i < ps.length) {k : Nat} (hk : k < ps[i].length) : I i k = J i k := by
 obtain ⟨T, hT, hR⟩ := h
 obtain ⟨U, hU, hQ⟩ := h'
 obtain ⟨R, r1, r2⟩ := hR i hi
 obtain ⟨Q, q1, q2⟩ := hQ i hi
 rw [r2 k hk, q2 k hk]
 have q1' : IsInner (effN c T ps[i]) ps[i] Q := inner_eq (fun j hj => by
  rw [effN_eq hj, effN_eq hj]
  exact effL_eq (fun a ha => hU.uniq hT ha) ((hp i hi).2 _ (List.getElem_mem hj))) q1
 exact r1.uniq q1' hk

theorem zeroF (v : Value) (A W : Nat) : (((Try.zeroCells73.setIfInBounds 0 v).setIfInBounds 341 (.map (some A))).setIfInBounds 342 (.map (some W))) = (FBc v (List.replicate 48 zero7) [0, 0, 0, 0] A W).toArray := by kernel_rfl

theorem start_world (v : Value) (T : List (List Int)) (w : World) : ∃ Wn, Wn = ((((w.alloc (.cells #[v] 30)).alloc (.cells (ints T.flatten).toArray 88)).alloc (.map #[] 0)).alloc (.map #[] 0)).alloc (.cells (((Try.zeroCells73.setIfInBounds 0 v).setIfInBounds 341 (.map (some (w.heap.size + 1 + 1)))).setIfInBounds 342 (.map (some (w.heap.size + 1 + 1 + 1)))) 73) ∧
 FND v (List.replicate 48 zero7) w (w.heap.size + 1 + 1 + 1 + 1) (w.heap.size + 1 + 1) (w.heap.size + 1 + 1 + 1) 0 0 [0, 0, 0, 0] emptyF emptyF Wn ∧ Wn.heap[w.heap.size]? = some (.cells #[v] 30 (0, 0)) ∧ Wn.heap.size = w.heap.size + 1 + 1 + 1 + 1 + 1 ∧ TabR Wn (w.heap.size + 1) 88 T := by
 refine ⟨_, rfl, ⟨?_, ?_, ?_, by go_grown⟩, ?_, by simp, ?_⟩
 · unfold FB
   rw [zeroF]
   have := heap_alloc_new ((((w.alloc (.cells #[v] 30)).alloc (.cells (ints T.flatten).toArray 88)).alloc (.map #[] 0)).alloc (.map #[] 0)) (.cells (FBc v (List.replicate 48 zero7) [0, 0, 0, 0] (w.heap.size + 1 + 1) (w.heap.size + 1 + 1 + 1)).toArray 73)
   simpa using this
 · have h := MapAt.made ((w.alloc (.cells #[v] 30)).alloc (.cells (ints T.flatten).toArray 88))
   have h2 : MapAt (((((w.alloc (.cells #[v] 30)).alloc (.cells (ints T.flatten).toArray 88)).alloc (.map #[] 0)).alloc (.map #[] 0)).alloc (.cells (((Try.zeroCells73.setIfInBounds 0 v).setIfInBounds 341 (.map (some (w.heap.size + 1 + 1)))).setIfInBounds 342 (.map (some (w.heap.size + 1 + 1 + 1)))) 73)) _ 0 emptyF := h.below (by go_grown)
   simpa using h2
 · have h := MapAt.made (((w.alloc (.cells #[v] 30)).alloc (.cells (ints T.flatten).toArray 88)).alloc (.map #[] 0))
   have h2 : MapAt (((((w.alloc (.cells #[v] 30)).alloc (.cells (ints T.flatten).toArray 88)).alloc (.map #[] 0)).alloc (.map #[] 0)).alloc (.cells (((Try.zeroCells73.setIfInBounds 0 v).setIfInBounds 341 (.map (some (w.heap.size + 1 + 1)))).setIfInBounds 342 (.map (some (w.heap.size + 1 + 1 + 1)))) 73)) _ 0 emptyF := h.below (by go_grown)
   simpa using h2
 · rw [old_block (by simp; omega), old_block (by simp; omega), old_block (by simp; omega), old_block (by simp)]
   exact heap_alloc_new w _
 · unfold TabR
   rw [old_block (by simp), old_block (by simp), old_block (by simp)]
   have := heap_alloc_new (w.alloc (.cells #[v] 30)) (.cells (ints T.flatten).toArray 88)
   simpa using this

theorem step_inner {c : Int} {ps : List (List Stm)} {T gs R : List (List Int)} {i a : Nat} (ha : a < ps.length) (hg : Rows7 48 gs) (hR : Rows7 12 R) (hi4 : i < 4) (h12 : ps[a].length ≤ 12) {hi : i < ps.length} (hI : IsInner (effN c T ps[i]) ps[i] R)
 (hD : ∀ a (ha : a < ps.length), a < i → ∃ R, IsInner (effN c T ps[a]) ps[a] R ∧ ∀ k, k < ps[a].length → gs.getD (12 * a + k) [] = R.getD k []) (hai : a < i + 1) :
 ∃ Q, IsInner (effN c T ps[a]) ps[a] Q ∧ ∀ k, k < ps[a].length → (putT gs i R).getD (12 * a + k) [] = Q.getD k [] := by
 by_cases e : a = i
 · subst e
   exact ⟨R, hI, fun k hk => by rw [putT_at hg hR hi4 (by omega), if_pos rfl]⟩
 · obtain ⟨Q, q1, q2⟩ := hD a ha (by omega)
   exact ⟨Q, q1, fun k hk => by rw [putT_at hg hR hi4 (by omega), if_neg e]; exact q2 k hk⟩

theorem e84 {R : List (List Int)} (h : Rows7 12 R) : (ints R.flatten).toArray.size = 84 := by simp [ints_length, h.flat]

theorem noFindings (ps : List (List Stm)) (c : Int) (T : List (List Int)) (v : Value) (w : World) (hc : c = 1 ∨ c = 2) (hp : CanP ps) (h4 : ps.length ≤ 4) (hT7 : Rows7 4 T) (hT : IsTables c ps T) (hv : ReadsP w v ps) :
 Calls Try.prog 111 #[.agg #[v], .int .i64 c, tabR T] w fun e w' => ∃ gs G A W, e = .returned (.pointer (some ⟨G, 0, none⟩)) ∧ Rows7 48 gs ∧ InI c ps (fun a k => gs.getD (12 * a + k) []) ∧ FND v gs w G A W 0 0 [0, 0, 0, 0] emptyF emptyF w' ∧ Apart3 w G A W := by
 have hmm := @run_makeMap Try.prog
 have hv0 := hv
 obtain ⟨ao, cap, rfl, hcell⟩ := hv
 obtain ⟨Wn, hWn, hFS, hPB, hsz, hTW⟩ := start_world (.slice ao ps.length cap) T w
 have hap : Apart3 w (w.heap.size + 1 + 1 + 1 + 1) (w.heap.size + 1 + 1) (w.heap.size + 1 + 1 + 1) := ⟨by omega, by omega, by omega, by omega, by omega, by omega⟩
 have HT7 : Hid (Rows7 4 T) := hT7
 have HT : Hid _ := hT
 have HT5 : Hid (TabR Wn (w.heap.size + 1) 88 T) := hTW
 obtain ⟨ts, hts⟩ : ∃ ts, ints T.flatten = ts := ⟨_, rfl⟩
 rw [hts] at hWn
 unfold tabR
 rw [hts]
 go_enter Try.func111, Try.ntmps111
 have h12 : ∀ a (ha : a < ps.length), ps[a].length ≤ 12 := fun a ha => (procOk_parts (hp a ha).1).2.1
 obtain ⟨k5, f5⟩ := one_cell hPB
 have HFS5 : Hid _ := hFS
 clear hFS hPB hT7 hT hTW
 go_wp2_with fail
 rw [← hWn]
 clear hWn
 have S0 : Hid (TabR Wn (w.heap.size + 1) 88 T) := HT5.out
 clear k5 f5
 go_loopw [19] (fun kv wr => ∃ (i : Nat) (gs : List (List Int)), i ≤ ps.length ∧ kv = .int .i64 i ∧ FND (.slice ao ps.length cap) gs w (w.heap.size + 1 + 1 + 1 + 1) (w.heap.size + 1 + 1) (w.heap.size + 1 + 1 + 1) 0 0 [0, 0, 0, 0] emptyF emptyF wr ∧ Rows7 48 gs ∧ TabR wr (w.heap.size + 1) 88 T ∧
  ∀ a (ha : a < ps.length), a < i → ∃ R, IsInner (effN c T ps[a]) ps[a] R ∧ ∀ k, k < ps[a].length → gs.getD (12 * a + k) [] = R.getD k []) (fun kv _ => ps.length - (intOf kv).toNat)
 case atStart => exact ⟨0, _, Nat.zero_le _, rfl, HFS5.out, Rows7.zero 48, S0.out, fun a ha h => absurd h (by omega)⟩
 case round =>
  obtain ⟨i, gs, hi, rfl, S, hG, hTR, hD⟩ := hrel
  have HS : Hid _ := S
  have HG : Hid (Rows7 48 gs) := hG
  have HTR : Hid (TabR wr (w.heap.size + 1) 88 T) := hTR
  have HD : Hid _ := hD
  have zT := hTR.lt
  have zG9 := S.fb.lt
  clear HFS5 S0 HT5 S hG hTR hD
  by_cases hlt : i < ps.length
  · have hlt' : (i : Int) < (ps.length : Int) := by omega
    have hi := hlt
    have hi4 : i < 4 := by omega
    have hi4' : (i : Int) < 4 := by omega
    obtain ⟨gp, op, u, rfl, hu0, hU⟩ := hcell i ps[i] (by simp [hlt])
    have hu := (HS.out.bl.cell (World.block_lt_of_cell? w _ hu0)).trans hu0
    have HU : Hid (Reads3 w u ps[i]) := hU
    obtain ⟨au, cu, rfl, _⟩ := id hU
    have b6 : Below wr.heap.size wr (wr.alloc (.cells #[.slice au ps[i].length cu] 81)) := by go_grown
    have HX6 : Hid _ := heap_alloc_new wr (.cells #[.slice au ps[i].length cu] 81)
    have HS6 : Hid _ := HS.out.below b6
    have HT6 : Hid (TabR (wr.alloc (.cells #[.slice au ps[i].length cu] 81)) (w.heap.size + 1) 88 T) := TabR.below HTR.out b6
    have hsW : wr.heap.size < (wr.alloc (.cells #[.slice au ps[i].length cu] 81)).heap.size := by simp
    clear hu0 hU
    go_wp2_with fail
    have HB6 : Hid _ := HS6.out.bl
    have hX := one_cell HX6.out
    generalize wr.alloc (.cells #[.slice au ps[i].length cu] 81) = W6 at *
    refine wp_region_held_drew (S := fun w' => w'.cell? ⟨wr.heap.size, 0, none⟩ = some (.slice au ps[i].length cu) ∧ TabR w' (w.heap.size + 1) 88 T) (by kernel_rfl) ⟨hX.1, HT6.out⟩ (fun hHeld => ?_)
    refine wpAnyH_take (i := 0) (oi := ?oin0) (v := .pointer (some ⟨w.heap.size + 1 + 1 + 1 + 1, 0, none⟩)) ?hin0 (by kernel_rfl) (by kernel_rfl) (by kernel_rfl) ?hqn0 ?hyn0 hHeld ?hrn0
    case hin0 =>
     simp only [gA, gB, gC]
     rfl
    case hqn0 => exact fun _ _ _ h => h
    case hyn0 => exact Or.inl ⟨by kernel_rfl, fun w hSw => by go_simp⟩
    try simp only [Act.put, gD, gE, gF]
    refine wpAnyH_take (i := 1) (oi := ?oin1) (v := .int .i64 (i : Int)) ?hin1 (by kernel_rfl) (by kernel_rfl) (by kernel_rfl) ?hqn1 ?hyn1 hHeld ?hrn1
    case hin1 =>
     simp only [gA, gB, gC]
     rfl
    case hqn1 => exact fun _ _ _ h => h
    case hyn1 => exact Or.inl ⟨by kernel_rfl, fun w hSw => by go_simp⟩
    try simp only [Act.put, gD, gE, gF]
    refine wpAnyH_take (i := 2) (oi := ?oin2) (v := .agg #[.slice au ps[i].length cu]) ?hin2 (by kernel_rfl) (by kernel_rfl) (by kernel_rfl) ?hqn2 ?hyn2 hHeld ?hrn2
    case hin2 =>
     simp only [gA, gB, gC]
     rfl
    case hqn2 => exact fun _ _ _ h => h
    case hyn2 => exact Or.inl ⟨by kernel_rfl, fun w hSw => by obtain ⟨s1, s2⟩ := hSw; go_simp⟩
    try simp only [Act.put, gD, gE, gF]
    refine wpAnyH_take (i := 3) (oi := ?oin3) (v := .int .i64 c) ?hin3 (by kernel_rfl) (by kernel_rfl) (by kernel_rfl) ?hqn3 ?hyn3 hHeld ?hrn3
    case hin3 =>
     simp only [gA, gB, gC]
     rfl
    case hqn3 => exact fun _ _ _ h => h
    case hyn3 => exact Or.inl ⟨by kernel_rfl, fun w hSw => by go_simp⟩
    try simp only [Act.put, gD, gE, gF]
    refine wpAnyH_take (i := 4) (oi := ?oin4) (v := tabR T) ?hin4 (by kernel_rfl) (by kernel_rfl) (by kernel_rfl) ?hqn4 ?hyn4 hHeld ?hrn4
    case hin4 =>
     simp only [gA, gB, gC]
     rfl
    case hqn4 => exact fun _ _ _ h => h
    case hyn4 => exact yieldsIf_load_mid (by kernel_rfl) 88 (.tmp 5) rfl (w.heap.size + 1) 0 rfl (ints T.flatten) _ (fun w hSw => hSw.2.range) isTab4.und rfl (by rw [isTab4.size, ints_length, HT7.out.flat])
    try simp only [Act.put, gD, gE, gF]
    refine wpAnyH_take (i := 6) (oi := ?oin6) (v := .pointer (some ⟨w.heap.size + 1 + 1 + 1 + 1, 0, none⟩)) ?hin6 (by kernel_rfl) (by kernel_rfl) (by kernel_rfl) ?hqn6 ?hyn6 hHeld ?hrn6
    case hin6 =>
     simp only [gA, gB, gC]
     rfl
    case hqn6 => exact fun _ _ _ h => h
    case hyn6 => exact Or.inl ⟨by kernel_rfl, fun w hSw => by go_simp⟩
    try simp only [Act.put, gD, gE, gF]
    refine wpAnyH_take (i := 7) (oi := ?oin7) (v := .pointer (some ⟨w.heap.size + 1 + 1 + 1 + 1, 1, none⟩)) ?hin7 (by kernel_rfl) (by kernel_rfl) (by kernel_rfl) ?hqn7 ?hyn7 hHeld ?hrn7
    case hin7 =>
     simp only [gA, gB, gC]
     rfl
    case hqn7 => exact fun _ _ _ h => h
    case hyn7 => exact Or.inl ⟨by kernel_rfl, fun w hSw => by go_simp⟩
    try simp only [Act.put, gD, gE, gF]
    refine wpAnyH_ready (rs := [5]) (by kernel_rfl) (by simp) ?_
    refine (AllReadyH.cons (o := ?oon5) ?hon5 (fun K hK => ?hkn5) AllReadyH.nil)
    case hon5 =>
     simp only [gA, gB, gC]
     rfl
    case hkn5 =>
     go_simp
     go_at_call 117
     refine (relationsWith ps[i] c T ps.length (.slice au ps[i].length cu) _ hc h4 (hp i hi).1 (hp i hi).2 HT7.out HT.out.good (reads3_below HU.out (Below.drew HB6.out))).mono ?_
     rintro e w7 ⟨R, rfl, hR12, hRI, b7⟩
     have HR12 : Hid (Rows7 12 R) := hR12
     have HRI : Hid _ := hRI
     have HB7 : Hid (Below W6.heap.size W6 w7) := (Below.drew (Below.refl W6.heap.size W6)).trans b7
     clear b7 hR12 hRI
     try go_wp2_with fail
     refine hK.out _ _ ⟨(HB7.out.cell hsW).trans hX.1, TabR.below HT6.out HB7.out⟩ (fun hHeld => ?_)
     clear hK K
     try simp only [Act.put, gD, gE, gF]
     refine wpAnyH_take (i := 8) (oi := ?oin8) (v := .pointer (some ⟨w.heap.size + 1 + 1 + 1 + 1, 1 + i * 84, none⟩)) ?hin8 (by kernel_rfl) (by kernel_rfl) (by kernel_rfl) ?hqn8 ?hyn8 hHeld ?hrn8
     case hin8 =>
      simp only [gA, gB, gC]
      rfl
     case hqn8 => exact fun _ _ _ h => h
     case hyn8 => exact Or.inl ⟨by kernel_rfl, fun w hSw => by go_simp⟩
     try simp only [Act.put, gD, gE, gF]
     refine wpAnyH_ready (rs := [9]) (by kernel_rfl) (by simp) ?_
     refine (AllReadyH.cons (o := ?oon9) ?hon9 (fun K hK => ?hkn9) AllReadyH.nil)
     case hon9 =>
      simp only [gA, gB, gC]
      rfl
     case hkn9 =>
      have HS7 : Hid _ := HS6.out.below HB7.out
      have HT7b : Hid (TabR w7 (w.heap.size + 1) 88 T) := TabR.below HT6.out HB7.out
      refine wp_store_mid 66 (.tmp 32) (.tmp 29) rfl (w.heap.size + 1 + 1 + 1 + 1) (1 + i * 84) (ints R.flatten).toArray rfl rfl (by rw [e84 HR12.out]; exact HS7.out.fb.there HG.out rfl (by omega)) (by rw [isTab12.size, e84 HR12.out]) (ints_one _) ?_
      simp only [List.toList_toArray]
      have HS8 : Hid _ := HS7.out.turnG hap (grown_setCells7 _ _ _ _) (HS7.out.fb.put HG.out rfl HR12.out hi4)
      have HT8 : Hid (TabR (w7.setCells (w.heap.size + 1 + 1 + 1 + 1) (1 + i * 84) (ints R.flatten)) (w.heap.size + 1) 88 T) := TabR.grown HT7b.out (grown_setCells7 (w.heap.size + 1 + 1 + 1 + 1) (ints R.flatten) (1 + i * 84) w7) (fun e => by have := Option.some.inj e; omega)
      have HBX8 : Hid ((w7.setCells (w.heap.size + 1 + 1 + 1 + 1) (1 + i * 84) (ints R.flatten)).cell? ⟨wr.heap.size, 0, none⟩ = some (.slice au ps[i].length cu) ∧ TabR (w7.setCells (w.heap.size + 1 + 1 + 1 + 1) (1 + i * 84) (ints R.flatten)) (w.heap.size + 1) 88 T) := ⟨(cell_grown (grown_setCells7 (w.heap.size + 1 + 1 + 1 + 1) (ints R.flatten) (1 + i * 84) w7) (by omega) (Nat.lt_of_lt_of_le hsW HB7.out.size) 0).trans ((HB7.out.cell hsW).trans hX.1), HT8.out⟩
      refine hK.out _ _ HBX8.out (fun hHeld => ?_)
      clear hK K
      try simp only [Act.put, gD, gE, gF]
      refine wpAnyH_done (by kernel_rfl) ?_ _
      go_wp2_with fail
      go_roundw
      case rel => exact ⟨i + 1, _, by omega, by go_num, HS8.out, putT_rows HG.out HR12.out hi4, HT8.out, fun a ha hai => step_inner ha HG.out HR12.out hi4 (h12 a ha) HRI.out HD.out hai⟩
      case measure => simp [intOf]; omega
  · have hii : i = ps.length := by omega
    subst hii
    go_wp2_with fail
    go_ret
    exact ⟨gs, _, _, _, rfl, HG.out, ⟨T, HT.out, fun a ha => HD.out a ha ha⟩, HS.out, hap⟩

end Go.Proofs.Ytnjbihfceckpfaa

/-
 Chapter 11, mathematics: what the functions of the chapter answer.
-/
namespace Go.Proofs.Ytnjbihfceckpfaa
open Go.RowKit
set_option linter.unusedVariables false
set_option maxHeartbeats 1000000

theorem goesIn_congr {c : Int} {I J : Nat → Nat → List Int} {E : List Int} {i k : Nat} (h : I i k = J i k) : goesIn c I E i k = goesIn c J E i k := by unfold goesIn; rw [h]

theorem IsEnt.congr {c : Int} {ps : List (List Stm)} {I J : Nat → Nat → List Int} (h : ∀ i (hi : i < ps.length) k, k < ps[i].length → I i k = J i k) {E : List Int} (hE : IsEnt c ps I E) : IsEnt c ps J E := by
 have cl : ∀ {I J : Nat → Nat → List Int}, (∀ i (hi : i < ps.length) k, k < ps[i].length → I i k = J i k) → ∀ F, CloE c ps I F → CloE c ps J F := fun {I J} h F hF => ⟨hF.1, fun i hi k hk h8 => by
  rw [← goesIn_congr (h i hi k hk)]; exact hF.2 i hi k hk h8⟩
 exact ⟨hE.small, cl h E hE.clo, fun F hF hcl => hE.low F hF (cl (fun i hi k hk => (h i hi k hk).symm) F hcl)⟩

theorem ini_some {c : Int} (hc : c = 1 ∨ c = 2) {ps : List (List Stm)} (hp : CanP ps) : ∃ I, InI c ps I := by
 obtain ⟨T, _, hT⟩ := tables_some hc hp
 have h : ∀ a (ha : a < ps.length), ∃ R, IsInner (effN c T ps[a]) ps[a] R := fun a ha => by
  obtain ⟨R, _, h⟩ := inner_some (hp a ha).1 (fun j hj => effN_smalls hc hp hT.good ha hj)
  exact ⟨R, h⟩
 refine ⟨fun a k => if ha : a < ps.length then (Classical.choose (h a ha)).getD k [] else [], T, hT, fun a ha => ⟨Classical.choose (h a ha), Classical.choose_spec (h a ha), fun k hk => ?_⟩⟩
 simp only [dif_pos ha]

/-- The relations and the sets at the entries. -/
structure FA (ps : List (List Stm)) (c : Int) (I : Nat → Nat → List Int) (E : List Int) : Prop where
 inn : InI c ps I
 len : E.length = ps.length
 ent : IsEnt c ps I E

theorem ok_one {ps : List (List Stm)} {c : Int} (h : okB ps c = true) : 1 ≤ ps.length := by
 unfold okB programOk at h
 simp only [Bool.and_eq_true, decide_eq_true_eq] at h
 omega

theorem fa_some {ps : List (List Stm)} {c : Int} (h : okB ps c = true) : ∃ I E, FA ps c I E := by
 obtain ⟨_, hc, hp, _⟩ := okB_parts h
 obtain ⟨I, hI⟩ := ini_some hc hp
 obtain ⟨E, h1, h2⟩ := ent_some hc hp (ok_one h) hI.good
 exact ⟨I, E, hI, h1, h2⟩

theorem FA.eq {ps : List (List Stm)} {c : Int} (hp : CanP ps) {I J : Nat → Nat → List Int} {E F : List Int} (h : FA ps c I E) (hJ : InI c ps J) (hF : IsEnt c ps J F) {i : Nat} (hi : i < ps.length) : F.getD i 0 = E.getD i 0 :=
 (hF.congr (fun i hi k hk => hJ.uniq hp h.inn hi hk)).uniq h.ent hi

theorem InI.inner {c : Int} {ps : List (List Stm)} (hp : CanP ps) {I : Nat → Nat → List Int} (h : InI c ps I) {T : List (List Int)} (hT : IsTables c ps T) (i : Nat) (hi : i < ps.length) (R : List (List Int)) (hR : IsInner (effN c T ps[i]) ps[i] R) (k : Nat) (hk : k < ps[i].length) : R.getD k [] = I i k := by
 obtain ⟨U, hU, hQ⟩ := h
 obtain ⟨Q, q1, q2⟩ := hQ i hi
 rw [q2 k hk]
 have q1' : IsInner (effN c T ps[i]) ps[i] Q := inner_eq (fun j hj => by
  rw [effN_eq hj, effN_eq hj]
  exact effL_eq (fun a ha => hU.uniq hT ha) ((hp i hi).2 _ (List.getElem_mem hj))) q1
 exact hR.uniq q1' hk

/-- The facts of a procedure; of all. -/
def rowF (I : Nat → Nat → List Int) (E : List Int) (i n : Nat) : List Int := (List.range n).map fun k => img (I i k) (E.getD i 0)
def factL (ps : List (List Stm)) (I : Nat → Nat → List Int) (E : List Int) : List (List Int) := (List.range ps.length).map fun i => rowF I E i (ps.getD i []).length

/-- What Facts answers. -/
def FactA (ps : List (List Stm)) (c : Int) (A : List (List Int)) : Prop := (okB ps c = true → ∃ I E, FA ps c I E ∧ A = factL ps I E) ∧ (okB ps c = false → A = [])

theorem factA_some (ps : List (List Stm)) (c : Int) : ∃ A, FactA ps c A := by
 cases h : okB ps c with
 | false => exact ⟨[], by simp [h], fun _ => rfl⟩
 | true =>
  obtain ⟨I, E, hE⟩ := fa_some h
  exact ⟨factL ps I E, fun _ => ⟨I, E, hE, rfl⟩, by simp [h]⟩

theorem factL_get {ps : List (List Stm)} {I : Nat → Nat → List Int} {E : List Int} {i : Nat} (hi : i < ps.length) : (factL ps I E)[i]? = some (rowF I E i ps[i].length) := by
 simp [factL, hi, List.getD]

theorem FA.rows {ps : List (List Stm)} {c : Int} (hp : CanP ps) {I J : Nat → Nat → List Int} {E F : List Int} (h : FA ps c I E) (hJ : InI c ps J) (hF : IsEnt c ps J F) {i : Nat} (hi : i < ps.length) {k : Nat} (hk : k < ps[i].length) : img (J i k) (F.getD i 0) = img (I i k) (E.getD i 0) := by
 rw [h.eq hp hJ hF hi, hJ.uniq hp h.inn hi hk]

end Go.Proofs.Ytnjbihfceckpfaa

/-
 Chapter 11, the specification's side: Entries.
-/
namespace Go.Proofs.Ytnjbihfceckpfaa
open Go.RowKit
set_option linter.unusedVariables false
set_option linter.unusedSimpArgs false
set_option maxHeartbeats 4000000
set_option maxRecDepth 20000

end Go.Proofs.Ytnjbihfceckpfaa
