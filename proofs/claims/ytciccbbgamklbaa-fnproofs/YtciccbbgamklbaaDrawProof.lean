/-
  spec.DrawProof: some Proc in a row of its own, four numbers.
-/
import Derived.Test.YtciccbbgamklbaaDrawSolved
import Derived.Test.YtciccbbgamklbaaDrawWayOk
namespace Go.Proofs.Ytciccbbgamklbaa
open Go.RowKit
set_option linter.unusedVariables false
set_option linter.unusedSimpArgs false
set_option maxRecDepth 20000
set_option maxHeartbeats 2000000
attribute [local go_sem ↓] Go.wp_at_zero Go.wp_at_succ

theorem drawProof (bs : List Int) (v : Value) (w : World) (hl : bs.length ≤ 1048576) (hv : Reads w v (bs.map (Value.int .u8))) :
    Calls Try.prog 15 #[v] w fun e w' => ∃ (u : Value) (ss : List Stm) (n s a f : Int), e = .returned (.tuple #[.agg #[u], .int .i64 n, .int .i64 s, .int .i64 a, .int .i64 f]) ∧ 1 ≤ ss.length ∧ ss.length ≤ 7 ∧ 0 ≤ a ∧ a ≤ ss.length ∧ 0 ≤ f ∧ f ≤ 8 ∧ w'.ownsRow w.heap.size 54 3 u ss.length (cells3 ss) ∧ Below w.heap.size w w' := by
  have hb0 : Below w.heap.size w (w.alloc (.cells #[.slice none 0 0] 30)) := by go_grown
  go_enter Try.func15, Try.ntmps15
  go_wp2_with fail
  go_at_call 37
  refine (l1New bs v _ hl (reads_below hv hb0)).mono ?_
  rintro e w1 ⟨g, rfl, hg, hc1, b1⟩
  have lt1 : w.heap.size < g := by have := hg; simp at this; omega
  have R1 : w1.heap[w.heap.size]? = some (.cells #[.slice none 0 0] 30 (0, 0)) := (b1.block _ (by simp)).trans (heap_alloc_new w _)
  have L1 : Below w.heap.size w w1 := hb0.trans (b1.mono hb0.size)
  have g1 := curLt hc1
  go_wp2_with fail
  go_at_call 38
  refine (drawSolved bs v w1 hl (reads_below hv L1)).mono ?_
  rintro e w2 ⟨u, ss, n, s, rfl, h1, h7, own2, b2⟩
  have hc2 := cur_below hc1 b2
  have s2 := b2.size
  have R2 := (b2.block w.heap.size (by omega)).trans R1
  have L2 : Below w.heap.size w w2 := L1.trans (b2.mono L1.size)
  obtain ⟨ua, un, uc, hu⟩ := ownSlice own2
  subst hu
  have hun : un = ss.length := by have := reads3_own own2; obtain ⟨_, _, h, _⟩ := this; cases h; rfl
  subst hun
  obtain ⟨w3, hw3⟩ : ∃ W, w2.alloc (.cells #[.slice ua ss.length uc] 30) = W := ⟨_, rfl⟩
  obtain ⟨P, hP⟩ : ∃ n, w2.heap.size = n := ⟨_, rfl⟩
  have z3 : w3.heap.size = P + 1 := by rw [← hw3, ← hP]; simp
  have X3 : w3.heap[P]? = some (.cells #[.slice ua ss.length uc] 30 (0, 0)) := by rw [← hw3, ← hP]; exact heap_alloc_new w2 _
  have hc3 : Cur w3 g bs := by rw [← hw3]; exact curAlloc hc2 _
  have R3 : w3.heap[w.heap.size]? = some (.cells #[.slice none 0 0] 30 (0, 0)) := by rw [← hw3]; exact (old_block (by omega)).trans R2
  have L3 : Below w.heap.size w w3 := by rw [← hw3]; exact L2.alloc L2.size _
  have own3 : w3.ownsRow w1.heap.size 54 3 (.slice ua ss.length uc) ss.length (cells3 ss) := by rw [← hw3]; exact own2.alloc _
  have HO : Hid (∀ W, w3.grownBy W (some g) → W.ownsRow w1.heap.size 54 3 (.slice ua ss.length uc) ss.length (cells3 ss) ∧ Below w.heap.size w W ∧ W.heap[w.heap.size]? = some (.cells #[.slice none 0 0] 30 (0, 0)) ∧ W.heap[P]? = some (.cells #[.slice ua ss.length uc] 30 (0, 0))) := fun W hg4 =>
    ⟨own_grown own3 hg4 (fun k hk e => by have := (own3.lt k hk).1; simp at e; omega), L3.grown hg4 L3.size (fun k e => by simp at e; omega), (hg4.block w.heap.size (by omega) (by simp; omega)).trans R3, blockGrown X3 hg4 (by omega)⟩
  have hPw : w.heap.size < P := by omega
  have hPg : g < P := by omega
  obtain ⟨c3, _⟩ := oneCell X3
  have hwr : wrap64 ((ss.length : Int) + 1) = (ss.length : Int) + 1 := by unfold wrap64; omega
  have hbl := l1Below g bs ((ss.length : Int) + 1) (by omega) w3 hl hc3
  clear R3 R2 R1 own3 own2 L3 L2 L1 hc3 hc2 hc1 b1 b2
  go_wp2_with fail
  go_at_call 39
  clear hw3 hP
  refine hbl.mono ?_
  rintro e w5 ⟨a, rfl, ha0, hal, _, hc5, hg5⟩
  have hal : a ≤ (ss.length : Int) := by have := hal (by omega); omega
  have G35 : Hid (w3.grownBy w5 (some g)) := hg5
  obtain ⟨o5, l5, r5, x5⟩ := HO.out w5 G35.out
  obtain ⟨c5, _⟩ := oneCell x5
  have zz5 : P + 1 ≤ w5.heap.size := by have := hg5.size; omega
  have hds := fun W hW => l1From g bs 0 8 (by omega) (by omega) (by omega) W hl hW
  clear o5 l5 r5 x5 hg5 hbl c3 X3
  go_wp2_with fail
  refine wp_region_held_drew (S := fun w' => w'.cell? ⟨P, 0, none⟩ = some (.slice ua ss.length uc)) (by kernel_rfl) c5 (fun hHeld => ?_)
  refine wpAnyH_take (i := 0) (oi := ?oia0) (v := .agg #[.slice ua ss.length uc]) ?hia0 (by kernel_rfl) (by kernel_rfl) (by kernel_rfl) ?hqa0 ?hya0 hHeld ?hra0
  case hia0 =>
    simp only [List.getElem?_toArray, List.getElem?_cons_succ, List.getElem?_cons_zero]
    rfl
  case hqa0 => exact fun _ _ _ h => h
  case hya0 => exact Or.inl ⟨by kernel_rfl, fun w hSw => by go_simp⟩
  try simp only [Act.put, List.setIfInBounds_toArray, List.set_cons_zero, List.set_cons_succ]
  refine wpAnyH_take (i := 1) (oi := ?oia1) (v := .int .i64 n) ?hia1 (by kernel_rfl) (by kernel_rfl) (by kernel_rfl) ?hqa1 ?hya1 hHeld ?hra1
  case hia1 =>
    simp only [List.getElem?_toArray, List.getElem?_cons_succ, List.getElem?_cons_zero]
    rfl
  case hqa1 => exact fun _ _ _ h => h
  case hya1 => exact Or.inl ⟨by kernel_rfl, fun w hSw => by go_simp⟩
  try simp only [Act.put, List.setIfInBounds_toArray, List.set_cons_zero, List.set_cons_succ]
  refine wpAnyH_take (i := 2) (oi := ?oia2) (v := .int .i64 s) ?hia2 (by kernel_rfl) (by kernel_rfl) (by kernel_rfl) ?hqa2 ?hya2 hHeld ?hra2
  case hia2 =>
    simp only [List.getElem?_toArray, List.getElem?_cons_succ, List.getElem?_cons_zero]
    rfl
  case hqa2 => exact fun _ _ _ h => h
  case hya2 => exact Or.inl ⟨by kernel_rfl, fun w hSw => by go_simp⟩
  try simp only [Act.put, List.setIfInBounds_toArray, List.set_cons_zero, List.set_cons_succ]
  refine wpAnyH_take (i := 3) (oi := ?oia3) (v := .int .i64 a) ?hia3 (by kernel_rfl) (by kernel_rfl) (by kernel_rfl) ?hqa3 ?hya3 hHeld ?hra3
  case hia3 =>
    simp only [List.getElem?_toArray, List.getElem?_cons_succ, List.getElem?_cons_zero]
    rfl
  case hqa3 => exact fun _ _ _ h => h
  case hya3 => exact Or.inl ⟨by kernel_rfl, fun w hSw => by go_simp⟩
  try simp only [Act.put, List.setIfInBounds_toArray, List.set_cons_zero, List.set_cons_succ]
  refine wpAnyH_take (i := 4) (oi := ?oia4) (v := .pointer (some ⟨g, 0, none⟩)) ?hia4 (by kernel_rfl) (by kernel_rfl) (by kernel_rfl) ?hqa4 ?hya4 hHeld ?hra4
  case hia4 =>
    simp only [List.getElem?_toArray, List.getElem?_cons_succ, List.getElem?_cons_zero]
    rfl
  case hqa4 => exact fun _ _ _ h => h
  case hya4 => exact Or.inl ⟨by kernel_rfl, fun w hSw => by go_simp⟩
  try simp only [Act.put, List.setIfInBounds_toArray, List.set_cons_zero, List.set_cons_succ]
  refine wpAnyH_ready (rs := [5]) (by kernel_rfl) (by simp) ?_
  refine (AllReadyH.cons (o := ?ooa5) ?hoa5 (fun K hK => ?hka5) AllReadyH.nil)
  case hoa5 =>
    simp only [List.getElem?_toArray, List.getElem?_cons_succ, List.getElem?_cons_zero]
    rfl
  case hka5 =>
    go_simp
    go_at_call 40
    refine (hds w5.drew (cur_below hc5 (Below.drew (Below.refl _ _)))).mono ?_
    rintro e w6 ⟨y, rfl, hy0, hy8, hc6, hg6⟩
    have G6 : w5.grownBy w6 (some g) := grown_trans (grown_of_below (Below.drew (Below.refl _ _)) (some g)) hg6
    have G36 : Hid (w3.grownBy w6 (some g)) := grown_trans G35.out G6
    obtain ⟨o6, l6, r6, x6⟩ := HO.out w6 G36.out
    obtain ⟨d6, e6⟩ := oneCell r6
    obtain ⟨c6, _⟩ := oneCell x6
    clear hc6 hg6 G6
    try go_wp2_with fail
    refine hK.out _ _ c6 (fun hHeld => ?_)
    clear hK K
    try simp only [Act.put, List.setIfInBounds_toArray, List.set_cons_zero, List.set_cons_succ]
    refine wpAnyH_ready (rs := [6]) (by kernel_rfl) (by simp) ?_
    refine (AllReadyH.cons (o := ?ooa6) ?hoa6 (fun K hK => ?hka6) AllReadyH.nil)
    case hoa6 =>
      simp only [List.getElem?_toArray, List.getElem?_cons_succ, List.getElem?_cons_zero]
      rfl
    case hka6 =>
      go_simp
      try go_wp2_with fail
      refine hK.out _ _ (oneCell ((Below.heap_setCell w6 ⟨w.heap.size, 0, none⟩ _ P (by simp; omega)).trans x6)).1 (fun hHeld => ?_)
      clear hK K
      try simp only [Act.put, List.setIfInBounds_toArray, List.set_cons_zero, List.set_cons_succ]
      refine wpAnyH_take (i := 7) (oi := ?oia7) (v := .int .i64 n) ?hia7 (by kernel_rfl) (by kernel_rfl) (by kernel_rfl) ?hqa7 ?hya7 hHeld ?hra7
      case hia7 =>
        simp only [List.getElem?_toArray, List.getElem?_cons_succ, List.getElem?_cons_zero]
        rfl
      case hqa7 => exact fun _ _ _ h => h
      case hya7 => exact Or.inl ⟨by kernel_rfl, fun w hSw => by go_simp⟩
      try simp only [Act.put, List.setIfInBounds_toArray, List.set_cons_zero, List.set_cons_succ]
      refine wpAnyH_take (i := 8) (oi := ?oia8) (v := .int .i64 s) ?hia8 (by kernel_rfl) (by kernel_rfl) (by kernel_rfl) ?hqa8 ?hya8 hHeld ?hra8
      case hia8 =>
        simp only [List.getElem?_toArray, List.getElem?_cons_succ, List.getElem?_cons_zero]
        rfl
      case hqa8 => exact fun _ _ _ h => h
      case hya8 => exact Or.inl ⟨by kernel_rfl, fun w hSw => by go_simp⟩
      try simp only [Act.put, List.setIfInBounds_toArray, List.set_cons_zero, List.set_cons_succ]
      refine wpAnyH_take (i := 9) (oi := ?oia9) (v := .int .i64 a) ?hia9 (by kernel_rfl) (by kernel_rfl) (by kernel_rfl) ?hqa9 ?hya9 hHeld ?hra9
      case hia9 =>
        simp only [List.getElem?_toArray, List.getElem?_cons_succ, List.getElem?_cons_zero]
        rfl
      case hqa9 => exact fun _ _ _ h => h
      case hya9 => exact Or.inl ⟨by kernel_rfl, fun w hSw => by go_simp⟩
      try simp only [Act.put, List.setIfInBounds_toArray, List.set_cons_zero, List.set_cons_succ]
      refine wpAnyH_take (i := 10) (oi := ?oia10) (v := .int .i64 y) ?hia10 (by kernel_rfl) (by kernel_rfl) (by kernel_rfl) ?hqa10 ?hya10 hHeld ?hra10
      case hia10 =>
        simp only [List.getElem?_toArray, List.getElem?_cons_succ, List.getElem?_cons_zero]
        rfl
      case hqa10 => exact fun _ _ _ h => h
      case hya10 => exact Or.inl ⟨by kernel_rfl, fun w hSw => by go_simp⟩
      try simp only [Act.put, List.setIfInBounds_toArray, List.set_cons_zero, List.set_cons_succ]
      refine wpAnyH_done (by kernel_rfl) ?_ _
      obtain ⟨dd, _⟩ := oneCell (one_set' r6 (.slice ua ss.length uc))
      have oW := own_mono (ownsRow_setCell_other o6 (a := ⟨w.heap.size, 0, none⟩) (fun e => by have h : w1.heap.size ≤ w.heap.size := (o6.lt _ e).1; omega) (.slice ua ss.length uc)) (base' := w.heap.size) (by omega)
      have LW := Below.setCell (p := ⟨w.heap.size, 0, none⟩) l6 (Nat.le_refl _) (.slice ua ss.length uc)
      clear hHeld
      go_wp2
      refine bodyPost_ret (v := .tuple #[.agg #[.slice ua ss.length uc], .int .i64 n, .int .i64 s, .int .i64 a, .int .i64 y]) (by simp [results, Try.results15, go_sem, dd]) rfl ?_
      exact ⟨_, ss, n, s, a, y, rfl, h1, h7, ha0, hal, hy0, hy8, oW, LW⟩

end Go.Proofs.Ytciccbbgamklbaa
