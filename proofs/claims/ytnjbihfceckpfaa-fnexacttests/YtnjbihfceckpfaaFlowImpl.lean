/-
  Chapter 7, the program's side: Flow.
-/
import Derived.Test.YtnjbihfceckpfaaFlowRel
namespace Go.Proofs.Ytnjbihfceckpfaa
open Go.RowKit
set_option linter.unusedVariables false
set_option maxHeartbeats 2000000
set_option maxRecDepth 4000

theorem relationOfElse (k x y : Int) (h2 : ¬ k = 2) (h3 : ¬ k = 3) (h4 : ¬ k = 4) (h5 : ¬ k = 5) (m : Nat) (w : World) :
    Calls Try.prog 147 #[flowsV m, .agg #[.int .i64 k, .int .i64 x, .int .i64 y]] w fun e w' => e = .returned (relV unitL) ∧ Below w.heap.size w w' := by
  have hun := fun W => implUnit W
  obtain ⟨us, hus⟩ : ∃ us, unitL = us := ⟨_, rfl⟩
  have hu7 : us.length = 7 := by rw [← hus]; rfl
  rw [hus] at hun ⊢
  clear hus
  unfold flowsV
  go_enter Try.func147, Try.ntmps147
  go_wp2_with fail
  go_at_call 142
  refine (hun _).mono ?_
  rintro e w1 ⟨a, rfl, oa, b1⟩
  clear hun
  obtain ⟨g, off, cap, rfl, hrg⟩ := reads_range (reads_own oa) hu7
  have HG : Hid (w1.rangeAt g off (ints us)) := hrg
  clear hrg oa
  have hst := fresh_there w1
  have HT : Hid _ := hst
  clear hst
  obtain ⟨bF, bS, bR, L1, hU1⟩ := three_blocks b1
  clear b1
  have hpre : ∀ (B : Nat) (o : Obj), B < w1.heap.size → w1.heap[B]? = some o → ((fresh7 w1).setCells w1.heap.size 0 (ints us)).heap[B]? = some o := fun B o hB h => by
    refine ((grown_setCells7 _ _ _ _).block _ (by simp; omega) (by simp; omega)).trans ?_
    rw [old_block hB]
    exact h
  have bU : RelAt ((fresh7 w1).setCells w1.heap.size 0 (ints us)) w1.heap.size us := fresh_rel w1 us hu7
  have L2 : Below w.heap.size w ((fresh7 w1).setCells w1.heap.size 0 (ints us)) := fresh_below L1 (by omega) _
  have bS := hpre _ _ (by omega) bS
  have bR : RelAt ((fresh7 w1).setCells w1.heap.size 0 (ints us)) (w.heap.size + 1 + 1) (List.replicate 7 0) := hpre _ _ (by omega) bR
  have HBU : Hid _ := bU.range
  have ht : ((fresh7 w1).setCells w1.heap.size 0 (ints us)).there (w.heap.size + 1 + 1) 0 7 := by simpa using bR.there
  have HBR : Hid _ := ht
  have hk0 : ((fresh7 w1).setCells w1.heap.size 0 (ints us)).cell? ⟨w.heap.size + 1, 0, none⟩ = some (.int .i64 k) := by rw [cell_of_row _ _ 0 _ _ (0, 0) bS]; rfl
  clear hpre bF bS bR bU L1 ht
  go_wp2_with (first
    | refine wpList_arrayAt rfl (.tmp 6) rfl g off cap rfl ?_
    | refine wpList_loadRel rfl (.tmp 7) rfl g off us rfl hu7 HG.out ?_
    | refine wpList_loadRel rfl (.tmp 5) rfl w1.heap.size 0 us rfl hu7 HBU.out ?_
    | refine wpList_storeRel rfl rfl (.tmp 5) (.tmp 8) rfl w1.heap.size 0 us rfl rfl hu7 HT.out ?_
    | refine wpList_storeRel rfl rfl (.tmp 4) (.tmp 51) rfl (w.heap.size + 1 + 1) 0 us rfl rfl hu7 HBR.out ?_)
  refine bodyPost_cellR rfl (w.heap.size + 1 + 1) 0 (ints us) _ rfl (World.rangeAt_setCells_same _ _ _ _ (by rw [ints_length, hu7]; exact HBR.out)) relUnd rfl (by rw [relInfo]; simp [ints, hu7]) rfl ⟨rfl, ?_⟩
  exact L2.grown (grown_setCells7 _ _ _ _) (by have := L2.size; omega) (fun k hk => by simp at hk; omega)

/-- What a statement does. -/
def flowL (c k x y : Int) : List Int :=
  if k = 2 then mkL unitL (factN x.toNat) (factN y.toNat)
  else if k = 3 then mkL unitL (factN x.toNat) (lor (factN x.toNat) (factN y.toNat))
  else if k = 4 then mkL unitL (factN x.toNat) 0
  else if k = 5 then mkL unitL (factN x.toNat) (if c = 1 then 1 else 0)
  else unitL

def flowAns (c k x y : Int) : List Int := if (c = 1 ∨ c = 2) ∧ stmtOk k x y = true then flowL c k x y else []

theorem flowL_length (c k x y : Int) : (flowL c k x y).length = 7 := by
  unfold flowL
  split
  · exact mkL_length _ _ _
  split
  · exact mkL_length _ _ _
  split
  · exact mkL_length _ _ _
  split
  · exact mkL_length _ _ _
  rfl

theorem inB_nat {x n : Int} (h : inB x 0 n = true) : ∃ i : Nat, x = i ∧ (i : Int) ≤ n := by
  simp [inB] at h
  exact ⟨x.toNat, by omega, by omega⟩

theorem stmtOk_xy {k x y : Int} (h : stmtOk k x y = true) (hk : k = 2 ∨ k = 3) : ∃ i j : Nat, x = i ∧ y = j ∧ i < 6 ∧ j < 6 := by
  have h1 : inB x 0 5 = true ∧ inB y 0 5 = true := by
    rcases hk with rfl | rfl <;> simpa [stmtOk] using h
  obtain ⟨i, rfl, hi⟩ := inB_nat h1.1
  obtain ⟨j, rfl, hj⟩ := inB_nat h1.2
  exact ⟨i, j, rfl, rfl, by omega, by omega⟩

theorem stmtOk_x {k x y : Int} (h : stmtOk k x y = true) (hk : k = 4 ∨ k = 5) : ∃ i : Nat, x = i ∧ i < 6 := by
  have h1 : inB x 0 5 = true ∧ inB y 0 0 = true := by
    rcases hk with rfl | rfl <;> simpa [stmtOk] using h
  obtain ⟨i, rfl, hi⟩ := inB_nat h1.1
  exact ⟨i, rfl, by omega⟩

/-- A client's function for a mark. -/
def markFn (c : Int) : Nat := if c = 1 then 108 else 107

theorem relationOf (c k x y : Int) (hc : c = 1 ∨ c = 2) (h : stmtOk k x y = true) (w : World) :
    Calls Try.prog 147 #[flowsV (markFn c), .agg #[.int .i64 k, .int .i64 x, .int .i64 y]] w fun e w' => e = .returned (relV (flowL c k x y)) ∧ Below w.heap.size w w' := by
  by_cases h2 : k = 2
  · subst h2
    obtain ⟨i, j, rfl, rfl, hi, hj⟩ := stmtOk_xy h (.inl rfl)
    exact relationOf2 i j hi hj _ w
  · by_cases h3 : k = 3
    · subst h3
      obtain ⟨i, j, rfl, rfl, hi, hj⟩ := stmtOk_xy h (.inr rfl)
      exact relationOf3 i j hi hj _ w
    · by_cases h4 : k = 4
      · subst h4
        obtain ⟨i, rfl, hi⟩ := stmtOk_x h (.inl rfl)
        exact relationOf4 i y hi _ w
      · by_cases h5 : k = 5
        · subst h5
          obtain ⟨i, rfl, hi⟩ := stmtOk_x h (.inr rfl)
          rcases hc with rfl | rfl
          · exact relationOf5a i y hi w
          · exact relationOf5b i y hi w
        · have e : flowL c k x y = unitL := by simp [flowL, h2, h3, h4, h5]
          rw [e]
          exact relationOfElse k x y h2 h3 h4 h5 _ w

theorem flowsOf (c : Int) (hc : c = 1 ∨ c = 2) (w : World) : Calls Try.prog 75 #[.int .i64 c] w fun e w' => e = .returned (.tuple #[flowsV (markFn c), .bool true]) ∧ Below w.heap.size w w' := by
  rcases hc with rfl | rfl
  · exact flowsOf1 w
  · exact flowsOf2 w

theorem stmt_cells {W : World} {B : Nat} {k x y : Int} {t : TypeId} (q : W.heap[B]? = some (.cells #[.int .i64 k, .int .i64 x, .int .i64 y] t (0, 0))) :
    W.cell? ⟨B, 0, none⟩ = some (.int .i64 k) ∧ W.cell? ⟨B, 1, none⟩ = some (.int .i64 x) ∧ W.cell? ⟨B, 2, none⟩ = some (.int .i64 y) :=
  ⟨by rw [cell_of_row _ _ 0 _ _ (0, 0) q]; rfl, by rw [cell_of_row _ _ 1 _ _ (0, 0) q]; rfl, by rw [cell_of_row _ _ 2 _ _ (0, 0) q]; rfl⟩

theorem four_cells {W : World} {B : Nat} {v0 v1 v2 v3 : Value} {t : TypeId} (q : W.heap[B]? = some (.cells #[v0, v1, v2, v3] t (0, 0))) :
    W.cell? ⟨B, 0, none⟩ = some v0 ∧ W.cell? ⟨B, 1, none⟩ = some v1 ∧ W.cell? ⟨B, 2, none⟩ = some v2 ∧ W.cell? ⟨B, 3, none⟩ = some v3 :=
  ⟨by rw [cell_of_row _ _ 0 _ _ (0, 0) q]; rfl, by rw [cell_of_row _ _ 1 _ _ (0, 0) q]; rfl, by rw [cell_of_row _ _ 2 _ _ (0, 0) q]; rfl, by rw [cell_of_row _ _ 3 _ _ (0, 0) q]; rfl⟩

theorem flow_pre {w w1 : World} {o : Obj} (b1 : Below (w.alloc o).heap.size (w.alloc o) w1) : Below w.heap.size w w1 ∧ w1.heap[w.heap.size]? = some o := by
  have a1 : Below w.heap.size w (w.alloc o) := (Below.refl _ _).alloc (Nat.le_refl _) o
  exact ⟨a1.trans (b1.mono a1.size), (b1.block _ (by simp)).trans (heap_alloc_new w _)⟩

theorem implFlow (c k x y : Int) (w : World) :
    Calls Try.prog 130 #[.int .i64 c, .agg #[.int .i64 k, .int .i64 x, .int .i64 y]] w fun e w' => ∃ a, e = .returned a ∧ w'.ownsRow w.heap.size 64 1 a (flowAns c k x y).length (ints (flowAns c k x y)) ∧ Below w.heap.size w w' := by
  have hso := fun W => implStmtOk k x y W
  by_cases hc : c = 1 ∨ c = 2
  · have hfo := fun W => flowsOf c hc W
    cases hs : stmtOk k x y
    · have h1 : flowAns c k x y = [] := by simp [flowAns, hs]
      rw [h1]
      rw [hs] at hso
      generalize markFn c = m at *
      unfold flowsV at hfo
      clear hc h1 hs
      go_enter Try.func130, Try.ntmps130
      go_wp2_with fail
      go_at_call 75
      refine (hfo _).mono ?_
      rintro e w1 ⟨rfl, b1⟩
      clear hfo
      obtain ⟨L1, q1⟩ := flow_pre b1
      have hlt : w.heap.size < w1.heap.size := (Array.getElem?_eq_some_iff.1 q1).1
      have q2 : ∀ o, (w1.alloc o).heap[w.heap.size]? = _ := fun o => (old_block hlt).trans q1
      have g0 := fun o => (stmt_cells (q2 o)).1
      have g1 := fun o => (stmt_cells (q2 o)).2.1
      have g2 := fun o => (stmt_cells (q2 o)).2.2
      have s1 := L1.size
      clear q1 q2 b1
      go_wp2_with (go_at_call 136; refine (hso _).mono ?_; rintro e w2 ⟨rfl, b2⟩)
      go_ret
      exact ⟨_, rfl, ⟨rfl, .inl ⟨rfl, rfl⟩⟩, (L1.alloc (by omega) _).trans (b2.mono (by simp; omega))⟩
    · have h1 : flowAns c k x y = flowL c k x y := by simp [flowAns, hs, hc]
      rw [h1]
      rw [hs] at hso
      have hz7 := flowL_length c k x y
      have hro := fun W => relationOf c k x y hc hs W
      generalize flowL c k x y = zs at *
      generalize markFn c = m at *
      unfold flowsV at hfo hro
      clear hc h1 hs
      go_enter Try.func130, Try.ntmps130
      go_wp2_with fail
      go_at_call 75
      refine (hfo _).mono ?_
      rintro e w1 ⟨rfl, b1⟩
      clear hfo
      obtain ⟨L1, q1⟩ := flow_pre b1
      have hlt : w.heap.size < w1.heap.size := (Array.getElem?_eq_some_iff.1 q1).1
      have q2 : ∀ o, (w1.alloc o).heap[w.heap.size]? = _ := fun o => (old_block hlt).trans q1
      have g0 := fun o => (stmt_cells (q2 o)).1
      have g1 := fun o => (stmt_cells (q2 o)).2.1
      have g2 := fun o => (stmt_cells (q2 o)).2.2
      have s1 := L1.size
      have HQ : Hid _ := q2
      clear q1 q2 b1
      go_wp2_with fail
      go_at_call 136
      refine (hso _).mono ?_
      rintro e w2 ⟨rfl, b2⟩
      clear hso g0 g1 g2
      have s2 := b2.size
      simp only [World.size_alloc] at s2
      obtain ⟨g0, g1, g2⟩ := stmt_cells ((b2.block _ (by simp; omega)).trans (HQ.out _))
      obtain ⟨k0, k1, k2, k3⟩ := four_cells ((b2.block w1.heap.size (by simp)).trans (heap_alloc_new w1 _))
      have L2 := (L1.alloc (by omega) _).trans (b2.mono (by simp; omega))
      clear HQ b2
      go_wp2_with fail
      go_at_call 147
      refine (hro _).mono ?_
      rintro e w3 ⟨rfl, b3⟩
      have L3 := L2.trans (b3.mono L2.size)
      have s3 := L3.size
      clear hro g0 g1 g2 k0 k1 k2 k3 b3
      have hst := fresh_there w3
      have HS : Hid _ := hst
      clear hst
      go_wp2_with (refine wpList_storeRel rfl rfl (.tmp 7) (.tmp 22) rfl w3.heap.size 0 zs rfl rfl hz7 HS.out ?_)
      go_ret
      exact ⟨_, rfl, by rw [hz7]; exact RelAt.own (fresh_rel w3 zs hz7) L3.size hz7, fresh_below L3 L3.size _⟩
  · have h1 : flowAns c k x y = [] := by simp [flowAns, hc]
    rw [h1]
    have hfo := fun W => flowsOfNo c (fun e => hc (.inl e)) (fun e => hc (.inr e)) W
    clear h1 hc
    go_enter Try.func130, Try.ntmps130
    go_wp2_with fail
    go_at_call 75
    refine (hfo _).mono ?_
    rintro e w1 ⟨rfl, b1⟩
    clear hfo
    obtain ⟨L1, q1⟩ := flow_pre b1
    have s1 := L1.size
    clear q1 b1
    go_wp2
    go_ret
    exact ⟨_, rfl, ⟨rfl, .inl ⟨rfl, rfl⟩⟩, L1.alloc (by omega) _⟩

end Go.Proofs.Ytnjbihfceckpfaa
