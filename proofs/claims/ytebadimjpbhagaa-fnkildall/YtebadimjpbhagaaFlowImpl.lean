/-
  Chapter 7, the program's side: Flow.
-/
import Derived.Test.YtebadimjpbhagaaFlowRel
namespace Go.Proofs.Ytebadimjpbhagaa
open Go.RowKit
set_option linter.unusedVariables false
set_option maxHeartbeats 2000000
set_option maxRecDepth 4000

theorem relationOfElse (k x y : Int) (h2 : ¬ k = 2) (h3 : ¬ k = 3) (h4 : ¬ k = 4) (h5 : ¬ k = 5) (m : Nat) (w : World) :
    Calls Try.prog 48 #[flowsV m, .agg #[.int .i64 k, .int .i64 x, .int .i64 y]] w fun e w' => e = .returned (relV unitL) ∧ Below w.heap.size w w' := by
  have hun := fun W => implUnit W
  obtain ⟨us, hus⟩ : ∃ us, unitL = us := ⟨_, rfl⟩
  have hu7 : us.length = 7 := by rw [← hus]; rfl
  rw [hus] at hun ⊢
  clear hus
  unfold flowsV
  go_enter Try.func48, Try.ntmps48
  go_wp2_with fail
  go_at_call 91
  refine (hun _).mono ?_
  rintro e w1 ⟨a, rfl, oa, b1⟩
  clear hun
  obtain ⟨g, off, cap, rfl, hrg⟩ := reads_range (reads_own oa) hu7
  have HG : Hid (w1.rangeAt g off (ints us)) := hrg
  clear hrg oa
  have hst := fresh_there w1
  have HT : Hid _ := hst
  clear hst
  obtain ⟨bF, bS, bR, L1, hU1⟩ := three_blocks b1
  clear b1
  have hpre : ∀ (B : Nat) (o : Obj), B < w1.heap.size → w1.heap[B]? = some o → ((fresh7 w1).setCells w1.heap.size 0 (ints us)).heap[B]? = some o := fun B o hB h => by
    refine ((grown_setCells7 _ _ _ _).block _ (by simp; omega) (by simp; omega)).trans ?_
    rw [old_block hB]
    exact h
  have bU : RelAt ((fresh7 w1).setCells w1.heap.size 0 (ints us)) w1.heap.size us := fresh_rel w1 us hu7
  have L2 : Below w.heap.size w ((fresh7 w1).setCells w1.heap.size 0 (ints us)) := fresh_below L1 (by omega) _
  have bS := hpre _ _ (by omega) bS
  have bR : RelAt ((fresh7 w1).setCells w1.heap.size 0 (ints us)) (w.heap.size + 1 + 1) (List.replicate 7 0) := hpre _ _ (by omega) bR
  have HBU : Hid _ := bU.range
  have ht : ((fresh7 w1).setCells w1.heap.size 0 (ints us)).there (w.heap.size + 1 + 1) 0 7 := by simpa using bR.there
  have HBR : Hid _ := ht
  have hk0 : ((fresh7 w1).setCells w1.heap.size 0 (ints us)).cell? ⟨w.heap.size + 1, 0, none⟩ = some (.int .i64 k) := by rw [cell_of_row _ _ 0 _ _ (0, 0) bS]; rfl
  clear hpre bF bS bR bU L1 ht
  go_wp2_with (first
    | refine wpList_arrayAt rfl (.tmp 6) rfl g off cap rfl ?_
    | refine wpList_loadRel rfl (.tmp 7) rfl g off us rfl hu7 HG.out ?_
    | refine wpList_loadRel rfl (.tmp 5) rfl w1.heap.size 0 us rfl hu7 HBU.out ?_
    | refine wpList_storeRel rfl rfl (.tmp 5) (.tmp 8) rfl w1.heap.size 0 us rfl rfl hu7 HT.out ?_
    | refine wpList_storeRel rfl rfl (.tmp 4) (.tmp 51) rfl (w.heap.size + 1 + 1) 0 us rfl rfl hu7 HBR.out ?_)
  refine bodyPost_cellR rfl (w.heap.size + 1 + 1) 0 (ints us) _ rfl (World.rangeAt_setCells_same _ _ _ _ (by rw [ints_length, hu7]; exact HBR.out)) relUnd rfl (by rw [relInfo]; simp [ints, hu7]) rfl ⟨rfl, ?_⟩
  exact L2.grown (grown_setCells7 _ _ _ _) (by have := L2.size; omega) (fun k hk => by simp at hk; omega)

/-- What a statement does. -/
def flowL (c k x y : Int) : List Int :=
  if k = 2 then mkL unitL (factN x.toNat) (factN y.toNat)
  else if k = 3 then mkL unitL (factN x.toNat) (lor (factN x.toNat) (factN y.toNat))
  else if k = 4 then mkL unitL (factN x.toNat) 0
  else if k = 5 then mkL unitL (factN x.toNat) (if c = 1 then 1 else 0)
  else unitL

def flowAns (c k x y : Int) : List Int := if (c = 1 ∨ c = 2) ∧ stmtOk k x y = true then flowL c k x y else []

theorem flowL_length (c k x y : Int) : (flowL c k x y).length = 7 := by
  unfold flowL
  split
  · exact mkL_length _ _ _
  split
  · exact mkL_length _ _ _
  split
  · exact mkL_length _ _ _
  split
  · exact mkL_length _ _ _
  rfl

theorem inB_nat {x n : Int} (h : inB x 0 n = true) : ∃ i : Nat, x = i ∧ (i : Int) ≤ n := by
  simp [inB] at h
  exact ⟨x.toNat, by omega, by omega⟩

theorem stmtOk_xy {k x y : Int} (h : stmtOk k x y = true) (hk : k = 2 ∨ k = 3) : ∃ i j : Nat, x = i ∧ y = j ∧ i < 6 ∧ j < 6 := by
  have h1 : inB x 0 5 = true ∧ inB y 0 5 = true := by
    rcases hk with rfl | rfl <;> simpa [stmtOk] using h
  obtain ⟨i, rfl, hi⟩ := inB_nat h1.1
  obtain ⟨j, rfl, hj⟩ := inB_nat h1.2
  exact ⟨i, j, rfl, rfl, by omega, by omega⟩

theorem stmtOk_x {k x y : Int} (h : stmtOk k x y = true) (hk : k = 4 ∨ k = 5) : ∃ i : Nat, x = i ∧ i < 6 := by
  have h1 : inB x 0 5 = true ∧ inB y 0 0 = true := by
    rcases hk with rfl | rfl <;> simpa [stmtOk] using h
  obtain ⟨i, rfl, hi⟩ := inB_nat h1.1
  exact ⟨i, rfl, by omega⟩

/-- A client's function for a mark. -/
def markFn (c : Int) : Nat := if c = 1 then 112 else 111

theorem relationOf (c k x y : Int) (hc : c = 1 ∨ c = 2) (h : stmtOk k x y = true) (w : World) :
    Calls Try.prog 48 #[flowsV (markFn c), .agg #[.int .i64 k, .int .i64 x, .int .i64 y]] w fun e w' => e = .returned (relV (flowL c k x y)) ∧ Below w.heap.size w w' := by
  by_cases h2 : k = 2
  · subst h2
    obtain ⟨i, j, rfl, rfl, hi, hj⟩ := stmtOk_xy h (.inl rfl)
    exact relationOf2 i j hi hj _ w
  · by_cases h3 : k = 3
    · subst h3
      obtain ⟨i, j, rfl, rfl, hi, hj⟩ := stmtOk_xy h (.inr rfl)
      exact relationOf3 i j hi hj _ w
    · by_cases h4 : k = 4
      · subst h4
        obtain ⟨i, rfl, hi⟩ := stmtOk_x h (.inl rfl)
        exact relationOf4 i y hi _ w
      · by_cases h5 : k = 5
        · subst h5
          obtain ⟨i, rfl, hi⟩ := stmtOk_x h (.inr rfl)
          rcases hc with rfl | rfl
          · exact relationOf5a i y hi w
          · exact relationOf5b i y hi w
        · have e : flowL c k x y = unitL := by simp [flowL, h2, h3, h4, h5]
          rw [e]
          exact relationOfElse k x y h2 h3 h4 h5 _ w

theorem flowsOf (c : Int) (hc : c = 1 ∨ c = 2) (w : World) : Calls Try.prog 82 #[.int .i64 c] w fun e w' => e = .returned (.tuple #[flowsV (markFn c), .bool true]) ∧ Below w.heap.size w w' := by
  rcases hc with rfl | rfl
  · exact flowsOf1 w
  · exact flowsOf2 w

theorem stmt_cells {W : World} {B : Nat} {k x y : Int} {t : TypeId} (q : W.heap[B]? = some (.cells #[.int .i64 k, .int .i64 x, .int .i64 y] t (0, 0))) :
    W.cell? ⟨B, 0, none⟩ = some (.int .i64 k) ∧ W.cell? ⟨B, 1, none⟩ = some (.int .i64 x) ∧ W.cell? ⟨B, 2, none⟩ = some (.int .i64 y) :=
  ⟨by rw [cell_of_row _ _ 0 _ _ (0, 0) q]; rfl, by rw [cell_of_row _ _ 1 _ _ (0, 0) q]; rfl, by rw [cell_of_row _ _ 2 _ _ (0, 0) q]; rfl⟩

theorem four_cells {W : World} {B : Nat} {v0 v1 v2 v3 : Value} {t : TypeId} (q : W.heap[B]? = some (.cells #[v0, v1, v2, v3] t (0, 0))) :
    W.cell? ⟨B, 0, none⟩ = some v0 ∧ W.cell? ⟨B, 1, none⟩ = some v1 ∧ W.cell? ⟨B, 2, none⟩ = some v2 ∧ W.cell? ⟨B, 3, none⟩ = some v3 :=
  ⟨by rw [cell_of_row _ _ 0 _ _ (0, 0) q]; rfl, by rw [cell_of_row _ _ 1 _ _ (0, 0) q]; rfl, by rw [cell_of_row _ _ 2 _ _ (0, 0) q]; rfl, by rw [cell_of_row _ _ 3 _ _ (0, 0) q]; rfl⟩

theorem flow_pre {w w1 : World} {o : Obj} (b1 : Below (w.alloc o).heap.size (w.alloc o) w1) : Below w.heap.size w w1 ∧ w1.heap[w.heap.size]? = some o := by
  have a1 : Below w.heap.size w (w.alloc o) := (Below.refl _ _).alloc (Nat.le_refl _) o
  exact ⟨a1.trans (b1.mono a1.size), (b1.block _ (by simp)).trans (heap_alloc_new w _)⟩

end Go.Proofs.Ytebadimjpbhagaa
