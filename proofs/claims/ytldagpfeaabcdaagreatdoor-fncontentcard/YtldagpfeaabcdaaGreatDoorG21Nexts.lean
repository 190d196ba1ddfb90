/-
 Put together out of: FlowImpl, SpecFlow, RelMath, FlowsMath, Nexts.
-/
import Derived.Test.YtldagpfeaabcdaaGreatDoorFlowRel
import Derived.BigRegion
import Derived.Test.YtldagpfeaabcdaaGreatDoorProc
import Derived.Laws.OwnMore
namespace Go.Proofs.YtldagpfeaabcdaaGreatDoor
open Go.RowKit
set_option linter.unusedVariables false
set_option maxHeartbeats 2000000
set_option maxRecDepth 4000
theorem qf0 (k x y : Int) (h2 : ¬ k = 2) (h3 : ¬ k = 3) (h4 : ¬ k = 4) (h5 : ¬ k = 5) (m : Nat) (w : World) :
 Calls Tryz.prog 116 #[jl2 m, .agg #[.int .i64 k, .int .i64 x, .int .i64 y]] w fun e w' => e = .returned (relV unitL) ∧ Below w.heap.size w w' := by
 have hun := fun W => jo5 W
 obtain ⟨us, hus⟩ : ∃ us, unitL = us := ⟨_, rfl⟩
 have hu7 : us.length = 7 := by rw [← hus]; rfl
 rw [hus] at hun ⊢
 clear hus
 unfold jl2
 go_enter Tryz.func116, Tryz.ntmps116
 go_wp2_with fail
 go_at_call 96
 refine (hun _).mono ?_
 rintro e w1 ⟨a, rfl, oa, b1⟩
 clear hun
 obtain ⟨g, off, cap, rfl, hrg⟩ := jk4 (jc5 oa) hu7
 have HG : Hid (w1.rangeAt g off (ints us)) := hrg
 clear hrg oa
 have hst := jf5 w1
 have HT : Hid _ := hst
 clear hst
 obtain ⟨bF, bS, bR, L1, hU1⟩ := jk8 b1
 clear b1
 have hpre : ∀ (B : Nat) (o : Obj), B < w1.heap.size → w1.heap[B]? = some o → ((jd8 w1).setCells w1.heap.size 0 (ints us)).heap[B]? = some o := fun B o hB h => by
  refine ((jb2 _ _ _ _).block _ (by simp; omega) (by simp; omega)).trans ?_
  rw [ja2 hB]
  exact h
 have bU : RelAt ((jd8 w1).setCells w1.heap.size 0 (ints us)) w1.heap.size us := ji9 w1 us hu7
 have L2 : Below w.heap.size w ((jd8 w1).setCells w1.heap.size 0 (ints us)) := jf6 L1 (by omega) _
 have bS := hpre _ _ (by omega) bS
 have bR : RelAt ((jd8 w1).setCells w1.heap.size 0 (ints us)) (w.heap.size + 1 + 1) (List.replicate 7 0) := hpre _ _ (by omega) bR
 have HBU : Hid _ := bU.range
 have ht : ((jd8 w1).setCells w1.heap.size 0 (ints us)).there (w.heap.size + 1 + 1) 0 7 := by simpa using bR.there
 have HBR : Hid _ := ht
 have hk0 : ((jd8 w1).setCells w1.heap.size 0 (ints us)).cell? ⟨w.heap.size + 1, 0, none⟩ = some (.int .i64 k) := by rw [cell_of_row _ _ 0 _ _ (0, 0) bS]; rfl
 clear hpre bF bS bR bU L1 ht
 go_wp2_with (first
  | refine je2 rfl (.tmp 6) rfl g off cap rfl ?_
  | refine jb0 rfl (.tmp 7) rfl g off us rfl hu7 HG.out ?_
  | refine jb0 rfl (.tmp 5) rfl w1.heap.size 0 us rfl hu7 HBU.out ?_
  | refine jb1 rfl rfl (.tmp 5) (.tmp 8) rfl w1.heap.size 0 us rfl rfl hu7 HT.out ?_
  | refine jb1 rfl rfl (.tmp 4) (.tmp 51) rfl (w.heap.size + 1 + 1) 0 us rfl rfl hu7 HBR.out ?_)
 refine jd6 rfl (w.heap.size + 1 + 1) 0 (ints us) _ rfl (World.rangeAt_setCells_same _ _ _ _ (by rw [jb8, hu7]; exact HBR.out)) jl9 rfl (by rw [jj8]; simp [ints, hu7]) rfl ⟨rfl, ?_⟩
 exact L2.grown (jb2 _ _ _ _) (by have := L2.size; omega) (fun k hk => by simp at hk; omega)
def jr5 (c k x y : Int) : List Int :=
 if k = 2 then mkL unitL (ji3 x.toNat) (ji3 y.toNat)
 else if k = 3 then mkL unitL (ji3 x.toNat) (lor (ji3 x.toNat) (ji3 y.toNat))
 else if k = 4 then mkL unitL (ji3 x.toNat) 0
 else if k = 5 then mkL unitL (ji3 x.toNat) (if c = 1 then 1 else 0)
 else unitL
def jo7 (c k x y : Int) : List Int := if (c = 1 ∨ c = 2) ∧ jd7 k x y = true then jr5 c k x y else []
theorem jr3 (c k x y : Int) : (jr5 c k x y).length = 7 := by
 unfold jr5
 split
 · exact jh3 _ _ _
 split
 · exact jh3 _ _ _
 split
 · exact jh3 _ _ _
 split
 · exact jh3 _ _ _
 rfl
theorem inB_nat {x n : Int} (h : inB x 0 n = true) : ∃ i : Nat, x = i ∧ (i : Int) ≤ n := by
 simp [inB] at h
 exact ⟨x.toNat, by omega, by omega⟩
theorem stmtOk_xy {k x y : Int} (h : jd7 k x y = true) (hk : k = 2 ∨ k = 3) : ∃ i j : Nat, x = i ∧ y = j ∧ i < 6 ∧ j < 6 := by
 have h1 : inB x 0 5 = true ∧ inB y 0 5 = true := by
  rcases hk with rfl | rfl <;> simpa [jd7] using h
 obtain ⟨i, rfl, hi⟩ := inB_nat h1.1
 obtain ⟨j, rfl, hj⟩ := inB_nat h1.2
 exact ⟨i, j, rfl, rfl, by omega, by omega⟩
theorem stmtOk_x {k x y : Int} (h : jd7 k x y = true) (hk : k = 4 ∨ k = 5) : ∃ i : Nat, x = i ∧ i < 6 := by
 have h1 : inB x 0 5 = true ∧ inB y 0 0 = true := by
  rcases hk with rfl | rfl <;> simpa [jd7] using h
 obtain ⟨i, rfl, hi⟩ := inB_nat h1.1
 exact ⟨i, rfl, by omega⟩
def markFn (c : Int) : Nat := if c = 1 then 88 else 87
theorem relationOf (c k x y : Int) (hc : c = 1 ∨ c = 2) (h : jd7 k x y = true) (w : World) :
 Calls Tryz.prog 116 #[jl2 (markFn c), .agg #[.int .i64 k, .int .i64 x, .int .i64 y]] w fun e w' => e = .returned (relV (jr5 c k x y)) ∧ Below w.heap.size w w' := by
 by_cases h2 : k = 2
 · subst h2
   obtain ⟨i, j, rfl, rfl, hi, hj⟩ := stmtOk_xy h (.inl rfl)
   exact relationOf2 i j hi hj _ w
 · by_cases h3 : k = 3
   · subst h3
     obtain ⟨i, j, rfl, rfl, hi, hj⟩ := stmtOk_xy h (.inr rfl)
     exact relationOf3 i j hi hj _ w
   · by_cases h4 : k = 4
     · subst h4
       obtain ⟨i, rfl, hi⟩ := stmtOk_x h (.inl rfl)
       exact relationOf4 i y hi _ w
     · by_cases h5 : k = 5
       · subst h5
         obtain ⟨i, rfl, hi⟩ := stmtOk_x h (.inr rfl)
         rcases hc with rfl | rfl
         · exact relationOf5a i y hi w
         · exact relationOf5b i y hi w
       · have e : jr5 c k x y = unitL := by simp [jr5, h2, h3, h4, h5]
         rw [e]
         exact qf0 k x y h2 h3 h4 h5 _ w
theorem flowsOf (c : Int) (hc : c = 1 ∨ c = 2) (w : World) : Calls Tryz.prog 65 #[.int .i64 c] w fun e w' => e = .returned (.tuple #[jl2 (markFn c), .bool true]) ∧ Below w.heap.size w w' := by
 rcases hc with rfl | rfl
 · exact flowsOf1 w
 · exact flowsOf2 w
theorem jk9 {W : World} {B : Nat} {k x y : Int} {t : TypeId} (q : W.heap[B]? = some (.cells #[.int .i64 k, .int .i64 x, .int .i64 y] t (0, 0))) :
 W.cell? ⟨B, 0, none⟩ = some (.int .i64 k) ∧ W.cell? ⟨B, 1, none⟩ = some (.int .i64 x) ∧ W.cell? ⟨B, 2, none⟩ = some (.int .i64 y) :=
 ⟨by rw [cell_of_row _ _ 0 _ _ (0, 0) q]; rfl, by rw [cell_of_row _ _ 1 _ _ (0, 0) q]; rfl, by rw [cell_of_row _ _ 2 _ _ (0, 0) q]; rfl⟩
theorem four_cells {W : World} {B : Nat} {v0 v1 v2 v3 : Value} {t : TypeId} (q : W.heap[B]? = some (.cells #[v0, v1, v2, v3] t (0, 0))) :
 W.cell? ⟨B, 0, none⟩ = some v0 ∧ W.cell? ⟨B, 1, none⟩ = some v1 ∧ W.cell? ⟨B, 2, none⟩ = some v2 ∧ W.cell? ⟨B, 3, none⟩ = some v3 :=
 ⟨by rw [cell_of_row _ _ 0 _ _ (0, 0) q]; rfl, by rw [cell_of_row _ _ 1 _ _ (0, 0) q]; rfl, by rw [cell_of_row _ _ 2 _ _ (0, 0) q]; rfl, by rw [cell_of_row _ _ 3 _ _ (0, 0) q]; rfl⟩
theorem flow_pre {w w1 : World} {o : Obj} (b1 : Below (w.alloc o).heap.size (w.alloc o) w1) : Below w.heap.size w w1 ∧ w1.heap[w.heap.size]? = some o := by
 have a1 : Below w.heap.size w (w.alloc o) := (Below.refl _ _).alloc (Nat.le_refl _) o
 exact ⟨a1.trans (b1.mono a1.size), (b1.block _ (by simp)).trans (heap_alloc_new w _)⟩
theorem implFlow (c k x y : Int) (w : World) :
 Calls Tryz.prog 105 #[.int .i64 c, .agg #[.int .i64 k, .int .i64 x, .int .i64 y]] w fun e w' => ∃ a, e = .returned a ∧ w'.ownsRow w.heap.size 67 1 a (jo7 c k x y).length (ints (jo7 c k x y)) ∧ Below w.heap.size w w' := by
 have hso := fun W => qi0 k x y W
 by_cases hc : c = 1 ∨ c = 2
 · have hfo := fun W => flowsOf c hc W
   cases hs : jd7 k x y
   · have h1 : jo7 c k x y = [] := by simp [jo7, hs]
     rw [h1]
     rw [hs] at hso
     generalize markFn c = m at *
     unfold jl2 at hfo
     clear hc h1 hs
     go_enter Tryz.func105, Tryz.ntmps105
     go_wp2_with fail
     go_at_call 65
     refine (hfo _).mono ?_
     rintro e w1 ⟨rfl, b1⟩
     clear hfo
     obtain ⟨L1, q1⟩ := flow_pre b1
     have hlt : w.heap.size < w1.heap.size := (Array.getElem?_eq_some_iff.1 q1).1
     have q2 : ∀ o, (w1.alloc o).heap[w.heap.size]? = _ := fun o => (ja2 hlt).trans q1
     have g0 := fun o => (jk9 (q2 o)).1
     have g1 := fun o => (jk9 (q2 o)).2.1
     have g2 := fun o => (jk9 (q2 o)).2.2
     have s1 := L1.size
     clear q1 q2 b1
     go_wp2_with (go_at_call 70; refine (hso _).mono ?_; rintro e w2 ⟨rfl, b2⟩)
     go_ret
     exact ⟨_, rfl, ⟨rfl, .inl ⟨rfl, rfl⟩⟩, (L1.alloc (by omega) _).trans (b2.mono (by simp; omega))⟩
   · have h1 : jo7 c k x y = jr5 c k x y := by simp [jo7, hs, hc]
     rw [h1]
     rw [hs] at hso
     have hz7 := jr3 c k x y
     have hro := fun W => relationOf c k x y hc hs W
     generalize jr5 c k x y = zs at *
     generalize markFn c = m at *
     unfold jl2 at hfo hro
     clear hc h1 hs
     go_enter Tryz.func105, Tryz.ntmps105
     go_wp2_with fail
     go_at_call 65
     refine (hfo _).mono ?_
     rintro e w1 ⟨rfl, b1⟩
     clear hfo
     obtain ⟨L1, q1⟩ := flow_pre b1
     have hlt : w.heap.size < w1.heap.size := (Array.getElem?_eq_some_iff.1 q1).1
     have q2 : ∀ o, (w1.alloc o).heap[w.heap.size]? = _ := fun o => (ja2 hlt).trans q1
     have g0 := fun o => (jk9 (q2 o)).1
     have g1 := fun o => (jk9 (q2 o)).2.1
     have g2 := fun o => (jk9 (q2 o)).2.2
     have s1 := L1.size
     have HQ : Hid _ := q2
     clear q1 q2 b1
     go_wp2_with fail
     go_at_call 70
     refine (hso _).mono ?_
     rintro e w2 ⟨rfl, b2⟩
     clear hso g0 g1 g2
     have s2 := b2.size
     simp only [World.size_alloc] at s2
     obtain ⟨g0, g1, g2⟩ := jk9 ((b2.block _ (by simp; omega)).trans (HQ.out _))
     obtain ⟨k0, k1, k2, k3⟩ := four_cells ((b2.block w1.heap.size (by simp)).trans (heap_alloc_new w1 _))
     have L2 := (L1.alloc (by omega) _).trans (b2.mono (by simp; omega))
     clear HQ b2
     go_wp2_with fail
     go_at_call 116
     refine (hro _).mono ?_
     rintro e w3 ⟨rfl, b3⟩
     have L3 := L2.trans (b3.mono L2.size)
     have s3 := L3.size
     clear hro g0 g1 g2 k0 k1 k2 k3 b3
     have hst := jf5 w3
     have HS : Hid _ := hst
     clear hst
     go_wp2_with (refine jb1 rfl rfl (.tmp 7) (.tmp 22) rfl w3.heap.size 0 zs rfl rfl hz7 HS.out ?_)
     go_ret
     exact ⟨_, rfl, by rw [hz7]; exact RelAt.own (ji9 w3 zs hz7) L3.size hz7, jf6 L3 L3.size _⟩
 · have h1 : jo7 c k x y = [] := by simp [jo7, hc]
   rw [h1]
   have hfo := fun W => flowsOfNo c (fun e => hc (.inl e)) (fun e => hc (.inr e)) W
   clear h1 hc
   go_enter Tryz.func105, Tryz.ntmps105
   go_wp2_with fail
   go_at_call 65
   refine (hfo _).mono ?_
   rintro e w1 ⟨rfl, b1⟩
   clear hfo
   obtain ⟨L1, q1⟩ := flow_pre b1
   have s1 := L1.size
   clear q1 b1
   go_wp2
   go_ret
   exact ⟨_, rfl, ⟨rfl, .inl ⟨rfl, rfl⟩⟩, L1.alloc (by omega) _⟩
end Go.Proofs.YtldagpfeaabcdaaGreatDoor
namespace Go.Proofs.YtldagpfeaabcdaaGreatDoor
open Go.RowKit
set_option linter.unusedVariables false
set_option maxHeartbeats 2000000
set_option maxRecDepth 4000
abbrev IntAt (w : World) (B : Nat) (xs : List Int) : Prop := w.heap[B]? = some (.cells (ints xs).toArray 2 (0, 0))
theorem IntAt.cell {w : World} {B : Nat} {xs : List Int} (h : IntAt w B xs) (j : Nat) (hj : j < xs.length) : w.cell? ⟨B, j, none⟩ = some (.int .i64 (xs.getD j 0)) ∧ w.frozen? ⟨B, j, none⟩ = false := by
 refine ⟨?_, frozen_of_row w B j _ _ h⟩
 rw [cell_of_row w B j _ _ (0, 0) h]
 simp [ints, List.getD, hj]
theorem IntAt.set {w : World} {B : Nat} {xs : List Int} (h : IntAt w B xs) (j : Nat) (x : Int) : IntAt (w.setCell ⟨B, j, none⟩ (.int .i64 x)) B (xs.set j x) := by
 have := heap_setCell_same w B j _ _ (.int .i64 x) h
 show (w.setCell ⟨B, j, none⟩ (.int .i64 x)).heap[B]? = _
 rw [this]
 simp [ints, List.map_set]
theorem IntAt.lt {w : World} {B : Nat} {xs : List Int} (h : IntAt w B xs) : B < w.heap.size := (Array.getElem?_eq_some_iff.1 h).1
theorem IntAt.own {w : World} {B : Nat} {xs : List Int} (h : IntAt w B xs) {base : Nat} (hb : base ≤ B) (hl : xs.length = 7) : w.ownsRow base 2 1 (.slice (some ⟨B, 0, none⟩) 7 7) 7 (ints xs) :=
 ⟨by simp [ints, hl], .inr ⟨B, 7, (ints xs).toArray, rfl, hb, h, by omega, by unfold maxLen; omega, by simp [ints, hl], by rw [List.toList_toArray, Nat.mul_one]; exact List.take_of_length_le (by simp [ints, hl])⟩⟩
theorem stmtOk_x6 {k x y : Int} (h : jd7 k x y = true) : ∃ i : Nat, x = i ∧ i < 6 := by
 have h1 : inB x 0 5 = true := by
  rcases kinds k with rfl | rfl | rfl | rfl | rfl | rfl | rfl | rfl | rfl | ⟨h1, h2, h3, h4, h5, h6, h7, h8, h9⟩
  all_goals simp [jd7, *] at h
  all_goals simp [inB] at h ⊢
  all_goals omega
 obtain ⟨i, rfl, hi⟩ := inB_nat h1
 exact ⟨i, rfl, by omega⟩
end Go.Proofs.YtldagpfeaabcdaaGreatDoor
namespace Go.Proofs.YtldagpfeaabcdaaGreatDoor
open Go.RowKit
set_option linter.unusedVariables false
theorem comp_get {xs ys : List Int} (hx : Smalls xs) {j : Nat} (hj : j < 7) : (comp xs ys).getD j 0 = img ys (xs.getD j 0) := by
 simp [comp, List.getD, hx.1, hj]
theorem joi_get {xs ys : List Int} (hx : Smalls xs) (hy : Smalls ys) {j : Nat} (hj : j < 7) : (joi xs ys).getD j 0 = lor (xs.getD j 0) (ys.getD j 0) := by
 simp [joi, List.getD, hx.1, hy.1, hj]
theorem qd3 {xs : List Int} (hl : xs.length = 7) (h : ∀ j, j < 7 → jk1 (xs.getD j 0)) : Smalls xs := by
 refine ⟨hl, fun x hx => ?_⟩
 obtain ⟨j, hj, rfl⟩ := List.getElem_of_mem hx
 have := h j (by omega)
 simpa [List.getD, hj] using this
theorem jh7 {xs ys : List Int} (hx : Smalls xs) (hy : Smalls ys) : Smalls (comp xs ys) :=
 qd3 (by simp [comp, hx.1]) (fun j hj => by rw [comp_get hx hj]; exact img_small hy _)
theorem ji2 {xs ys : List Int} (hx : Smalls xs) (hy : Smalls ys) : Smalls (joi xs ys) :=
 qd3 (by simp [joi, hx.1, hy.1]) (fun j hj => by rw [joi_get hx hy hj]; exact jv6 (hx.getD j) (hy.getD j))
theorem unit_smalls : Smalls unitL := relOk_iff.1 (by decide)
theorem bit_eq {a b : Int} (ha : jk1 a) (hb : jk1 b) (h : ∀ t, t < 7 → (bit a t = true ↔ bit b t = true)) : a = b :=
 bit_ext ha hb (fun t ht => Bool.eq_iff_iff.2 (h t ht))
end Go.Proofs.YtldagpfeaabcdaaGreatDoor
namespace Go.Proofs.YtldagpfeaabcdaaGreatDoor
open Go.RowKit
set_option linter.unusedVariables false
set_option maxHeartbeats 1000000
theorem small_made : ∀ j, j < 7 → ∀ x, x < 6 → ∀ b : Bool,
 (0 ≤ (if b = true then lor (cut (unitL.getD j 0) (ji3 x)) (ji3 x) else cut (unitL.getD j 0) (ji3 x))) ∧ (if b = true then lor (cut (unitL.getD j 0) (ji3 x)) (ji3 x) else cut (unitL.getD j 0) (ji3 x)) ≤ 127 := by
 decide +kernel
theorem js4 (x : Nat) (hx : x < 6) (m : Int) : Smalls (mkL unitL (ji3 x) m) := by
 refine qd3 (jh3 _ _ _) (fun j hj => ?_)
 rw [mkL_getD _ _ _ _ hj]
 exact small_made j hj x hx (bit m j)
theorem flowL_smalls {c k x y : Int} (h : jd7 k x y = true) : Smalls (jr5 c k x y) := by
 obtain ⟨i, rfl, hi⟩ := stmtOk_x6 h
 unfold jr5
 split
 · exact js4 i hi _
 split
 · exact js4 i hi _
 split
 · exact js4 i hi _
 split
 · exact js4 i hi _
 exact unit_smalls
end Go.Proofs.YtldagpfeaabcdaaGreatDoor
namespace Go.Proofs.YtldagpfeaabcdaaGreatDoor
open Go.RowKit
set_option linter.unusedVariables false
set_option maxHeartbeats 1000000
def jj0 (s : Stm) (i : Int) : List Int :=
 if s.k = 9 then []
 else if s.k = 7 then (if s.y ≤ i then [s.y, i + 1] else if i + 1 < s.y then [i + 1, s.y] else [i + 1])
 else [i + 1]
theorem jw6 (s : Stm) (i : Int) : (jj0 s i).length ≤ 2 := by
 unfold jj0
 repeat' split
 all_goals simp
theorem made1 (w : World) (a : Int) : (w.alloc (.cells #[.int .i64 a] 2)).ownsRow w.heap.size 2 1 (.slice (some ⟨w.heap.size, 0, none⟩) 1 1) 1 [.int .i64 a] :=
 World.ownsRow_lit w #[.int .i64 a] 1 (size := 1) (Nat.le_refl _) (by decide) (by simp)
theorem made2 (w : World) (a b : Int) : (w.alloc (.cells #[.int .i64 a, .int .i64 b] 2)).ownsRow w.heap.size 2 1 (.slice (some ⟨w.heap.size, 0, none⟩) 2 2) 2 [.int .i64 a, .int .i64 b] :=
 World.ownsRow_lit w #[.int .i64 a, .int .i64 b] 2 (size := 1) (Nat.le_refl _) (by decide) (by simp)
theorem made1_at {w : World} {n base : Nat} (hn : w.heap.size = n) (hb : base ≤ n) (a : Int) : (w.alloc (.cells #[.int .i64 a] 2)).ownsRow base 2 1 (.slice (some ⟨n, 0, none⟩) 1 1) 1 [.int .i64 a] := by
 subst hn
 exact jc4 (made1 w a) hb
theorem made2_at {w : World} {n base : Nat} (hn : w.heap.size = n) (hb : base ≤ n) (a b : Int) : (w.alloc (.cells #[.int .i64 a, .int .i64 b] 2)).ownsRow base 2 1 (.slice (some ⟨n, 0, none⟩) 2 2) 2 [.int .i64 a, .int .i64 b] := by
 subst hn
 exact jc4 (made2 w a b) hb
theorem nil_own (w : World) (base : Nat) : w.ownsRow base 2 1 (.slice none 0 0) 0 [] := ⟨by simp, .inl ⟨rfl, rfl⟩⟩
theorem nextsOf (ss : List Stm) (i : Nat) (v : Value) (w : World) (hi : i < ss.length) (hl : ss.length ≤ 12) (hv : jk5 w v ss) :
 Calls Tryz.prog 98 #[.agg #[v], .int .i64 i] w fun e w' => ∃ u, e = .returned u ∧ w'.ownsRow w.heap.size 2 1 u (jj0 ss[i] i).length (ints (jj0 ss[i] i)) ∧ Below w.heap.size w w' := by
 obtain ⟨ao, cap, rfl, hc⟩ := hv
 obtain ⟨g, off, rfl, p0, p1, p2⟩ := hc i ss[i] (by simp [hi])
 have pB := World.block_lt_of_cell? w _ p0
 have hi' : (i : Int) < (ss.length : Int) := by omega
 have hl' : (ss.length : Int) ≤ 12 := by omega
 clear hc
 generalize ss[i] = s at *
 obtain ⟨sk, sx, sy⟩ := s
 simp only at p0 p1 p2
 unfold jj0
 simp only
 by_cases h9 : sk = 9
 · subst h9
   simp only [if_true]
   go_enter Tryz.func98, Tryz.ntmps98
   go_wp2
   go_ret
   exact ⟨_, rfl, nil_own _ _, by go_grown⟩
 have h9' : (sk == 9) = false := by simpa using h9
 rw [if_neg h9]
 by_cases h7 : sk = 7
 · subst h7
   rw [if_pos rfl]
   clear h9 h9'
   by_cases hy : sy ≤ i
   · rw [if_pos hy]
     go_enter Tryz.func98, Tryz.ntmps98
     go_wp2
     go_ret
     exact ⟨.slice (some ⟨w.heap.size + 1 + 1, 0, none⟩) 2 2, rfl, made2_at (by simp) (by omega) _ _, by go_grown⟩
   rw [if_neg hy]
   by_cases hy2 : (i : Int) + 1 < sy
   · rw [if_pos hy2]
     go_enter Tryz.func98, Tryz.ntmps98
     go_wp2
     go_ret
     exact ⟨.slice (some ⟨w.heap.size + 1 + 1, 0, none⟩) 2 2, rfl, made2_at (by simp) (by omega) _ _, by go_grown⟩
   · rw [if_neg hy2]
     go_enter Tryz.func98, Tryz.ntmps98
     go_wp2
     go_ret
     exact ⟨.slice (some ⟨w.heap.size + 1 + 1, 0, none⟩) 1 1, rfl, made1_at (by simp) (by omega) _, by go_grown⟩
 · have h7' : (sk == 7) = false := by simpa using h7
   rw [if_neg h7]
   go_enter Tryz.func98, Tryz.ntmps98
   go_wp2
   go_ret
   exact ⟨.slice (some ⟨w.heap.size + 1 + 1, 0, none⟩) 1 1, rfl, made1_at (by simp) (by omega) _, by go_grown⟩
theorem jh0 {ss : List Stm} (h : je7 ss = true) : 1 ≤ ss.length ∧ ss.length ≤ 12 ∧ (∀ (i : Nat) (hi : i < ss.length), jm6 ss.length ss[i] = true ∧ (ss[i].k ≠ 9 → i + 1 < ss.length)) := by
 unfold je7 at h
 simp only [Bool.and_eq_true, decide_eq_true_eq] at h
 obtain ⟨⟨⟨h1, h2⟩, h3⟩, h4⟩ := h
 refine ⟨h1, h2, fun i hi => ⟨List.all_eq_true.1 h4 _ (List.getElem_mem hi), fun h9 => ?_⟩⟩
 rcases Nat.lt_or_ge (i + 1) ss.length with h | h
 · exact h
 · have : i = ss.length - 1 := by omega
   subst this
   simp [hi, h9] at h3
theorem stmOk_jump {n : Nat} {s : Stm} (h : jm6 n s = true) (h7 : s.k = 7) : 0 ≤ s.y ∧ s.y < n := by
 unfold jm6 at h
 simp only [Bool.and_eq_true] at h
 obtain ⟨h1, h2⟩ := h
 rw [h7] at h1
 refine ⟨qd9 h1, ?_⟩
 simpa [h7] using h2
theorem qc9 {ss : List Stm} (h : je7 ss = true) {i : Nat} (hi : i < ss.length) : ∀ x ∈ jj0 ss[i] i, ∃ j : Nat, x = (j : Int) ∧ j < ss.length := by
 obtain ⟨_, _, h3⟩ := jh0 h
 obtain ⟨h4, h5⟩ := h3 i hi
 intro x hx
 unfold jj0 at hx
 by_cases h9 : ss[i].k = 9
 · simp [h9] at hx
 rw [if_neg h9] at hx
 have hn : ∃ j : Nat, ((i : Int) + 1) = (j : Int) ∧ j < ss.length := ⟨i + 1, by omega, h5 h9⟩
 by_cases h7 : ss[i].k = 7
 · rw [if_pos h7] at hx
   obtain ⟨y0, y1⟩ := stmOk_jump h4 h7
   have hy : ∃ j : Nat, ss[i].y = (j : Int) ∧ j < ss.length := ⟨ss[i].y.toNat, by omega, by omega⟩
   split at hx
   · simp at hx; rcases hx with rfl | rfl <;> assumption
   · split at hx
     · simp at hx; rcases hx with rfl | rfl <;> assumption
     · simp at hx; subst hx; assumption
 · rw [if_neg h7] at hx
   simp at hx; subst hx; assumption
theorem three_cells' {w : World} {b : Nat} {x0 x1 x2 : Value} {T : TypeId} (h : w.heap[b]? = some (.cells #[x0, x1, x2] T (0, 0))) :
 w.cell? ⟨b, 0, none⟩ = some x0 ∧ w.cell? ⟨b, 1, none⟩ = some x1 ∧ w.cell? ⟨b, 2, none⟩ = some x2 ∧
  w.frozen? ⟨b, 0, none⟩ = false ∧ w.frozen? ⟨b, 1, none⟩ = false ∧ w.frozen? ⟨b, 2, none⟩ = false := by
 refine ⟨?_, ?_, ?_, ?_, ?_, ?_⟩ <;> simp [World.cell?, World.frozen?, h]
end Go.Proofs.YtldagpfeaabcdaaGreatDoor
