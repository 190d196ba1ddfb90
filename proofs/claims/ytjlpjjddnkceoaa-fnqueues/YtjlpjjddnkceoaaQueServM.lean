/-
  Chapter 17: what Served answers; firstInTurn.
-/
import Derived.Test.YtjlpjjddnkceoaaQueCameS
import Derived.BigRegion
namespace Go.Proofs.Ytjlpjjddnkceoaa
open Go.RowKit
set_option linter.unusedVariables false
set_option linter.unusedSimpArgs false
set_option maxHeartbeats 8000000
set_option maxRecDepth 20000

/-- The first Line that is not empty, from τ on. -/
def fst17 (X : List (List Int)) (τ : Nat) : Option Nat := (List.range 8).find? (fun k => !(X.getD ((τ + k) % 8) []).isEmpty)

theorem find_range {p : Nat → Bool} {k : Nat} (hk : k < 8) (h : p k = true) (hn : ∀ i, i < k → p i = false) : (List.range 8).find? p = some k := by
  rw [List.find?_range_eq_some]
  exact ⟨h, by simpa using hk, fun j hj => by rw [hn j hj]; rfl⟩

theorem fst17_some {X : List (List Int)} {τ k : Nat} (hk : k < 8) (h : X.getD ((τ + k) % 8) [] ≠ []) (hn : ∀ i, i < k → X.getD ((τ + i) % 8) [] = []) : fst17 X τ = some k := by
  refine find_range hk ?_ (fun i hi => ?_)
  · cases hx : X.getD ((τ + k) % 8) [] with
    | nil => exact absurd hx h
    | cons a l => rfl
  · show (!(X.getD ((τ + i) % 8) []).isEmpty) = false
    rw [hn i hi]; rfl

theorem fst17_none {X : List (List Int)} {τ : Nat} (hn : ∀ i, i < 8 → X.getD ((τ + i) % 8) [] = []) : fst17 X τ = none := by
  unfold fst17
  rw [List.find?_eq_none]
  intro i hi
  have hi8 : i < 8 := by simpa using hi
  simp only [hn i hi8]
  decide

/-- What Served answers. -/
def servA (t : Int) (X : List (List Int)) : Int × List (List Int) × Int × Int :=
  if queB t X = false then (0, [], -1, 0) else
    match fst17 X t.toNat with
    | none => (t, X, -1, 0)
    | some k => ((((t.toNat + k) % 8 + 1) % 8 : Nat), X.set ((t.toNat + k) % 8) (X.getD ((t.toNat + k) % 8) []).tail, ((t.toNat + k) % 8 : Nat), (X.getD ((t.toNat + k) % 8) []).headD 0)

theorem serv_small {t : Int} {X : List (List Int)} {T9 r9 m9 : Int} {Y9 : List (List Int)} (h : servA t X = (T9, Y9, r9, m9)) : Y9.length ≤ 8 ∧ ∀ y ∈ Y9, y.length ≤ 6 := by
  unfold servA at h
  cases hq : queB t X with
  | false =>
    rw [hq] at h
    simp at h
    obtain ⟨_, rfl, _⟩ := h
    simp
  | true =>
    obtain ⟨_, _, h8, h5, _⟩ := queB_parts hq
    rw [hq] at h
    simp only [Bool.true_eq_false, if_false] at h
    cases hf : fst17 X t.toNat with
    | none =>
      rw [hf] at h
      simp at h
      obtain ⟨_, rfl, _⟩ := h
      exact ⟨by omega, fun y hy => by have := h5 y hy; omega⟩
    | some k =>
      rw [hf] at h
      simp only [Prod.mk.injEq] at h
      obtain ⟨_, rfl, _⟩ := h
      refine ⟨by simp; omega, fun y hy => ?_⟩
      rcases List.mem_or_eq_of_mem_set hy with hy | hy
      · have := h5 y hy; omega
      · subst hy
        have hj : (t.toNat + k) % 8 < X.length := by omega
        have : X.getD ((t.toNat + k) % 8) [] = X[(t.toNat + k) % 8] := by simp [List.getD, hj]
        rw [this]
        have := h5 _ (List.getElem_mem hj)
        simp
        omega

theorem remQ {x : Nat} (hx : x ≤ 100) : Int.tmod ((x : Int)) 8 = ((x % 8 : Nat) : Int) := by
  rw [Int.tmod_eq_emod_of_nonneg (by omega)]
  omega

theorem behindSession (s : Nat) (w : World) (hs : s ≤ 7) :
    Calls Try.prog 23 #[.int .i64 (s : Int)] w fun e w' => e = .returned (.int .i64 (((s + 1) % 8 : Nat) : Int)) ∧ w = w' := by
  have h1 : IntKind.i64.wrap ((s : Int) + 1) = (s : Int) + 1 := IntWalk.i64_in _ (by omega)
  have h2 : Int.tmod ((s : Int) + 1) 8 = (((s + 1) % 8 : Nat) : Int) := by
    rw [Int.tmod_eq_emod_of_nonneg (by omega)]
    omega
  have h3 : IntKind.i64.wrap (((s + 1) % 8 : Nat) : Int) = (((s + 1) % 8 : Nat) : Int) := IntWalk.i64_in _ (by omega)
  go_enter Try.func23, Try.ntmps23
  go_wp2
  go_ret
  first
    | exact ⟨rfl, rfl⟩
    | exact ⟨by rw [h2], rfl⟩
    | exact ⟨by simp [h1, h2, h3], rfl⟩

theorem firstInTurn (τ : Nat) (X : List (List Int)) (v : Value) (w : World) (ht : τ ≤ 7) (h8 : X.length = 8) (h5 : ∀ x ∈ X, x.length ≤ 5) (hv : ReadsSS w v X) :
    Calls Try.prog 22 #[.agg #[.int .i64 (τ : Int), v]] w fun e w' => (∃ r : Int, e = .returned (.int .i64 r) ∧ ((∃ k, k < 8 ∧ r = (((τ + k) % 8 : Nat) : Int) ∧ X.getD ((τ + k) % 8) [] ≠ [] ∧ fst17 X τ = some k) ∨ (r = -1 ∧ fst17 X τ = none))) ∧ Below w.heap.size w w' := by
  obtain ⟨ao, cap, rfl, hc⟩ := hv
  have h8a : X.length ≤ 8 := by omega
  have h8b : 8 ≤ X.length := by omega
  clear h8
  obtain ⟨W0, hW0⟩ : ∃ W0, w.alloc (.cells #[.int .i64 (τ : Int), .slice ao X.length cap] 26) = W0 := ⟨_, rfl⟩
  have hb0 : Below w.heap.size w W0 := by rw [← hW0]; go_grown
  have B0 : W0.heap[w.heap.size]? = some (.cells #[.int .i64 (τ : Int), .slice ao X.length cap] 26 (0, 0)) := by rw [← hW0]; exact heap_alloc_new w _
  obtain ⟨c0, c1, _, _⟩ := two_cellsQ B0
  have hcc : ∀ j xs, X[j]? = some xs → ∃ g off u, ao = some ⟨g, off, none⟩ ∧ W0.cell? ⟨g, off + j, none⟩ = some u ∧ Reads W0 u (ints xs) := by
    intro j xs h
    obtain ⟨g, off, u, e, h1, h2⟩ := hc j xs h
    exact ⟨g, off, u, e, (hb0.cell (World.block_lt_of_cell? w _ h1)).trans h1, reads_below h2 hb0⟩
  clear hc
  go_enter Try.func22, Try.ntmps22
  go_wp2_with fail
  clear hW0
  go_step3
  go_wp2
  go_step3
  go_wp2
  go_loopw [3, 4] (fun f i wr => ∃ (k : Nat) (u9 : Value), k < 8 ∧ f = .int .i64 (-1) ∧ i = .int .i64 (((τ + k) % 8 : Nat) : Int) ∧ W0.heap.size ≤ wr.heap.size ∧ Below W0.heap.size W0 wr ∧ ∀ i, i < k → X.getD ((τ + i) % 8) [] = []) (fun _ i _ => 8 - ((intOf i).toNat + 8 - τ) % 8)
  case atStart => exact ⟨0, undef, by omega, rfl, by rw [Nat.add_zero, Nat.mod_eq_of_lt (by omega)], Nat.le_refl _, Below.refl _ _, fun i hi => by omega⟩
  case round =>
    obtain ⟨k, u9, hk, rfl, rfl, hsz, hB, hno⟩ := hrel
    obtain ⟨j, hj⟩ : ∃ j, (τ + k) % 8 = j := ⟨_, rfl⟩
    have hj7 : j ≤ 7 := by omega
    have hjX : j < X.length := by omega
    rw [hj]
    obtain ⟨g, off, u, rfl, cu, ru⟩ := hcc j X[j] (by simp [hjX])
    obtain ⟨a5, c5, rfl, _⟩ := ru
    rw [ints_length] at cu
    have hgd : X.getD j [] = X[j] := by simp [List.getD, hjX]
    have hjX' : (j : Int) < (X.length : Int) := by omega
    have cu1 := (hB.cell (World.block_lt_of_cell? W0 _ cu)).trans cu
    have c01 := (hB.cell (World.block_lt_of_cell? W0 _ c0)).trans c0
    have c11 := (hB.cell (World.block_lt_of_cell? W0 _ c1)).trans c1
    have hxl := h5 X[j] (List.getElem_mem hjX)
    have HN : Hid (∀ i, i < k → X.getD ((τ + i) % 8) [] = []) := hno
    have HG : Hid _ := hgd
    have HJ : Hid _ := hj
    have HL : Hid (Below w.heap.size w wr) := hb0.trans (hB.mono hb0.size)
    clear hno hgd hj hcc
    obtain ⟨ys, hys⟩ : ∃ ys, X[j] = ys := ⟨_, rfl⟩
    rw [hys] at cu1 cu hxl HG
    clear hys
    by_cases h0 : ys = []
    · subst h0
      have hz : decide ((0 : Int) < ((([] : List Int).length : Nat) : Int)) = false := by simp
      have he : ∀ d os, _ := fun d os => Calls.regrown_of (w := wr) (d := d) (os := os) ((behindSession j _ hj7).mono (fun e w' ⟨h1, h2⟩ => ⟨h1, h2 ▸ Below.refl _ _⟩))
      have c02 := cell_regrown c01
      go_wp2_with fail
      refine wp_region_quiet_below (by kernel_rfl) (by kernel_rfl) ?_
      repeat (go_big_quiet_step (exact he _ _))
      refine wpQuiet_nil ?_
      intro _ hw'
      obtain ⟨⟨dq, osq⟩, hw''⟩ := hw'
      subst hw''
      have BW := below_regrown wr dq osq
      have HLq := HL.out.trans (BW.mono HL.out.size)
      have HBq := hB.trans (BW.mono hB.size)
      clear he c02 BW c01 c11 cu1
      by_cases hl : (j + 1) % 8 = τ
      · have hl' : ((((j + 1) % 8 : Nat) : Int) == (τ : Int)) = true := by simp; omega
        have HF : Hid (fst17 X τ = none) := fst17_none (fun i hi => by
          have h1 := HJ.out
          by_cases hik : i < k
          · exact HN.out i hik
          · have : i = k := by omega
            rw [this, h1, HG.out])
        clear hl
        go_wp2
        rw [Exit.noGoto_ret]
        go_ret
        exact ⟨⟨-1, rfl, .inr ⟨rfl, HF.out⟩⟩, HLq⟩
      · have hl' : ((((j + 1) % 8 : Nat) : Int) == (τ : Int)) = false := by simp; omega
        have hk1 : k + 1 < 8 := by have := HJ.out; omega
        have hjk : (j + 1) % 8 = (τ + (k + 1)) % 8 := by have := HJ.out; omega
        have HK : Hid _ := hjk
        clear hl hjk
        go_wp2_with fail
        go_at_call 23
        refine (behindSession j _ hj7).mono ?_
        rintro e w9 ⟨rfl, h9⟩
        subst h9
        rw [HK.out]
        go_wp2
        go_roundw
        case rel => exact ⟨k + 1, undef, hk1, rfl, rfl, HBq.size, HBq, fun i hi => by
          by_cases hik : i < k
          · exact HN.out i hik
          · have : i = k := by omega
            rw [this, HJ.out, HG.out]⟩
        case measure =>
          have := HJ.out
          simp [intOf]
          omega
    · have hpos : 0 < ys.length := List.length_pos_iff.2 h0
      have hpos' : decide ((0 : Int) < (ys.length : Int)) = true := by simp; omega
      have HF : Hid (fst17 X τ = some k) := fst17_some hk (by rw [HJ.out, HG.out]; exact h0) HN.out
      go_wp2
      rw [Exit.noGoto_ret]
      go_ret
      exact ⟨⟨j, rfl, .inl ⟨k, hk, by rw [HJ.out], by rw [HJ.out, HG.out]; exact h0, HF.out⟩⟩, HL.out⟩

end Go.Proofs.Ytjlpjjddnkceoaa
