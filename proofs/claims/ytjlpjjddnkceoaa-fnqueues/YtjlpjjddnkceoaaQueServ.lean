/-
  Chapter 17: spec.Served.
-/
import Derived.Test.YtjlpjjddnkceoaaQueServI
namespace Go.Proofs.Ytjlpjjddnkceoaa
open Go.RowKit
set_option linter.unusedVariables false
set_option linter.unusedSimpArgs false
set_option maxHeartbeats 8000000
set_option maxRecDepth 20000

/-- What Served answers of a right Queue. -/
def servR (τ : Nat) (X : List (List Int)) : Nat × List (List Int) × Int × Int :=
  match fst17 X τ with
  | none => (τ, X, -1, 0)
  | some k => (((τ + k) % 8 + 1) % 8, X.set ((τ + k) % 8) (X.getD ((τ + k) % 8) []).tail, ((τ + k) % 8 : Nat), (X.getD ((τ + k) % 8) []).headD 0)

theorem servA_R {τ : Nat} {X : List (List Int)} (h : queB (τ : Int) X = true) : servA (τ : Int) X = ((((servR τ X).1 : Nat) : Int), (servR τ X).2.1, (servR τ X).2.2.1, (servR τ X).2.2.2) := by
  unfold servA servR
  rw [h, Int.toNat_natCast]
  cases fst17 X τ <;> rfl

theorem ownSS_box {w : World} {base C o : Nat} {v x : Value} {us : List Value} {Y : List (List Int)} {cs : Array Value} (h : OwnSS w base v us Y) (hb : w.heap[C]? = some (.cells cs 26 (0, 0))) : OwnSS (w.setCell ⟨C, o, none⟩ x) base v us Y :=
  h.same (fun k hk => Below.heap_setCell _ _ _ _ (fun e => row_not_box h.row hb (by rw [hk]; simp [e]))) (fun u hu k hk => Below.heap_setCell _ _ _ _ (fun e => by
    obtain ⟨xs, _, ho⟩ := h.inner hu
    exact row_not_box ho hb (by rw [hk]; simp [e])))

theorem l17Served (τ : Nat) (X : List (List Int)) (C R uc base : Nat) (us : List Value) (w : World) (ht : τ ≤ 7) (h8 : X.length = 8) (h5 : ∀ x ∈ X, x.length ≤ 5) (hB0 : w.heap[C]? = some (.cells #[.int .i64 (τ : Int), .slice (some ⟨R, 0, none⟩) X.length uc] 26 (0, 0)))
    (hQ0 : OwnSS w base (.slice (some ⟨R, 0, none⟩) X.length uc) us X) (hA0 : ApartSS us) (hClo : base ≤ C) :
    Calls Try.prog 25 #[.pointer (some ⟨C, 0, none⟩)] w fun e w' => ∃ (q : Nat) (us' : List Value) (Y : List (List Int)) (r m : Int), e = .returned (.tuple #[.int .i64 r, .int .i64 m]) ∧ w'.heap[C]? = some (.cells #[.int .i64 (q : Int), .slice (some ⟨R, 0, none⟩) X.length uc] 26 (0, 0)) ∧
      OwnSS w' base (.slice (some ⟨R, 0, none⟩) X.length uc) us' Y ∧ ApartSS us' ∧ Below base w w' ∧ servR τ X = (q, Y, r, m) := by
  obtain ⟨j0, hj, hy0, hy1, hy2⟩ := info_parts infoInt
  have h8a : X.length ≤ 8 := by omega
  have h8b : 8 ≤ X.length := by omega
  clear h8
  have HAP : Hid _ := hA0
  have hRlo : base ≤ R := (hQ0.row.lt R rfl).1
  have hRC : C ≠ R := fun e => row_not_box hQ0.row hB0 (by simp [Value.ownBlock, e])
  have HBs : Hid _ := hB0
  have HQs : Hid _ := hQ0
  clear hA0 hB0 hQ0
  go_enter Try.func25, Try.ntmps25
  go_wp2_with fail
  go_loopw [4] (fun i wr => ∃ k : Nat, k ≤ 8 ∧ i = .int .i64 (k : Int) ∧ w = wr ∧ ∀ i, i < k → X.getD ((τ + i) % 8) [] = []) (fun i _ => 8 - (intOf i).toNat)
  case atStart => exact ⟨0, by omega, rfl, rfl, fun i hi => by omega⟩
  case round =>
    obtain ⟨k, hk, rfl, rfl, hno⟩ := hrel
    have HB : Hid (w.heap[C]? = some (.cells #[.int .i64 (τ : Int), .slice (some ⟨R, 0, none⟩) X.length uc] 26 (0, 0))) := HBs.out
    have HQ : Hid (OwnSS w base (.slice (some ⟨R, 0, none⟩) X.length uc) us X) := HQs.out
    have HL : Hid (Below base w w) := Below.refl _ _
    have HN : Hid (∀ i, i < k → X.getD ((τ + i) % 8) [] = []) := hno
    clear hno HBs HQs
    obtain ⟨d0, d1, -, -⟩ := two_cellsQ HB.out
    by_cases hk8 : k < 8
    · have hk8' : (k : Int) < 8 := by omega
      obtain ⟨j, hj9⟩ : ∃ j, (τ + k) % 8 = j := ⟨_, rfl⟩
      have hj7 : j ≤ 7 := by omega
      have hjX : j < X.length := by omega
      have hjX' : (j : Int) < (X.length : Int) := by omega
      have hw1 : IntKind.i64.wrap ((τ : Int) + (k : Int)) = (τ : Int) + (k : Int) := IntWalk.i64_in _ (by omega)
      have hw2 : Int.tmod ((τ : Int) + (k : Int)) 8 = (j : Int) := by
        rw [Int.tmod_eq_emod_of_nonneg (by omega)]; omega
      have hw3 : IntKind.i64.wrap (j : Int) = (j : Int) := IntWalk.i64_in _ (by omega)
      obtain ⟨q9, hq9⟩ : ∃ q9, (j + 1) % 8 = q9 := ⟨_, rfl⟩
      have hw4 : IntKind.i64.wrap ((j : Int) + 1) = (j : Int) + 1 := IntWalk.i64_in _ (by omega)
      have hw5 : Int.tmod ((j : Int) + 1) 8 = (q9 : Int) := by
        rw [Int.tmod_eq_emod_of_nonneg (by omega)]; omega
      have hw6 : IntKind.i64.wrap (q9 : Int) = (q9 : Int) := IntWalk.i64_in _ (by omega)
      have hgd : X.getD j [] = X[j] := by simp [List.getD, hjX]
      obtain ⟨ys, hys⟩ : ∃ ys, X[j] = ys := ⟨_, rfl⟩
      have HXJ : Hid (X[j]? = some ys) := by show X[j]? = some ys; rw [← hys]; simp [hjX]
      have hle : ys.length ≤ 5 := by rw [← hys]; exact h5 _ (List.getElem_mem hjX)
      have HGD : Hid (X.getD ((τ + k) % 8) [] = ys) := by show X.getD ((τ + k) % 8) [] = ys; rw [hj9, hgd, hys]
      have HJ9 : Hid _ := hj9
      have HQ9 : Hid _ := hq9
      clear hgd hys hj9 hq9
      have hlu := HQ.out.len
      have huj0 : us[j]? = some (us[j]'(by omega)) := by simp [hlu, hjX]
      generalize us[j]'(by omega) = y at huj0
      have huj : Hid _ := huj0
      clear hlu
      have hOj0 := HQ.out.each j y ys huj.out HXJ.out
      have cj0 : w.cell? ⟨R, j, none⟩ = some y := by rw [HQ.out.row.cellAt j (by omega)]; exact huj.out
      have fj : w.frozen? ⟨R, j, none⟩ = false := HQ.out.row.frozenAt j
      by_cases h0 : ys = []
      · subst h0
        obtain ⟨ya, yn, yc, rfl⟩ := own_sliceQ hOj0
        have hyn : yn = 0 := by
          rcases hOj0.2 with ⟨e, _⟩ | ⟨g9, c9, cur, e, _⟩
          · simp at e; exact e.2.1
          · simp at e; exact e.2.1
        subst hyn
        clear hOj0 huj0
        go_wp2
        go_roundw
        case rel => exact ⟨k + 1, by omega, by go_num, trivial, fun i hi => by
          by_cases hik : i < k
          · exact HN.out i hik
          · have : i = k := by omega
            rw [this, HGD.out]⟩
        case measure => simp [intOf]; omega
      · have hpos : 1 ≤ ys.length := List.length_pos_iff.2 h0
        obtain ⟨y0, yt, hye⟩ : ∃ y0 yt, ys = y0 :: yt := by cases ys with | nil => exact absurd rfl h0 | cons a l => exact ⟨a, l, rfl⟩
        have HSV : Hid (servR τ X = (q9, X.set j ys.tail, (j : Int), y0)) := by
          show servR τ X = _
          have hf := fst17_some hk8 (by rw [HGD.out]; exact h0) HN.out
          unfold servR
          rw [hf]
          have h1 := HGD.out
          have h2 := HJ9.out
          have h3 := HQ9.out
          rw [h2] at h1
          simp only [h2, h3, h1, hye, List.headD_cons]
        have HY0 : Hid (ys[0]? = some y0) := by show ys[0]? = some y0; rw [hye]; rfl
        obtain ⟨g, yc, rfl, hyc⟩ : ∃ g yc, y = .slice (some ⟨g, 0, none⟩) ys.length yc ∧ ys.length ≤ yc := by
          rcases hOj0.2 with ⟨_, h0⟩ | ⟨g9, c9, cur, e, _, _, hle9, _⟩
          · omega
          · exact ⟨g9, c9, e, hle9⟩
        have HOj : Hid (w.ownsRow base 2 1 (.slice (some ⟨g, 0, none⟩) ys.length yc) ys.length (ints ys)) := hOj0
        have cj := cj0
        have cg : w.cell? ⟨g, 0, none⟩ = some (.int .i64 y0) := by
          rw [HOj.out.cellAt 0 (by omega)]
          have := HY0.out
          simp [ints, this]
        have hyl : ((ys.length : Int) == 0) = false := by rw [beq_eq_false_iff_ne]; omega
        have hyl0 : (0 : Int) < (ys.length : Int) := by omega
        obtain ⟨to9, tm9, tc9, hrun9, htm, hto⟩ := tail_slice g ys.length yc hpos hyc
        have HRO : Hid (RowO w base (.slice (some ⟨g, to9, none⟩) tm9 tc9) (ints ys.tail)) := rowO_tail HOj.out hpos htm hto
        have HTL : Hid ((ints ys.tail).length = tm9 * 1) := by show (ints ys.tail).length = tm9 * 1; rw [ints_length, List.length_tail]; omega
        have htm6 : tm9 ≤ 5 := by omega
        have HTC : Hid (∀ W, Below w.heap.size w W → ∀ i u, (ints ys.tail)[i]? = some u → W.cell? ((⟨g, to9, none⟩ : Addr).add i) = some u) := fun W hW i u hu => by
          obtain ⟨a9, c9, e9, hc9⟩ := HRO.out.reads
          simp at e9
          obtain ⟨g8, o8, e8, h8⟩ := hc9 i u hu
          rw [← e9.1] at e8
          cases e8
          have : (⟨g, to9, none⟩ : Addr).add i = ⟨g, to9 + i, none⟩ := by unfold Addr.add; split <;> simp_all
          rw [this, hW.cell (World.block_lt_of_cell? w _ h8)]
          exact h8
        clear hOj0 huj0 cj0 htm hto hye h0
        go_wp2_with fail
        refine wp_region_late (S := fun w' => w'.cell? ⟨C, 1, none⟩ = some (.slice (some ⟨R, 0, none⟩) X.length uc) ∧ w'.cell? ⟨R, j, none⟩ = some (.slice (some ⟨g, 0, none⟩) ys.length yc)) (late := fun j => j == 16) (by kernel_rfl) ⟨d1, cj⟩ (fun hHeld => ?_)
        refine wpAnyG_take (i := 0) (oi := ?ois70) (v := .pointer (some ⟨C, 0, none⟩)) ?his70 (by kernel_rfl) (by kernel_rfl) (by kernel_rfl) (by kernel_rfl) ?hqs70 ?hys70 hHeld ?hrs70
        case his70 =>
          simp only [List.getElem?_toArray, List.getElem?_cons_succ, List.getElem?_cons_zero]
          rfl
        case hqs70 => exact fun _ _ _ h => h
        case hys70 => exact Or.inl ⟨by kernel_rfl, fun w hSw => by go_simp⟩
        try simp only [Act.put, List.setIfInBounds_toArray, List.set_cons_zero, List.set_cons_succ]
        refine wpAnyG_take (i := 1) (oi := ?ois71) (v := .pointer (some ⟨C, 0, none⟩)) ?his71 (by kernel_rfl) (by kernel_rfl) (by kernel_rfl) (by kernel_rfl) ?hqs71 ?hys71 hHeld ?hrs71
        case his71 =>
          simp only [List.getElem?_toArray, List.getElem?_cons_succ, List.getElem?_cons_zero]
          rfl
        case hqs71 => exact fun _ _ _ h => h
        case hys71 => exact Or.inl ⟨by kernel_rfl, fun w hSw => by go_simp⟩
        try simp only [Act.put, List.setIfInBounds_toArray, List.set_cons_zero, List.set_cons_succ]
        refine wpAnyG_take (i := 2) (oi := ?ois72) (v := .pointer (some ⟨C, 1, none⟩)) ?his72 (by kernel_rfl) (by kernel_rfl) (by kernel_rfl) (by kernel_rfl) ?hqs72 ?hys72 hHeld ?hrs72
        case his72 =>
          simp only [List.getElem?_toArray, List.getElem?_cons_succ, List.getElem?_cons_zero]
          rfl
        case hqs72 => exact fun _ _ _ h => h
        case hys72 => exact Or.inl ⟨by kernel_rfl, fun w hSw => by go_simp⟩
        try simp only [Act.put, List.setIfInBounds_toArray, List.set_cons_zero, List.set_cons_succ]
        refine wpAnyG_take (i := 3) (oi := ?ois73) (v := .slice (some ⟨R, 0, none⟩) X.length uc) ?his73 (by kernel_rfl) (by kernel_rfl) (by kernel_rfl) (by kernel_rfl) ?hqs73 ?hys73 hHeld ?hrs73
        case his73 =>
          simp only [List.getElem?_toArray, List.getElem?_cons_succ, List.getElem?_cons_zero]
          rfl
        case hqs73 => exact fun _ _ _ h => h
        case hys73 => exact Or.inl ⟨by kernel_rfl, fun w hSw => by obtain ⟨s0, s1⟩ := hSw; go_simp⟩
        try simp only [Act.put, List.setIfInBounds_toArray, List.set_cons_zero, List.set_cons_succ]
        refine wpAnyG_take (i := 4) (oi := ?ois74) (v := .int .i64 (j : Int)) ?his74 (by kernel_rfl) (by kernel_rfl) (by kernel_rfl) (by kernel_rfl) ?hqs74 ?hys74 hHeld ?hrs74
        case his74 =>
          simp only [List.getElem?_toArray, List.getElem?_cons_succ, List.getElem?_cons_zero]
          rfl
        case hqs74 => exact fun _ _ _ h => h
        case hys74 => exact Or.inl ⟨by kernel_rfl, fun w hSw => by go_simp⟩
        try simp only [Act.put, List.setIfInBounds_toArray, List.set_cons_zero, List.set_cons_succ]
        refine wpAnyG_take (i := 6) (oi := ?ois76) (v := .pointer (some ⟨C, 0, none⟩)) ?his76 (by kernel_rfl) (by kernel_rfl) (by kernel_rfl) (by kernel_rfl) ?hqs76 ?hys76 hHeld ?hrs76
        case his76 =>
          simp only [List.getElem?_toArray, List.getElem?_cons_succ, List.getElem?_cons_zero]
          rfl
        case hqs76 => exact fun _ _ _ h => h
        case hys76 => exact Or.inl ⟨by kernel_rfl, fun w hSw => by go_simp⟩
        try simp only [Act.put, List.setIfInBounds_toArray, List.set_cons_zero, List.set_cons_succ]
        refine wpAnyG_take (i := 7) (oi := ?ois77) (v := .pointer (some ⟨C, 0, none⟩)) ?his77 (by kernel_rfl) (by kernel_rfl) (by kernel_rfl) (by kernel_rfl) ?hqs77 ?hys77 hHeld ?hrs77
        case his77 =>
          simp only [List.getElem?_toArray, List.getElem?_cons_succ, List.getElem?_cons_zero]
          rfl
        case hqs77 => exact fun _ _ _ h => h
        case hys77 => exact Or.inl ⟨by kernel_rfl, fun w hSw => by go_simp⟩
        try simp only [Act.put, List.setIfInBounds_toArray, List.set_cons_zero, List.set_cons_succ]
        refine wpAnyG_take (i := 8) (oi := ?ois78) (v := .pointer (some ⟨C, 1, none⟩)) ?his78 (by kernel_rfl) (by kernel_rfl) (by kernel_rfl) (by kernel_rfl) ?hqs78 ?hys78 hHeld ?hrs78
        case his78 =>
          simp only [List.getElem?_toArray, List.getElem?_cons_succ, List.getElem?_cons_zero]
          rfl
        case hqs78 => exact fun _ _ _ h => h
        case hys78 => exact Or.inl ⟨by kernel_rfl, fun w hSw => by go_simp⟩
        try simp only [Act.put, List.setIfInBounds_toArray, List.set_cons_zero, List.set_cons_succ]
        refine wpAnyG_take (i := 9) (oi := ?ois79) (v := .slice (some ⟨R, 0, none⟩) X.length uc) ?his79 (by kernel_rfl) (by kernel_rfl) (by kernel_rfl) (by kernel_rfl) ?hqs79 ?hys79 hHeld ?hrs79
        case his79 =>
          simp only [List.getElem?_toArray, List.getElem?_cons_succ, List.getElem?_cons_zero]
          rfl
        case hqs79 => exact fun _ _ _ h => h
        case hys79 => exact Or.inl ⟨by kernel_rfl, fun w hSw => by obtain ⟨s0, s1⟩ := hSw; go_simp⟩
        try simp only [Act.put, List.setIfInBounds_toArray, List.set_cons_zero, List.set_cons_succ]
        refine wpAnyG_take (i := 10) (oi := ?ois710) (v := .int .i64 (j : Int)) ?his710 (by kernel_rfl) (by kernel_rfl) (by kernel_rfl) (by kernel_rfl) ?hqs710 ?hys710 hHeld ?hrs710
        case his710 =>
          simp only [List.getElem?_toArray, List.getElem?_cons_succ, List.getElem?_cons_zero]
          rfl
        case hqs710 => exact fun _ _ _ h => h
        case hys710 => exact Or.inl ⟨by kernel_rfl, fun w hSw => by go_simp⟩
        try simp only [Act.put, List.setIfInBounds_toArray, List.set_cons_zero, List.set_cons_succ]
        refine wpAnyG_take (i := 11) (oi := ?ois711) (v := .pointer (some ⟨R, j, none⟩)) ?his711 (by kernel_rfl) (by kernel_rfl) (by kernel_rfl) (by kernel_rfl) ?hqs711 ?hys711 hHeld ?hrs711
        case his711 =>
          simp only [List.getElem?_toArray, List.getElem?_cons_succ, List.getElem?_cons_zero]
          rfl
        case hqs711 => exact fun _ _ _ h => h
        case hys711 => exact Or.inl ⟨by kernel_rfl, fun w hSw => by go_simp⟩
        try simp only [Act.put, List.setIfInBounds_toArray, List.set_cons_zero, List.set_cons_succ]
        refine wpAnyG_take (i := 12) (oi := ?ois712) (v := .slice (some ⟨g, 0, none⟩) ys.length yc) ?his712 (by kernel_rfl) (by kernel_rfl) (by kernel_rfl) (by kernel_rfl) ?hqs712 ?hys712 hHeld ?hrs712
        case his712 =>
          simp only [List.getElem?_toArray, List.getElem?_cons_succ, List.getElem?_cons_zero]
          rfl
        case hqs712 => exact fun _ _ _ h => h
        case hys712 => exact Or.inl ⟨by kernel_rfl, fun w hSw => by obtain ⟨s0, s1⟩ := hSw; go_simp⟩
        try simp only [Act.put, List.setIfInBounds_toArray, List.set_cons_zero, List.set_cons_succ]
        refine wpAnyG_take (i := 13) (oi := ?ois713) (v := .slice (some ⟨g, to9, none⟩) tm9 tc9) ?his713 (by kernel_rfl) (by kernel_rfl) (by kernel_rfl) (by kernel_rfl) ?hqs713 ?hys713 hHeld ?hrs713
        case his713 =>
          simp only [List.getElem?_toArray, List.getElem?_cons_succ, List.getElem?_cons_zero]
          rfl
        case hqs713 => exact fun _ _ _ h => h
        case hys713 => exact Or.inl ⟨by kernel_rfl, fun w hSw => by go_simp⟩
        try simp only [Act.put, List.setIfInBounds_toArray, List.set_cons_zero, List.set_cons_succ]
        refine wpAnyG_ready (rs := [5]) (by kernel_rfl) (by simp) ?_
        refine (AllReadyG.cons (o := ?oos75) ?hos75 (fun K hK => ?hks75) AllReadyG.nil)
        case hos75 =>
          simp only [List.getElem?_toArray, List.getElem?_cons_succ, List.getElem?_cons_zero]
          rfl
        case hks75 =>
          go_simp
          try go_wp2_with fail
          have Ba : Hid (Below w.heap.size w (w.drew.alloc (.cells #[] 2))) := Below.alloc (Below.drew (Below.refl _ _)) (Nat.le_refl _) _
          have Va : Hid ((w.drew.alloc (.cells #[] 2)).ownsRow w.heap.size 2 1 (.slice (some ⟨w.heap.size, 0, none⟩) 0 0) 0 []) := World.ownsRow_made w.drew #[] 0 (Nat.le_refl _) (by decide) (by simp)
          refine hK.out _ _ (Or.inr ⟨(two_cellsQ (box_stepQ HB.out Ba.out)).2.1, (Ba.out.cell (World.block_lt_of_cell? w _ cj)).trans cj⟩) (fun hHeld => ?_)
          replace hHeld := hHeld.resolve_left (by decide)
          clear hK K
          try simp only [Act.put, List.setIfInBounds_toArray, List.set_cons_zero, List.set_cons_succ]
          refine wpAnyG_ready (rs := [14]) (by kernel_rfl) (by simp) ?_
          refine (AllReadyG.cons (o := ?oos714) ?hos714 (fun K hK => ?hks714) AllReadyG.nil)
          case hos714 =>
            simp only [List.getElem?_toArray, List.getElem?_cons_succ, List.getElem?_cons_zero]
            rfl
          case hks714 =>
            refine step_append_anyQ _ rfl (.tmp 41) (.tmp 49) 33 rfl w.heap.size 2 j0 (.int .i64 0) 1 8 Try.underlying33 hj hy0 hy1 hy2 rfl (by decide) (.slice (some ⟨w.heap.size, 0, none⟩) 0 0) 0 [] rfl Va.out (some ⟨g, to9, none⟩) tm9 tc9 (ints ys.tail) rfl HTL.out (fun _ => ⟨_, rfl, HTC.out _ Ba.out⟩) (ints_oneCell ys.tail) (by unfold maxLen; omega) (by omega) Ba.out.size ?_
            intro v7 w7 own7 grow7 fresh7
            rw [Nat.zero_add, List.nil_append] at own7
            have B7 : Hid (Below w.heap.size w w7) := Ba.out.grown grow7 Ba.out.size (fun k hk => by simp [Value.ownBlock] at hk; omega)
            obtain ⟨va, vn, vc, rfl⟩ := own_sliceQ own7
            have V7 : Hid (w7.ownsRow w.heap.size 2 1 (.slice va vn vc) ys.tail.length (ints ys.tail)) := by show w7.ownsRow w.heap.size 2 1 (.slice va vn vc) ys.tail.length (ints ys.tail); have h9 := HTL.out; rw [ints_length, Nat.mul_one] at h9; rw [h9]; exact own7
            have cR7 : w7.cell? ⟨R, j, none⟩ = some (.slice (some ⟨g, 0, none⟩) ys.length yc) := (B7.out.cell (World.block_lt_of_cell? w _ cj)).trans cj
            have fR7 : w7.frozen? ⟨R, j, none⟩ = false := (B7.out.frozen (World.block_lt_of_cell? w _ cj)).trans fj
            clear own7 grow7 fresh7
            refine hK.out _ _ (Or.inr ⟨(two_cellsQ (box_stepQ HB.out B7.out)).2.1, (B7.out.cell (World.block_lt_of_cell? w _ cj)).trans cj⟩) (fun hHeld => ?_)
            replace hHeld := hHeld.resolve_left (by decide)
            clear hK K
            try simp only [Act.put, List.setIfInBounds_toArray, List.set_cons_zero, List.set_cons_succ]
            refine wpAnyG_take (i := 15) (oi := ?ois715) (v := .pointer (some ⟨R, j, none⟩)) ?his715 (by kernel_rfl) (by kernel_rfl) (by kernel_rfl) (by kernel_rfl) ?hqs715 ?hys715 hHeld ?hrs715
            case his715 =>
              simp only [List.getElem?_toArray, List.getElem?_cons_succ, List.getElem?_cons_zero]
              rfl
            case hqs715 => exact fun _ _ _ h => h
            case hys715 => exact Or.inl ⟨by kernel_rfl, fun w hSw => by go_simp⟩
            try simp only [Act.put, List.setIfInBounds_toArray, List.set_cons_zero, List.set_cons_succ]
            refine wpAnyG_ready (rs := [16]) (by kernel_rfl) (by simp) ?_
            refine (AllReadyG.cons (o := ?oos716) ?hos716 (fun K hK => ?hks716) AllReadyG.nil)
            case hos716 =>
              simp only [List.getElem?_toArray, List.getElem?_cons_succ, List.getElem?_cons_zero]
              rfl
            case hks716 =>
              go_simp
              try go_wp2_with fail
              refine hK.out _ _ (Or.inl rfl) (fun _ => ?_)
              clear hK K
              try simp only [Act.put, List.setIfInBounds_toArray, List.set_cons_zero, List.set_cons_succ]
              refine wpAnyG_done (by kernel_rfl) ?_ _
              have O8 : Hid _ := (HQ.out.below B7.out).put (j := j) hjX (own_mono V7.out (show base ≤ w.heap.size by have := (HQ.out.row.lt R rfl).2; have := (HQ.out.row.lt R rfl).1; omega))
              have HP8 : Hid (ApartSS (us.set j (.slice va vn vc))) := apartSS_put HAP.out (fun i x b hi hx hxb hub => by have h1 := (V7.out.lt b hub).1; have h2 := (HQ.out.ltI (List.mem_of_getElem? hx) hxb).2; omega)
              have HB8 : Hid ((w7.setCell ⟨R, j, none⟩ (.slice va vn vc)).heap[C]? = some (.cells #[.int .i64 (τ : Int), .slice (some ⟨R, 0, none⟩) X.length uc] 26 (0, 0))) := (Below.heap_setCell w7 ⟨R, j, none⟩ (.slice va vn vc) C (by simpa using hRC)).trans (box_stepQ HB.out B7.out)
              have HL8 : Hid (Below base w (w7.setCell ⟨R, j, none⟩ (.slice va vn vc))) := (HL.out.trans (B7.out.mono (by have := (HQ.out.row.lt R rfl).2; have := (HQ.out.row.lt R rfl).1; omega))).setCell (by simpa using hRlo) _
              clear HB HQ HAP HL B7 V7 cR7 fR7 Ba Va d0 d1 cj fj
              generalize w7.setCell ⟨R, j, none⟩ (.slice va vn vc) = w8 at *
              obtain ⟨d0, d1, d2, d3⟩ := two_cellsQ HB8.out
              have HB9 : Hid ((w8.setCell ⟨C, 0, none⟩ (.int .i64 (q9 : Int))).heap[C]? = some (.cells #[.int .i64 (q9 : Int), .slice (some ⟨R, 0, none⟩) X.length uc] 26 (0, 0))) := by
                show (w8.setCell ⟨C, 0, none⟩ (.int .i64 (q9 : Int))).heap[C]? = _
                have h9 := heap_setCell_same w8 C 0 _ _ (.int .i64 (q9 : Int)) HB8.out
                simpa using h9
              have HO9 : Hid (OwnSS (w8.setCell ⟨C, 0, none⟩ (.int .i64 (q9 : Int))) base (.slice (some ⟨R, 0, none⟩) X.length uc) (us.set j (.slice va vn vc)) (X.set j ys.tail)) := ownSS_box O8.out HB8.out
              have HL9 : Hid (Below base w (w8.setCell ⟨C, 0, none⟩ (.int .i64 (q9 : Int)))) := HL8.out.setCell (by simpa using hClo) _
              clear HB8 HL8 O8
              go_wp2
              refine bodyPost_ret (v := .tuple #[.int .i64 (j : Int), .int .i64 y0]) (by simp [results, Try.results25, go_sem]) rfl ?_
              exact ⟨q9, _, _, (j : Int), y0, rfl, HB9.out, HO9.out, HP8.out, HL9.out, HSV.out⟩
    · have hk9 : k = 8 := by omega
      have hk8' : ¬ (k : Int) < 8 := by omega
      have HSV : Hid (servR τ X = (τ, X, -1, 0)) := by
        show servR τ X = _
        unfold servR
        rw [fst17_none (fun i hi => HN.out i (by omega))]
      clear hk9
      go_wp2
      refine bodyPost_ret (v := .tuple #[.int .i64 (-1), .int .i64 0]) (by simp [results, Try.results25, go_sem]) rfl ?_
      exact ⟨τ, us, X, -1, 0, rfl, HB.out, HQ.out, HAP.out, HL.out, HSV.out⟩

theorem specServed (t : Int) (X : List (List Int)) (v : Value) (w : World) (hl : X.length ≤ maxLen) (hx : ∀ x ∈ X, x.length ≤ maxLen) (hv : ReadsSS w v X) :
    Calls Try.prog 8 #[.agg #[.int .i64 t, v]] w fun e w' => ∃ u us, e = .returned (.tuple #[.agg #[.int .i64 (servA t X).1, u], .int .i64 (servA t X).2.2.1, .int .i64 (servA t X).2.2.2]) ∧ OwnQ w' w.heap.size u us (servA t X).2.1 ∧ ApartSS us ∧ Below w.heap.size w w' := by
  obtain ⟨j0, hj, hy0, hy1, hy2⟩ := info_parts infoInt
  obtain ⟨T9, Y9, R9, M9, hA9⟩ : ∃ a b c d, servA t X = (a, b, c, d) := ⟨_, _, _, _, rfl⟩
  rw [hA9]
  have HA9 : Hid _ := hA9
  clear hA9
  simp only
  obtain ⟨ao, cap, hvv, hc⟩ := id hv
  subst hvv
  obtain ⟨W0, hW0⟩ : ∃ W0, (w.alloc (.cells #[.int .i64 t, .slice ao X.length cap] 26)).alloc (.cells #[.int .i64 0, .slice none 0 0] 26) = W0 := ⟨_, rfl⟩
  have L0 : Below w.heap.size w W0 := by rw [← hW0]; go_grown
  have hs0 : W0.heap.size = w.heap.size + 1 + 1 := by rw [← hW0]; simp
  have hA0 : W0.heap[w.heap.size]? = some (.cells #[.int .i64 t, .slice ao X.length cap] 26 (0, 0)) := by
    rw [← hW0, old_block (by simp)]; exact heap_alloc_new w _
  have hR0 : W0.heap[w.heap.size + 1]? = some (.cells #[.int .i64 0, .slice none 0 0] 26 (0, 0)) := by
    rw [← hW0]
    have := heap_alloc_new (w.alloc (.cells #[.int .i64 t, .slice ao X.length cap] 26)) (.cells #[.int .i64 0, .slice none 0 0] 26)
    simpa using this
  obtain ⟨c0, c1, _, _⟩ := two_cellsQ hA0
  have hqq := specQueueOk t X (.slice ao X.length cap) W0 hl hx (readsSS_below hv L0)
  have HS0 : Hid _ := hs0
  clear hs0
  go_enter Try.func8, Try.ntmps8
  go_wp2_with fail
  go_at_call 11
  refine hqq.mono ?_
  rintro e w1 ⟨rfl, b1⟩
  have s1 := b1.size
  have HA1 : Hid _ := (b1.block _ (by have := HS0.out; omega)).trans hA0
  have HR1 : Hid _ := (b1.block _ (by have := HS0.out; omega)).trans hR0
  have HL1 : Hid (Below w.heap.size w w1) := L0.trans (b1.mono L0.size)
  have HS1 : Hid (w.heap.size + 1 < w1.heap.size) := by show w.heap.size + 1 < w1.heap.size; have := HS0.out; omega
  clear hqq b1 s1 L0 hA0 hR0 c0 c1 hW0 HS0
  cases hq : queB t X with
  | false =>
    obtain ⟨rfl, rfl, rfl, rfl⟩ : 0 = T9 ∧ [] = Y9 ∧ -1 = R9 ∧ 0 = M9 := by
      have hca : servA t X = (0, [], -1, 0) := by unfold servA; rw [hq]; rfl
      have h9 := HA9.out
      rw [hca] at h9
      simpa using h9
    clear HA9
    obtain ⟨r0, r1, x0, x1⟩ := two_cellsQ HR1.out
    have R9 := two_setQ HR1.out (.int .i64 0) (.slice none 0 0)
    obtain ⟨y0, y1, _, _⟩ := two_cellsQ R9
    go_wp2
    refine bodyPost_ret (v := .tuple #[.agg #[.int .i64 0, .slice none 0 0], .int .i64 (-1), .int .i64 0]) (by simp [results, Try.results8, go_sem, y0, y1]) rfl ?_
    exact ⟨_, [], rfl, ⟨⟨by simp, .inl ⟨rfl, rfl⟩⟩, fun j u xs hj _ => by simp at hj⟩, apartSS_nil, (HL1.out.setCell (by simp) _).setCell (by simp) _⟩
  | true =>
    obtain ⟨ht0, ht7, h8, h5, hnn⟩ := queB_parts hq
    have h8a : X.length ≤ 8 := by omega
    have h8b : 8 ≤ X.length := by omega
    clear h8
    have hcp := l17Copy t X (.slice ao X.length cap) w1 (by omega) (fun x hx' => by have := h5 x hx'; omega) (readsSS_below hv HL1.out)
    obtain ⟨a0, a1, -, -⟩ := two_cellsQ HA1.out
    go_wp2_with fail
    go_at_call 24
    refine hcp.mono ?_
    rintro e w2 ⟨u, us, rfl, ou, ap, b2⟩
    obtain ⟨ua, um, uc, rfl⟩ := own_sliceQ ou.row
    have s2 := b2.size
    obtain ⟨w3, hw3⟩ : ∃ w3, w2.alloc (.cells #[.int .i64 t, .slice ua um uc] 26) = w3 := ⟨_, rfl⟩
    have b3 : Below w2.heap.size w2 w3 := by rw [← hw3]; go_grown
    obtain ⟨C, hC⟩ : ∃ C, w2.heap.size = C := ⟨_, rfl⟩
    have HB : Hid (w3.heap[C]? = some (.cells #[.int .i64 t, .slice ua um uc] 26 (0, 0))) := by
      show w3.heap[C]? = _
      rw [← hw3, ← hC]; exact heap_alloc_new w2 _
    have HQ : Hid (OwnSS w3 w1.heap.size (.slice ua um uc) us X) := ou.below b3
    have HAP : Hid _ := ap
    have HA3 : Hid _ := box_stepQ (box_stepQ HA1.out b2) b3
    have HR3 : Hid _ := box_stepQ (box_stepQ HR1.out b2) b3
    have HL3 : Hid (Below w.heap.size w w3) := low_stepQ (low_stepQ HL1.out b2) b3
    have HSC : Hid (C < w3.heap.size ∧ w1.heap.size ≤ C) := ⟨(Array.getElem?_eq_some_iff.1 HB.out).1, by rw [← hC]; exact s2⟩
    have HS2 : Hid (w.heap.size + 1 < w1.heap.size) := HS1.out
    have HSZ : Hid (w1.heap.size ≤ w3.heap.size) := Nat.le_trans s2 b3.size
    clear hcp ou ap b2 b3 s2 HS1 HA1 HR1 HL1 a0 a1
    obtain ⟨τ, rfl⟩ : ∃ τ : Nat, t = (τ : Int) := ⟨t.toNat, by omega⟩
    have hτ : τ ≤ 7 := by omega
    obtain ⟨R, rc, hRe⟩ : ∃ R rc, (Value.slice ua um uc) = .slice (some ⟨R, 0, none⟩) X.length rc := by
      rcases HQ.out.row.2 with ⟨_, h0⟩ | ⟨g9, c9, cur, e, _⟩
      · omega
      · exact ⟨g9, c9, e⟩
    cases hRe
    have hls := l17Served τ X C R uc w1.heap.size us w3 hτ (by omega) h5 HB.out HQ.out HAP.out HSC.out.2
    go_wp2_with fail
    go_at_call 25
    refine hls.mono ?_
    rintro e w4 ⟨q9, us4, Y4, r4, m4, rfl, hB4, hQ4, hA4, hL4, hSV⟩
    obtain ⟨rfl, rfl, rfl, rfl⟩ : (q9 : Int) = T9 ∧ Y4 = Y9 ∧ r4 = R9 ∧ m4 = M9 := by
      have h9 := HA9.out
      rw [servA_R hq, hSV] at h9
      simpa using h9
    have HS4 : Hid (w.heap.size + 1 < w1.heap.size) := HS2.out
    have HR4 : Hid (w4.heap[w.heap.size + 1]? = some (.cells #[.int .i64 0, .slice none 0 0] 26 (0, 0))) := (hL4.block _ HS2.out).trans HR3.out
    have HL4 : Hid (Below w.heap.size w w4) := HL3.out.trans (hL4.mono (by have := HS2.out; omega))
    have HQ4 : Hid _ := hQ4
    have HA4 : Hid _ := hA4
    have HB4 : Hid _ := hB4
    clear hls hw3 hC hL4 hQ4 hA4 hB4 hSV HA9 HB HQ HAP HR3 HL3 HA3 HSC HSZ
    obtain ⟨d0, d1, -, -⟩ := two_cellsQ HB4.out
    obtain ⟨r0, r1, x0, x1⟩ := two_cellsQ HR4.out
    have R9 := two_setQ HR4.out (.int .i64 (q9 : Int)) (.slice (some ⟨R, 0, none⟩) X.length uc)
    obtain ⟨y0, y1, _, _⟩ := two_cellsQ R9
    go_wp2
    refine bodyPost_ret (v := .tuple #[.agg #[.int .i64 (q9 : Int), .slice (some ⟨R, 0, none⟩) X.length uc], .int .i64 r4, .int .i64 m4]) (by simp [results, Try.results8, go_sem, y0, y1]) rfl ?_
    exact ⟨_, us4, rfl, OwnQ.of_own (((HQ4.out.set (by have := HS2.out; omega)).set (by have := HS2.out; omega)).mono (base' := w.heap.size) (by have := HS2.out; omega)), HA4.out, (HL4.out.setCell (by simp) _).setCell (by simp) _⟩

end Go.Proofs.Ytjlpjjddnkceoaa
