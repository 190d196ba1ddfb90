/-
  Chapter 10, the specification's side: Tables, Effect, Inner, Holds.
-/
import Derived.Test.YtgandekciocalaaSpecTables
import Derived.Test.YtgandekciocalaaG36CallsFn
namespace Go.Proofs.Ytgandekciocalaa
open Go.RowKit
set_option linter.unusedVariables false
set_option linter.unusedSimpArgs false
set_option maxHeartbeats 4000000
set_option maxRecDepth 20000

theorem empty_own {w w' : World} (h : Below w.heap.size w w') : OwnSS (w'.alloc (.cells #[] 36)) w.heap.size (.slice (some ⟨w'.heap.size, 0, none⟩) 0 0) [] [] := (made0S w').mono h.size

theorem specTables (ps : List (List Stm)) (c : Int) (A : List (List Int)) (hA : TabA ps c A) (v : Value) (w : World) (hl : ps.length ≤ maxLen) (hp : ∀ p ∈ ps, p.length ≤ maxLen) (hv : ReadsP w v ps) :
    Calls Try.prog 11 #[.agg #[v], .int .i64 c] w fun e w' => ∃ u us, e = .returned u ∧ OwnSS w' w.heap.size u us A ∧ Below w.heap.size w w' := by
  have hb0 : Below w.heap.size w (w.alloc (.cells #[v] 26)) := by go_grown
  have hpo := specProgramOk ps v _ hl hp (readsP_below hv hb0)
  have H0 := heap_alloc_new w (.cells #[v] 26)
  have s0 : (w.alloc (.cells #[v] 26)).heap.size = w.heap.size + 1 := by simp
  have hcl := l7Client c
  cases h1 : programOk ps
  · have e : okB ps c = false := by simp [okB, h1]
    rw [hA.2 e]
    rw [h1] at hpo
    go_enter Try.func11, Try.ntmps11
    go_wp2_with (first
      | (go_at_call 14; refine hpo.mono ?_; rintro e w2 ⟨rfl, b2⟩))
    go_ret
    have L2 := hb0.trans (b2.mono hb0.size)
    exact ⟨_, [], rfl, empty_own L2, L2.alloc L2.size _⟩
  · rw [h1] at hpo
    by_cases h2 : c = 1 ∨ c = 2
    · have e : okB ps c = true := by simp [okB, h1, h2]
      obtain ⟨hAl, hAT⟩ := hA.1 e
      obtain ⟨_, hc, hcp, h4⟩ := okB_parts e
      rw [decide_eq_true h2] at hcl
      go_enter Try.func11, Try.ntmps11
      go_wp2_with fail
      go_at_call 14
      refine hpo.mono ?_
      rintro e w2 ⟨rfl, b2⟩
      have L2 := hb0.trans (b2.mono hb0.size)
      obtain ⟨c2, f2⟩ := one_cell ((b2.block w.heap.size (by omega)).trans H0)
      have htb := l10Tables ps c v w2 hc hcp h4 (readsP_below hv L2)
      go_wp2_with (first
        | (go_at_call 39; refine (hcl _).mono ?_; rintro e w3 ⟨rfl, rfl⟩)
        | (go_at_call 40; refine htb.mono ?_; rintro e w4 ⟨T, a4, u4, rfl, hTl, hT, o4, b4⟩))
      go_ret
      obtain rfl := tables_eq hT hAT hTl hAl
      exact ⟨a4, u4, rfl, o4.mono L2.size, L2.trans (b4.mono L2.size)⟩
    · have e : okB ps c = false := by simp [okB, h2]
      rw [hA.2 e]
      rw [decide_eq_false h2] at hcl
      go_enter Try.func11, Try.ntmps11
      go_wp2_with (first
        | (go_at_call 14; refine hpo.mono ?_; rintro e w2 ⟨rfl, b2⟩)
        | (go_at_call 39; refine (hcl _).mono ?_; rintro e w3 ⟨rfl, rfl⟩))
      go_ret
      have L2 := hb0.trans (b2.mono hb0.size)
      exact ⟨_, [], rfl, empty_own L2, L2.alloc L2.size _⟩

theorem inB10_eq (ps : List (List Stm)) (c i : Int) : inB10 ps c i = (hasB ps i && decide (c = 1 ∨ c = 2)) := by
  unfold inB10 okB hasB wiB
  cases programOk ps <;> cases decide (c = 1 ∨ c = 2) <;> simp

theorem specInner (ps : List (List Stm)) (c i : Int) (A : List (List Int)) (hA : InnA ps c i A) (v : Value) (w : World) (hl : ps.length ≤ maxLen) (hp : ∀ p ∈ ps, p.length ≤ maxLen) (hv : ReadsP w v ps) :
    Calls Try.prog 19 #[.agg #[v], .int .i64 c, .int .i64 i] w fun e w' => ∃ u us, e = .returned u ∧ OwnSS w' w.heap.size u us A ∧ Below w.heap.size w w' := by
  have hb0 : Below w.heap.size w (w.alloc (.cells #[v] 26)) := by go_grown
  have H0 := heap_alloc_new w (.cells #[v] 26)
  have s0 : (w.alloc (.cells #[v] 26)).heap.size = w.heap.size + 1 := by simp
  have hcl := l7Client c
  have h3 := l3In ps i v _ hl hp (readsP_below hv hb0)
  have hA' := hA
  unfold InnA at hA'
  rw [inB10_eq] at hA'
  cases h1 : hasB ps i
  · rw [h1] at h3
    rw [hA'.2 (by rw [h1]; rfl)]
    go_enter Try.func19, Try.ntmps19
    go_wp2_with (first
      | (go_at_call 51; refine h3.mono ?_; rintro e w2 ⟨rfl, b2⟩))
    go_ret
    have L2 := hb0.trans (b2.mono hb0.size)
    exact ⟨_, [], rfl, empty_own L2, L2.alloc L2.size _⟩
  · rw [h1] at h3
    by_cases h2 : c = 1 ∨ c = 2
    · obtain ⟨T0, hi, hT0l, hT0, hAl, hAI⟩ := hA'.1 (by simp [h1, h2])
      obtain ⟨e, j, hij, hj⟩ := inB10_parts (ps := ps) (c := c) (i := i) (by rw [inB10_eq]; simp [h1, h2])
      obtain ⟨_, hc, hcp, h4⟩ := okB_parts e
      subst hij
      simp only [Int.toNat_natCast] at hAl hAI
      rw [decide_eq_true h2] at hcl
      obtain ⟨ao, cap, rfl, hcell⟩ := id hv
      have hj' : (j : Int) < (ps.length : Int) := by omega
      go_enter Try.func19, Try.ntmps19
      go_wp2_with fail
      go_at_call 51
      refine h3.mono ?_
      rintro e w2 ⟨rfl, b2⟩
      have L2 := hb0.trans (b2.mono hb0.size)
      obtain ⟨c2, f2⟩ := one_cell ((b2.block w.heap.size (by omega)).trans H0)
      have zp : w.heap.size < w2.heap.size := by have := b2.size; omega
      obtain ⟨gp, op, up, rfl, cp, hup⟩ := readsP_at (readsP_below hv L2) hj
      have zg := World.block_lt_of_cell? w2 _ cp
      have htb := fun W (hW : Below w2.heap.size w2 W) => l10Tables ps c _ W hc hcp h4 (readsP_below (readsP_below hv L2) hW)
      clear h3 hcell H0 h1
      go_wp2_with (first
        | (go_at_call 39; refine (hcl _).mono ?_; rintro e w3 ⟨rfl, rfl⟩))
      --HELD i
      refine wp_region_held_drew (S := (fun w' => w'.cell? ⟨w.heap.size, 0, none⟩ = some (.slice (some ⟨gp, op, none⟩) ps.length cap) ∧ w'.cell? ⟨gp, op + j, none⟩ = some up)) (by kernel_rfl) ⟨c2, cp⟩ (fun hHeld => ?_)
      refine wpAnyH_take (i := 0) (oi := ?oii0) (v := .pointer (some ⟨w.heap.size, 0, none⟩)) ?hii0 (by kernel_rfl) (by kernel_rfl) (by kernel_rfl) ?hqi0 ?hyi0 hHeld ?hri0
      case hii0 =>
        simp only [List.getElem?_toArray, List.getElem?_cons_succ, List.getElem?_cons_zero]
        rfl
      case hqi0 => exact fun _ _ _ h => h
      case hyi0 => exact Or.inl ⟨by kernel_rfl, fun w hSw => by go_simp⟩
      try simp only [Act.put, List.setIfInBounds_toArray, List.set_cons_zero, List.set_cons_succ]
      refine wpAnyH_take (i := 1) (oi := ?oii1) (v := .slice (some ⟨gp, op, none⟩) ps.length cap) ?hii1 (by kernel_rfl) (by kernel_rfl) (by kernel_rfl) ?hqi1 ?hyi1 hHeld ?hri1
      case hii1 =>
        simp only [List.getElem?_toArray, List.getElem?_cons_succ, List.getElem?_cons_zero]
        rfl
      case hqi1 => exact fun _ _ _ h => h
      case hyi1 => exact Or.inl ⟨by kernel_rfl, fun w hSw => by obtain ⟨s0, s1⟩ := hSw; go_simp⟩
      try simp only [Act.put, List.setIfInBounds_toArray, List.set_cons_zero, List.set_cons_succ]
      refine wpAnyH_take (i := 2) (oi := ?oii2) (v := .int .i64 (j : Int)) ?hii2 (by kernel_rfl) (by kernel_rfl) (by kernel_rfl) ?hqi2 ?hyi2 hHeld ?hri2
      case hii2 =>
        simp only [List.getElem?_toArray, List.getElem?_cons_succ, List.getElem?_cons_zero]
        rfl
      case hqi2 => exact fun _ _ _ h => h
      case hyi2 => exact Or.inl ⟨by kernel_rfl, fun w hSw => by go_simp⟩
      try simp only [Act.put, List.setIfInBounds_toArray, List.set_cons_zero, List.set_cons_succ]
      refine wpAnyH_take (i := 3) (oi := ?oii3) (v := .pointer (some ⟨gp, op + j, none⟩)) ?hii3 (by kernel_rfl) (by kernel_rfl) (by kernel_rfl) ?hqi3 ?hyi3 hHeld ?hri3
      case hii3 =>
        simp only [List.getElem?_toArray, List.getElem?_cons_succ, List.getElem?_cons_zero]
        rfl
      case hqi3 => exact fun _ _ _ h => h
      case hyi3 => exact Or.inl ⟨by kernel_rfl, fun w hSw => by go_simp⟩
      try simp only [Act.put, List.setIfInBounds_toArray, List.set_cons_zero, List.set_cons_succ]
      refine wpAnyH_take (i := 4) (oi := ?oii4) (v := .agg #[up]) ?hii4 (by kernel_rfl) (by kernel_rfl) (by kernel_rfl) ?hqi4 ?hyi4 hHeld ?hri4
      case hii4 =>
        simp only [List.getElem?_toArray, List.getElem?_cons_succ, List.getElem?_cons_zero]
        rfl
      case hqi4 => exact fun _ _ _ h => h
      case hyi4 => exact Or.inl ⟨by kernel_rfl, fun w hSw => by obtain ⟨s0, s1⟩ := hSw; go_simp⟩
      try simp only [Act.put, List.setIfInBounds_toArray, List.set_cons_zero, List.set_cons_succ]
      refine wpAnyH_take (i := 5) (oi := ?oii5) (v := .int .i64 c) ?hii5 (by kernel_rfl) (by kernel_rfl) (by kernel_rfl) ?hqi5 ?hyi5 hHeld ?hri5
      case hii5 =>
        simp only [List.getElem?_toArray, List.getElem?_cons_succ, List.getElem?_cons_zero]
        rfl
      case hqi5 => exact fun _ _ _ h => h
      case hyi5 => exact Or.inl ⟨by kernel_rfl, fun w hSw => by go_simp⟩
      try simp only [Act.put, List.setIfInBounds_toArray, List.set_cons_zero, List.set_cons_succ]
      refine wpAnyH_take (i := 6) (oi := ?oii6) (v := .agg #[.slice (some ⟨gp, op, none⟩) ps.length cap]) ?hii6 (by kernel_rfl) (by kernel_rfl) (by kernel_rfl) ?hqi6 ?hyi6 hHeld ?hri6
      case hii6 =>
        simp only [List.getElem?_toArray, List.getElem?_cons_succ, List.getElem?_cons_zero]
        rfl
      case hqi6 => exact fun _ _ _ h => h
      case hyi6 => exact Or.inl ⟨by kernel_rfl, fun w hSw => by obtain ⟨s0, s1⟩ := hSw; go_simp⟩
      try simp only [Act.put, List.setIfInBounds_toArray, List.set_cons_zero, List.set_cons_succ]
      refine wpAnyH_take (i := 7) (oi := ?oii7) (v := .int .i64 c) ?hii7 (by kernel_rfl) (by kernel_rfl) (by kernel_rfl) ?hqi7 ?hyi7 hHeld ?hri7
      case hii7 =>
        simp only [List.getElem?_toArray, List.getElem?_cons_succ, List.getElem?_cons_zero]
        rfl
      case hqi7 => exact fun _ _ _ h => h
      case hyi7 => exact Or.inl ⟨by kernel_rfl, fun w hSw => by go_simp⟩
      try simp only [Act.put, List.setIfInBounds_toArray, List.set_cons_zero, List.set_cons_succ]
      refine wpAnyH_ready (rs := [8]) (by kernel_rfl) (by simp) ?_
      refine AllReadyH.cons (o := ?ooi8) ?hoi8 (fun K hK => ?_) AllReadyH.nil
      case hoi8 =>
        simp only [List.getElem?_toArray, List.getElem?_cons_succ, List.getElem?_cons_zero]
        rfl
      go_simp
      go_at_call 40
      refine (htb _ (by go_grown)).mono ?_
      rintro e w4 ⟨T, a4, u4, rfl, hTl, hT, o4, b4⟩
      have L4 : Below w2.heap.size w2 w4 := Below.trans (by go_grown) b4
      obtain ⟨q4, -⟩ := bcell L4
      obtain rfl := tables_eq hT hT0 hTl hT0l
      go_wp2_with fail
      refine hK.out _ _ ⟨(q4 _ _ zp).trans c2, (q4 _ _ zg).trans cp⟩ (fun hHeld => ?_)
      clear hK K
      try simp only [Act.put, List.setIfInBounds_toArray, List.set_cons_zero, List.set_cons_succ]
      refine wpAnyH_ready (rs := [9]) (by kernel_rfl) (by simp) ?_
      refine AllReadyH.cons (o := ?ooi9) ?hoi9 (fun K hK => ?_) AllReadyH.nil
      case hoi9 =>
        simp only [List.getElem?_toArray, List.getElem?_cons_succ, List.getElem?_cons_zero]
        rfl
      go_simp
      go_at_call 52
      refine (l10Inner ps[j] c T up a4 w4 hc (hcp j hj).1 (by rw [hTl]; exact (hcp j hj).2) (by rw [hTl]; exact hT.good) (reads3_below hup L4) o4.reads).mono ?_
      rintro e w5 ⟨R, a5, u5, rfl, hRl, hRI, o5, b5⟩
      have L5 := L4.trans (b5.mono L4.size)
      obtain ⟨q5, -⟩ := bcell L5
      obtain rfl := inner_same hRI hAI hRl hAl
      go_wp2_with fail
      refine hK.out _ _ ⟨(q5 _ _ zp).trans c2, (q5 _ _ zg).trans cp⟩ (fun hHeld => ?_)
      clear hK K
      try simp only [Act.put, List.setIfInBounds_toArray, List.set_cons_zero, List.set_cons_succ]
      refine wpAnyH_take (i := 10) (oi := ?oii10) (v := a5) ?hii10 (by kernel_rfl) (by kernel_rfl) (by kernel_rfl) ?hqi10 ?hyi10 hHeld ?hri10
      case hii10 =>
        simp only [List.getElem?_toArray, List.getElem?_cons_succ, List.getElem?_cons_zero]
        rfl
      case hqi10 => exact fun _ _ _ h => h
      case hyi10 => exact Or.inl ⟨by kernel_rfl, fun w hSw => by go_simp⟩
      try simp only [Act.put, List.setIfInBounds_toArray, List.set_cons_zero, List.set_cons_succ]
      refine wpAnyH_done (by kernel_rfl) ?_ _
      --DLEH i
      go_wp2
      go_ret
      exact ⟨a5, u5, rfl, o5.mono (by have := L2.size; have := L4.size; omega), L2.trans (L5.mono L2.size)⟩
    · rw [hA'.2 (by simp [h2])]
      rw [decide_eq_false h2] at hcl
      go_enter Try.func19, Try.ntmps19
      go_wp2_with (first
        | (go_at_call 51; refine h3.mono ?_; rintro e w2 ⟨rfl, b2⟩)
        | (go_at_call 39; refine (hcl _).mono ?_; rintro e w3 ⟨rfl, rfl⟩))
      go_ret
      have L2 := hb0.trans (b2.mono hb0.size)
      exact ⟨_, [], rfl, empty_own L2, L2.alloc L2.size _⟩

theorem specEffect (ps : List (List Stm)) (c : Int) (s : Stm) (A : List Int) (hA : EffA ps c s A) (v : Value) (w : World) (hl : ps.length ≤ maxLen) (hp : ∀ p ∈ ps, p.length ≤ maxLen) (hv : ReadsP w v ps) :
    Calls Try.prog 22 #[.agg #[v], .int .i64 c, .agg #[.int .i64 s.k, .int .i64 s.x, .int .i64 s.y]] w fun e w' => ∃ a, e = .returned a ∧ w'.ownsRow w.heap.size 2 1 a A.length (ints A) ∧ Below w.heap.size w w' := by
  obtain ⟨k, x, y⟩ := s
  dsimp only
  have hb0 : Below w.heap.size w ((w.alloc (.cells #[v] 26)).alloc (.cells #[.int .i64 k, .int .i64 x, .int .i64 y] 43)) := by go_grown
  have hpo := specProgramOk ps v _ hl hp (readsP_below hv hb0)
  have s0 : ((w.alloc (.cells #[v] 26)).alloc (.cells #[.int .i64 k, .int .i64 x, .int .i64 y] 43)).heap.size = w.heap.size + 1 + 1 := by simp
  have H0 : ((w.alloc (.cells #[v] 26)).alloc (.cells #[.int .i64 k, .int .i64 x, .int .i64 y] 43)).heap[w.heap.size]? = some (.cells #[v] 26 (0, 0)) := by
    rw [old_block (by simp)]; exact heap_alloc_new w _
  have H1 : ((w.alloc (.cells #[v] 26)).alloc (.cells #[.int .i64 k, .int .i64 x, .int .i64 y] 43)).heap[w.heap.size + 1]? = some (.cells #[.int .i64 k, .int .i64 x, .int .i64 y] 43 (0, 0)) := by
    have := heap_alloc_new (w.alloc (.cells #[v] 26)) (.cells #[.int .i64 k, .int .i64 x, .int .i64 y] 43)
    simpa using this
  have hcl := l7Client c
  have hst := specStmtOk k x y
  cases h1 : programOk ps
  · rw [h1] at hpo
    rw [hA.2 (by simp [canB, okB, h1])]
    go_enter Try.func22, Try.ntmps22
    go_wp2_with (first
      | (go_at_call 14; refine hpo.mono ?_; rintro e w2 ⟨rfl, b2⟩))
    go_ret
    have L2 := hb0.trans (b2.mono hb0.size)
    exact ⟨_, rfl, own_mono (made0 w2) L2.size, L2.alloc L2.size _⟩
  rw [h1] at hpo
  by_cases h2 : c = 1 ∨ c = 2
  · rw [decide_eq_true h2] at hcl
    cases h3 : stmtOk k x y
    · rw [h3] at hst
      rw [hA.2 (by simp [canB, h3])]
      go_enter Try.func22, Try.ntmps22
      go_wp2_with fail
      go_at_call 14
      refine hpo.mono ?_
      rintro e w2 ⟨rfl, b2⟩
      have L2 := hb0.trans (b2.mono hb0.size)
      obtain ⟨c1, c2, c3, _⟩ := three_cells' ((b2.block (w.heap.size + 1) (by omega)).trans H1)
      go_wp2_with (first
        | (go_at_call 39; refine (hcl _).mono ?_; rintro e w3 ⟨rfl, rfl⟩)
        | (go_at_call 55; refine (hst _).mono ?_; rintro e w4 ⟨rfl, b4⟩))
      go_ret
      have L4 := L2.trans (b4.mono L2.size)
      exact ⟨_, rfl, own_mono (made0 w4) L4.size, L4.alloc L4.size _⟩
    · rw [h3] at hst
      obtain ⟨ao, cap, rfl, hcell⟩ := id hv
      have hps : (ps.length : Int) ≤ 4 := by
        have := h1
        unfold programOk at this
        simp only [Bool.and_eq_true, decide_eq_true_eq] at this
        omega
      go_enter Try.func22, Try.ntmps22
      go_wp2_with fail
      go_at_call 14
      refine hpo.mono ?_
      rintro e w2 ⟨rfl, b2⟩
      have L2 := hb0.trans (b2.mono hb0.size)
      have P2 := (b2.block w.heap.size (by omega)).trans H0
      have Q2 := (b2.block (w.heap.size + 1) (by omega)).trans H1
      obtain ⟨c1, c2, c3, _⟩ := three_cells' Q2
      have hst := hst w2
      go_wp2_with (first
        | (go_at_call 39; refine (hcl _).mono ?_; rintro e w3 ⟨rfl, rfl⟩))
      go_at_call 55
      refine hst.mono ?_
      rintro e w4 ⟨rfl, b4⟩
      have L4 := L2.trans (b4.mono L2.size)
      have s2 := b2.size
      have P4 := (b4.block w.heap.size (by omega)).trans P2
      have Q4 := (b4.block (w.heap.size + 1) (by omega)).trans Q2
      obtain ⟨d0, -⟩ := one_cell P4
      obtain ⟨d1, d2, d3, _⟩ := three_cells' Q4
      have zp : w.heap.size < w4.heap.size := by have := b4.size; omega
      have zq : w.heap.size + 1 < w4.heap.size := by have := b4.size; omega
      have hok : okB ps c = true := by simp [okB, h1, h2]
      obtain ⟨_, hc, hcp, h4⟩ := okB_parts hok
      have htb := fun W (hW : Below w4.heap.size w4 W) => l10Tables ps c (.slice ao ps.length cap) W hc hcp h4 (readsP_below (readsP_below hv L4) hW)
      clear c1 c2 c3 P2 Q2 H0 H1 hpo hst hcell hcl P4 Q4
      by_cases h8 : k = 8
      · subst h8
        obtain ⟨hy0, hy3⟩ := stmtOk_call h3
        obtain ⟨y, rfl⟩ : ∃ n : Nat, y = n := ⟨y.toNat, by omega⟩
        by_cases hy : (y : Int) < (ps.length : Int)
        · have hcs : CanS ps.length ⟨8, x, (y : Int)⟩ := ⟨h3, fun _ => hy⟩
          obtain ⟨T0, hT0l, hT0, hT0e⟩ := hA.1 (by simp [canB, hok, h3]; omega)
          have hyn : ¬ (ps.length : Int) ≤ (y : Int) := by omega
          clear hA
          go_wp2_with fail
          --HELD f
          refine wp_region_held_drew (S := (fun w' => w'.cell? ⟨w.heap.size, 0, none⟩ = some (.slice ao ps.length cap) ∧ w'.cell? ⟨w.heap.size + 1, 0, none⟩ = some (.int .i64 8) ∧ w'.cell? ⟨w.heap.size + 1, 1, none⟩ = some (.int .i64 x) ∧ w'.cell? ⟨w.heap.size + 1, 2, none⟩ = some (.int .i64 (y : Int)))) (by kernel_rfl) ⟨d0, d1, d2, d3⟩ (fun hHeld => ?_)
          refine wpAnyH_take (i := 0) (oi := ?oif0) (v := .int .i64 c) ?hif0 (by kernel_rfl) (by kernel_rfl) (by kernel_rfl) ?hqf0 ?hyf0 hHeld ?hrf0
          case hif0 =>
            simp only [List.getElem?_toArray, List.getElem?_cons_succ, List.getElem?_cons_zero]
            rfl
          case hqf0 => exact fun _ _ _ h => h
          case hyf0 => exact Or.inl ⟨by kernel_rfl, fun w hSw => by go_simp⟩
          try simp only [Act.put, List.setIfInBounds_toArray, List.set_cons_zero, List.set_cons_succ]
          refine wpAnyH_take (i := 1) (oi := ?oif1) (v := .agg #[.int .i64 8, .int .i64 x, .int .i64 (y : Int)]) ?hif1 (by kernel_rfl) (by kernel_rfl) (by kernel_rfl) ?hqf1 ?hyf1 hHeld ?hrf1
          case hif1 =>
            simp only [List.getElem?_toArray, List.getElem?_cons_succ, List.getElem?_cons_zero]
            rfl
          case hqf1 => exact fun _ _ _ h => h
          case hyf1 => exact Or.inl ⟨by kernel_rfl, fun w hSw => by obtain ⟨s0, s1, s2, s3⟩ := hSw; go_simp⟩
          try simp only [Act.put, List.setIfInBounds_toArray, List.set_cons_zero, List.set_cons_succ]
          refine wpAnyH_take (i := 2) (oi := ?oif2) (v := .agg #[.slice ao ps.length cap]) ?hif2 (by kernel_rfl) (by kernel_rfl) (by kernel_rfl) ?hqf2 ?hyf2 hHeld ?hrf2
          case hif2 =>
            simp only [List.getElem?_toArray, List.getElem?_cons_succ, List.getElem?_cons_zero]
            rfl
          case hqf2 => exact fun _ _ _ h => h
          case hyf2 => exact Or.inl ⟨by kernel_rfl, fun w hSw => by obtain ⟨s0, s1, s2, s3⟩ := hSw; go_simp⟩
          try simp only [Act.put, List.setIfInBounds_toArray, List.set_cons_zero, List.set_cons_succ]
          refine wpAnyH_take (i := 3) (oi := ?oif3) (v := .int .i64 c) ?hif3 (by kernel_rfl) (by kernel_rfl) (by kernel_rfl) ?hqf3 ?hyf3 hHeld ?hrf3
          case hif3 =>
            simp only [List.getElem?_toArray, List.getElem?_cons_succ, List.getElem?_cons_zero]
            rfl
          case hqf3 => exact fun _ _ _ h => h
          case hyf3 => exact Or.inl ⟨by kernel_rfl, fun w hSw => by go_simp⟩
          try simp only [Act.put, List.setIfInBounds_toArray, List.set_cons_zero, List.set_cons_succ]
          refine wpAnyH_ready (rs := [4]) (by kernel_rfl) (by simp) ?_
          refine AllReadyH.cons (o := ?oof4) ?hof4 (fun K hK => ?_) AllReadyH.nil
          case hof4 =>
            simp only [List.getElem?_toArray, List.getElem?_cons_succ, List.getElem?_cons_zero]
            rfl
          go_simp
          go_at_call 40
          refine (htb _ (by go_grown)).mono ?_
          rintro e w5 ⟨T, a5, u5, rfl, hTl, hT, o5, b5⟩
          have L5 : Below w4.heap.size w4 w5 := Below.trans (by go_grown) b5
          obtain ⟨q5, -⟩ := bcell L5
          obtain rfl := tables_eq hT hT0 hTl hT0l
          go_wp2_with fail
          refine hK.out _ _ ⟨(q5 _ _ zp).trans d0, (q5 _ _ zq).trans d1, (q5 _ _ zq).trans d2, (q5 _ _ zq).trans d3⟩ (fun hHeld => ?_)
          clear hK K
          try simp only [Act.put, List.setIfInBounds_toArray, List.set_cons_zero, List.set_cons_succ]
          refine wpAnyH_ready (rs := [5]) (by kernel_rfl) (by simp) ?_
          refine AllReadyH.cons (o := ?oof5) ?hof5 (fun K hK => ?_) AllReadyH.nil
          case hof5 =>
            simp only [List.getElem?_toArray, List.getElem?_cons_succ, List.getElem?_cons_zero]
            rfl
          go_simp
          go_at_call 56
          refine (l10Effect c T ⟨8, x, (y : Int)⟩ a5 w5 hc (by rw [hTl]; exact hcs) (by rw [hTl]; exact hT.good) o5.reads).mono ?_
          rintro e w6 ⟨a6, rfl, o6, b6⟩
          have L6 := L5.trans (b6.mono L5.size)
          obtain ⟨q6, -⟩ := bcell L6
          go_wp2_with fail
          refine hK.out _ _ ⟨(q6 _ _ zp).trans d0, (q6 _ _ zq).trans d1, (q6 _ _ zq).trans d2, (q6 _ _ zq).trans d3⟩ (fun hHeld => ?_)
          clear hK K
          try simp only [Act.put, List.setIfInBounds_toArray, List.set_cons_zero, List.set_cons_succ]
          refine wpAnyH_take (i := 6) (oi := ?oif6) (v := a6) ?hif6 (by kernel_rfl) (by kernel_rfl) (by kernel_rfl) ?hqf6 ?hyf6 hHeld ?hrf6
          case hif6 =>
            simp only [List.getElem?_toArray, List.getElem?_cons_succ, List.getElem?_cons_zero]
            rfl
          case hqf6 => exact fun _ _ _ h => h
          case hyf6 => exact Or.inl ⟨by kernel_rfl, fun w hSw => by go_simp⟩
          try simp only [Act.put, List.setIfInBounds_toArray, List.set_cons_zero, List.set_cons_succ]
          refine wpAnyH_done (by kernel_rfl) ?_ _
          --DLEH f
          go_wp2
          go_ret
          have e7 : (effL c T ⟨8, x, (y : Int)⟩).length = 7 := (effL_smalls hc hT.good hcs).1
          refine ⟨a6, rfl, ?_, L4.trans (L6.mono L4.size)⟩
          rw [hT0e, e7]
          exact own_mono o6 (by have := L4.size; have := L5.size; omega)
        · obtain rfl := hA.2 (by simp [canB]; intro _ _; omega)
          have hyn : (ps.length : Int) ≤ (y : Int) := by omega
          go_wp2
          go_ret
          exact ⟨_, rfl, own_mono (made0 w4) L4.size, L4.alloc L4.size _⟩
      · have hcs : CanS ps.length ⟨k, x, y⟩ := ⟨h3, fun h => absurd h h8⟩
        obtain ⟨T0, hT0l, hT0, hT0e⟩ := hA.1 (by simp [canB, hok, h3, h8])
        clear hA
        go_wp2_with fail
        --HELD e
        refine wp_region_held_drew (S := (fun w' => w'.cell? ⟨w.heap.size, 0, none⟩ = some (.slice ao ps.length cap) ∧ w'.cell? ⟨w.heap.size + 1, 0, none⟩ = some (.int .i64 k) ∧ w'.cell? ⟨w.heap.size + 1, 1, none⟩ = some (.int .i64 x) ∧ w'.cell? ⟨w.heap.size + 1, 2, none⟩ = some (.int .i64 y))) (by kernel_rfl) ⟨d0, d1, d2, d3⟩ (fun hHeld => ?_)
        refine wpAnyH_take (i := 0) (oi := ?oie0) (v := .int .i64 c) ?hie0 (by kernel_rfl) (by kernel_rfl) (by kernel_rfl) ?hqe0 ?hye0 hHeld ?hre0
        case hie0 =>
          simp only [List.getElem?_toArray, List.getElem?_cons_succ, List.getElem?_cons_zero]
          rfl
        case hqe0 => exact fun _ _ _ h => h
        case hye0 => exact Or.inl ⟨by kernel_rfl, fun w hSw => by go_simp⟩
        try simp only [Act.put, List.setIfInBounds_toArray, List.set_cons_zero, List.set_cons_succ]
        refine wpAnyH_take (i := 1) (oi := ?oie1) (v := .agg #[.int .i64 k, .int .i64 x, .int .i64 y]) ?hie1 (by kernel_rfl) (by kernel_rfl) (by kernel_rfl) ?hqe1 ?hye1 hHeld ?hre1
        case hie1 =>
          simp only [List.getElem?_toArray, List.getElem?_cons_succ, List.getElem?_cons_zero]
          rfl
        case hqe1 => exact fun _ _ _ h => h
        case hye1 => exact Or.inl ⟨by kernel_rfl, fun w hSw => by obtain ⟨s0, s1, s2, s3⟩ := hSw; go_simp⟩
        try simp only [Act.put, List.setIfInBounds_toArray, List.set_cons_zero, List.set_cons_succ]
        refine wpAnyH_take (i := 2) (oi := ?oie2) (v := .agg #[.slice ao ps.length cap]) ?hie2 (by kernel_rfl) (by kernel_rfl) (by kernel_rfl) ?hqe2 ?hye2 hHeld ?hre2
        case hie2 =>
          simp only [List.getElem?_toArray, List.getElem?_cons_succ, List.getElem?_cons_zero]
          rfl
        case hqe2 => exact fun _ _ _ h => h
        case hye2 => exact Or.inl ⟨by kernel_rfl, fun w hSw => by obtain ⟨s0, s1, s2, s3⟩ := hSw; go_simp⟩
        try simp only [Act.put, List.setIfInBounds_toArray, List.set_cons_zero, List.set_cons_succ]
        refine wpAnyH_take (i := 3) (oi := ?oie3) (v := .int .i64 c) ?hie3 (by kernel_rfl) (by kernel_rfl) (by kernel_rfl) ?hqe3 ?hye3 hHeld ?hre3
        case hie3 =>
          simp only [List.getElem?_toArray, List.getElem?_cons_succ, List.getElem?_cons_zero]
          rfl
        case hqe3 => exact fun _ _ _ h => h
        case hye3 => exact Or.inl ⟨by kernel_rfl, fun w hSw => by go_simp⟩
        try simp only [Act.put, List.setIfInBounds_toArray, List.set_cons_zero, List.set_cons_succ]
        refine wpAnyH_ready (rs := [4]) (by kernel_rfl) (by simp) ?_
        refine AllReadyH.cons (o := ?ooe4) ?hoe4 (fun K hK => ?_) AllReadyH.nil
        case hoe4 =>
          simp only [List.getElem?_toArray, List.getElem?_cons_succ, List.getElem?_cons_zero]
          rfl
        go_simp
        go_at_call 40
        refine (htb _ (by go_grown)).mono ?_
        rintro e w5 ⟨T, a5, u5, rfl, hTl, hT, o5, b5⟩
        have L5 : Below w4.heap.size w4 w5 := Below.trans (by go_grown) b5
        obtain ⟨q5, -⟩ := bcell L5
        obtain rfl := tables_eq hT hT0 hTl hT0l
        go_wp2_with fail
        refine hK.out _ _ ⟨(q5 _ _ zp).trans d0, (q5 _ _ zq).trans d1, (q5 _ _ zq).trans d2, (q5 _ _ zq).trans d3⟩ (fun hHeld => ?_)
        clear hK K
        try simp only [Act.put, List.setIfInBounds_toArray, List.set_cons_zero, List.set_cons_succ]
        refine wpAnyH_ready (rs := [5]) (by kernel_rfl) (by simp) ?_
        refine AllReadyH.cons (o := ?ooe5) ?hoe5 (fun K hK => ?_) AllReadyH.nil
        case hoe5 =>
          simp only [List.getElem?_toArray, List.getElem?_cons_succ, List.getElem?_cons_zero]
          rfl
        go_simp
        go_at_call 56
        refine (l10Effect c T ⟨k, x, y⟩ a5 w5 hc (by rw [hTl]; exact hcs) (by rw [hTl]; exact hT.good) o5.reads).mono ?_
        rintro e w6 ⟨a6, rfl, o6, b6⟩
        have L6 := L5.trans (b6.mono L5.size)
        obtain ⟨q6, -⟩ := bcell L6
        go_wp2_with fail
        refine hK.out _ _ ⟨(q6 _ _ zp).trans d0, (q6 _ _ zq).trans d1, (q6 _ _ zq).trans d2, (q6 _ _ zq).trans d3⟩ (fun hHeld => ?_)
        clear hK K
        try simp only [Act.put, List.setIfInBounds_toArray, List.set_cons_zero, List.set_cons_succ]
        refine wpAnyH_take (i := 6) (oi := ?oie6) (v := a6) ?hie6 (by kernel_rfl) (by kernel_rfl) (by kernel_rfl) ?hqe6 ?hye6 hHeld ?hre6
        case hie6 =>
          simp only [List.getElem?_toArray, List.getElem?_cons_succ, List.getElem?_cons_zero]
          rfl
        case hqe6 => exact fun _ _ _ h => h
        case hye6 => exact Or.inl ⟨by kernel_rfl, fun w hSw => by go_simp⟩
        try simp only [Act.put, List.setIfInBounds_toArray, List.set_cons_zero, List.set_cons_succ]
        refine wpAnyH_done (by kernel_rfl) ?_ _
        --DLEH e
        go_wp2
        go_ret
        have e7 : (effL c T ⟨k, x, y⟩).length = 7 := (effL_smalls hc hT.good hcs).1
        refine ⟨a6, rfl, ?_, L4.trans (L6.mono L4.size)⟩
        rw [hT0e, e7]
        exact own_mono o6 (by have := L4.size; have := L5.size; omega)
  · rw [decide_eq_false h2] at hcl
    rw [hA.2 (by simp [canB, okB, h2])]
    go_enter Try.func22, Try.ntmps22
    go_wp2_with (first
      | (go_at_call 14; refine hpo.mono ?_; rintro e w2 ⟨rfl, b2⟩)
      | (go_at_call 39; refine (hcl _).mono ?_; rintro e w3 ⟨rfl, rfl⟩))
    go_ret
    have L2 := hb0.trans (b2.mono hb0.size)
    exact ⟨_, rfl, own_mono (made0 w2) L2.size, L2.alloc L2.size _⟩

end Go.Proofs.Ytgandekciocalaa
