/-
  Chapter 11, the specification's side: Entries.
-/
import Derived.Test.YtnjbihfceckpfaaSpecEnt
import Derived.Test.YtnjbihfceckpfaaFactsM
namespace Go.Proofs.Ytnjbihfceckpfaa
open Go.RowKit
set_option linter.unusedVariables false
set_option linter.unusedSimpArgs false
set_option maxHeartbeats 4000000
set_option maxRecDepth 20000

theorem ents_eq {ps : List (List Stm)} {c : Int} {I : Nat → Nat → List Int} {A E : List Int} (hI : FA ps c I A) (hEl : E.length = ps.length) (hE : IsEnt c ps I E) : A = E := List.ext_getElem (by rw [hI.len, hEl]) (fun i h1' h2' => by
  have := hI.ent.uniq hE (i := i) (by rw [hI.len] at h1'; exact h1')
  simpa [List.getD, h1', h2'] using this)

theorem specEntries (ps : List (List Stm)) (c : Int) (A : List Int) (hA : EntA ps c A) (v : Value) (w : World) (hl : ps.length ≤ maxLen) (hp : ∀ p ∈ ps, p.length ≤ maxLen) (hv : ReadsP w v ps) :
    Calls Try.prog 10 #[.agg #[v], .int .i64 c] w fun e w' => ∃ u, e = .returned u ∧ w'.ownsRow w.heap.size 2 1 u A.length (ints A) ∧ Below w.heap.size w w' := by
  have hb0 : Below w.heap.size w (w.alloc (.cells #[v] 30)) := by go_grown
  have hpo := specProgramOk ps v _ hl hp (readsP_below hv hb0)
  have H0 := heap_alloc_new w (.cells #[v] 30)
  have s0 : (w.alloc (.cells #[v] 30)).heap.size = w.heap.size + 1 := by simp
  have hcl := l7Client c
  have hmade : ∀ w' : World, w.heap.size ≤ w'.heap.size → (w'.alloc (.cells #[] 2)).ownsRow w.heap.size 2 1 (.slice (some ⟨w'.heap.size, 0, none⟩) 0 0) 0 (ints []) := fun w' h => own_mono (made0 w') h
  cases h1 : programOk ps
  · have e : okB ps c = false := by simp [okB, h1]
    rw [hA.2 e]
    rw [h1] at hpo
    go_enter Try.func10, Try.ntmps10
    go_wp2_with (first
      | (go_at_call 39; refine hpo.mono ?_; rintro e w2 ⟨rfl, b2⟩))
    go_ret
    have L2 := hb0.trans (b2.mono hb0.size)
    exact ⟨_, rfl, hmade _ L2.size, L2.alloc L2.size _⟩
  · rw [h1] at hpo
    by_cases h2 : c = 1 ∨ c = 2
    · have e : okB ps c = true := by simp [okB, h1, h2]
      obtain ⟨I, hI⟩ := hA.1 e
      obtain ⟨_, hc, hcp, h4⟩ := okB_parts e
      rw [decide_eq_true h2] at hcl
      go_enter Try.func10, Try.ntmps10
      go_wp2_with fail
      go_at_call 39
      refine hpo.mono ?_
      rintro e w2 ⟨rfl, b2⟩
      have L2 := hb0.trans (b2.mono hb0.size)
      have P2 := (b2.block w.heap.size (by omega)).trans H0
      obtain ⟨c2, f2⟩ := one_cell P2
      have HTB : Hid (∀ W, Below w2.heap.size w2 W → _) := fun W hW => l10Tables ps c v W hc hcp h4 (readsP_below (readsP_below hv L2) hW)
      have HOK : Hid (1 ≤ ps.length) := ok_one (by simp [okB, h1, h2] : okB ps c = true)
      have z2 : w.heap.size < w2.heap.size := (Array.getElem?_eq_some_iff.1 P2).1
      go_wp2_with (first
        | (go_at_call 40; refine (hcl _).mono ?_; rintro e w3 ⟨rfl, rfl⟩))
      --HELD a
      refine wp_region_held_drew (S := fun w' => w'.cell? ⟨w.heap.size, 0, none⟩ = some v) (by kernel_rfl) c2 (fun hHeld => ?_)
      refine wpAnyH_take (i := 0) (oi := ?ois0) (v := .agg #[v]) ?his0 (by kernel_rfl) (by kernel_rfl) (by kernel_rfl) ?hqs0 ?hys0 hHeld ?hrs0
      case his0 =>
        simp only [List.getElem?_toArray, List.getElem?_cons_succ, List.getElem?_cons_zero]
        rfl
      case hqs0 => exact fun _ _ _ h => h
      case hys0 => exact Or.inl ⟨by kernel_rfl, fun w hSw => by have s1 := hSw; go_simp⟩
      try simp only [Act.put, List.setIfInBounds_toArray, List.set_cons_zero, List.set_cons_succ]
      refine wpAnyH_take (i := 1) (oi := ?ois1) (v := .int .i64 c) ?his1 (by kernel_rfl) (by kernel_rfl) (by kernel_rfl) ?hqs1 ?hys1 hHeld ?hrs1
      case his1 =>
        simp only [List.getElem?_toArray, List.getElem?_cons_succ, List.getElem?_cons_zero]
        rfl
      case hqs1 => exact fun _ _ _ h => h
      case hys1 => exact Or.inl ⟨by kernel_rfl, fun w hSw => by go_simp⟩
      try simp only [Act.put, List.setIfInBounds_toArray, List.set_cons_zero, List.set_cons_succ]
      refine wpAnyH_take (i := 2) (oi := ?ois2) (v := .agg #[v]) ?his2 (by kernel_rfl) (by kernel_rfl) (by kernel_rfl) ?hqs2 ?hys2 hHeld ?hrs2
      case his2 =>
        simp only [List.getElem?_toArray, List.getElem?_cons_succ, List.getElem?_cons_zero]
        rfl
      case hqs2 => exact fun _ _ _ h => h
      case hys2 => exact Or.inl ⟨by kernel_rfl, fun w hSw => by have s1 := hSw; go_simp⟩
      try simp only [Act.put, List.setIfInBounds_toArray, List.set_cons_zero, List.set_cons_succ]
      refine wpAnyH_take (i := 3) (oi := ?ois3) (v := .int .i64 c) ?his3 (by kernel_rfl) (by kernel_rfl) (by kernel_rfl) ?hqs3 ?hys3 hHeld ?hrs3
      case his3 =>
        simp only [List.getElem?_toArray, List.getElem?_cons_succ, List.getElem?_cons_zero]
        rfl
      case hqs3 => exact fun _ _ _ h => h
      case hys3 => exact Or.inl ⟨by kernel_rfl, fun w hSw => by go_simp⟩
      try simp only [Act.put, List.setIfInBounds_toArray, List.set_cons_zero, List.set_cons_succ]
      refine wpAnyH_ready (rs := [4]) (by kernel_rfl) (by simp) ?_
      refine (AllReadyH.cons (o := ?oos4) ?hos4 (fun K hK => ?hks4) AllReadyH.nil)
      case hos4 =>
        simp only [List.getElem?_toArray, List.getElem?_cons_succ, List.getElem?_cons_zero]
        rfl
      case hks4 =>
        go_simp
        go_at_call 42
        refine (HTB.out w2.drew (Below.drew (Below.refl _ _))).mono ?_
        rintro e w4 ⟨T, a4, u4, rfl, hTl, hT, o4, b4⟩
        have B4 : Hid (Below w2.heap.size w2 w4) := (Below.drew (Below.refl w2.heap.size w2)).trans b4
        have HTL : Hid (T.length = ps.length) := hTl
        have HT : Hid (IsTables c ps T) := hT
        have HO4 : Hid (ReadsSS w4 a4 T) := o4.reads
        have L4 : Hid (Below w.heap.size w w4) := L2.trans (B4.out.mono L2.size)
        clear b4 hTl hT o4
        try go_wp2_with fail
        refine hK.out _ _ ((B4.out.cell z2).trans c2) (fun hHeld => ?_)
        clear hK K
        try simp only [Act.put, List.setIfInBounds_toArray, List.set_cons_zero, List.set_cons_succ]
        refine wpAnyH_ready (rs := [5]) (by kernel_rfl) (by simp) ?_
        refine (AllReadyH.cons (o := ?oos5) ?hos5 (fun K hK => ?hks5) AllReadyH.nil)
        case hos5 =>
          simp only [List.getElem?_toArray, List.getElem?_cons_succ, List.getElem?_cons_zero]
          rfl
        case hks5 =>
          go_simp
          go_at_call 41
          refine (l11Entries ps c T I v a4 w4 hc hcp HOK.out h4 HTL.out HT.out.good hI.inn.good (fun i hi R hR k hk => hI.inn.inner hcp HT.out i hi R hR k hk) (readsP_below hv L4.out) HO4.out).mono ?_
          rintro e w5 ⟨E, u5, rfl, hEl, hE, o5, b5⟩
          have B5 : Hid (Below w4.heap.size w4 w5) := b5
          try go_wp2_with fail
          refine hK.out _ _ ((B5.out.cell (Nat.lt_of_lt_of_le z2 B4.out.size)).trans ((B4.out.cell z2).trans c2)) (fun hHeld => ?_)
          clear hK K
          try simp only [Act.put, List.setIfInBounds_toArray, List.set_cons_zero, List.set_cons_succ]
          refine wpAnyH_take (i := 6) (oi := ?ois6) (v := u5) ?his6 (by kernel_rfl) (by kernel_rfl) (by kernel_rfl) ?hqs6 ?hys6 hHeld ?hrs6
          case his6 =>
            simp only [List.getElem?_toArray, List.getElem?_cons_succ, List.getElem?_cons_zero]
            rfl
          case hqs6 => exact fun _ _ _ h => h
          case hys6 => exact Or.inl ⟨by kernel_rfl, fun w hSw => by go_simp⟩
          try simp only [Act.put, List.setIfInBounds_toArray, List.set_cons_zero, List.set_cons_succ]
          refine wpAnyH_done (by kernel_rfl) ?_ _
          go_wp2_with fail
          go_ret
          have hEA : A = E := ents_eq hI hEl hE
          rw [hI.len, hEA]
          exact ⟨_, rfl, own_mono o5 L4.out.size, L4.out.trans (B5.out.mono L4.out.size)⟩
      --DLEH a
    · have e : okB ps c = false := by simp [okB, h2]
      rw [hA.2 e]
      rw [decide_eq_false h2] at hcl
      go_enter Try.func10, Try.ntmps10
      go_wp2_with (first
        | (go_at_call 39; refine hpo.mono ?_; rintro e w2 ⟨rfl, b2⟩)
        | (go_at_call 40; refine (hcl _).mono ?_; rintro e w3 ⟨rfl, rfl⟩))
      go_ret
      have L2 := hb0.trans (b2.mono hb0.size)
      exact ⟨_, rfl, hmade _ L2.size, L2.alloc L2.size _⟩

end Go.Proofs.Ytnjbihfceckpfaa
