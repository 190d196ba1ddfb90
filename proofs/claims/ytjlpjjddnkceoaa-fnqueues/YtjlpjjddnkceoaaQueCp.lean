/-
  Chapter 17: clonedQueue.
-/
import Derived.Test.YtjlpjjddnkceoaaQueStep
import Derived.Test.YtjlpjjddnkceoaaQueMark
import Derived.Test.YtjlpjjddnkceoaaRegionLast
import Derived.Deep.RegionHeld
namespace Go.Proofs.Ytjlpjjddnkceoaa
open Go.RowKit
set_option linter.unusedVariables false
set_option linter.unusedSimpArgs false
set_option maxHeartbeats 8000000
set_option maxRecDepth 20000

theorem laterQ {G : Prop} {F R : Nat → Nat → World → Prop} (h : (∀ c r y, F c r y → R c r y) → G) (k : ∀ c r y, F c r y → R c r y) : G := h k

/-- What clonedQueue has in hand ahead of its loop. -/
structure CPF (w : World) (t : Int) (v : Value) (n C R : Nat) (wf : World) : Prop where
  arg : wf.heap[w.heap.size]? = some (.cells #[.int .i64 t, v] 26 (0, 0))
  res : wf.heap[w.heap.size + 1]? = some (.cells #[.int .i64 0, .slice none 0 0] 26 (0, 0))
  box : wf.heap[C]? = some (.cells #[.int .i64 t, .slice (some ⟨R, 0, none⟩) n n] 26 (0, 0))
  row : wf.ownsRow (w.heap.size + 1 + 1) 33 1 (.slice (some ⟨R, 0, none⟩) n n) n (List.replicate n (.slice none 0 0))
  low : Below w.heap.size w wf
  hC : w.heap.size + 1 < C

theorem cpf_of {w W0 wf : World} {t : Int} {v : Value} {n C R : Nat} (hA0 : W0.heap[w.heap.size]? = some (.cells #[.int .i64 t, v] 26 (0, 0))) (hR0 : W0.heap[w.heap.size + 1]? = some (.cells #[.int .i64 0, .slice none 0 0] 26 (0, 0)))
    (L0 : Below w.heap.size w W0) (hs : W0.heap.size = w.heap.size + 1 + 1) (B : Below W0.heap.size W0 wf) (hb : wf.heap[C]? = some (.cells #[.int .i64 t, .slice (some ⟨R, 0, none⟩) n n] 26 (0, 0)))
    (hr : wf.ownsRow (w.heap.size + 1 + 1) 33 1 (.slice (some ⟨R, 0, none⟩) n n) n (List.replicate n (.slice none 0 0))) (hC : W0.heap.size ≤ C) : CPF w t v n C R wf :=
  ⟨(B.block _ (by omega)).trans hA0, (B.block _ (by omega)).trans hR0, hb, hr, L0.trans (B.mono L0.size), by omega⟩

/-- One Line is put into a row of Lines. -/
theorem OwnQ.put {w : World} {base R n cap j : Nat} {L : List Value} {Y : List (List Int)} {u : Value} {ys : List Int} (h : OwnQ w base (.slice (some ⟨R, 0, none⟩) n cap) L Y) (hj : j < Y.length) (hu : RowO w base u (ints ys)) :
    OwnQ (w.setCell ⟨R, j, none⟩ u) base (.slice (some ⟨R, 0, none⟩) n cap) (L.set j u) (Y.set j ys) := by
  have hl := h.len
  have hn : n = Y.length := by
    rcases h.row.2 with ⟨e, _⟩ | ⟨g, c, cur, e, _⟩
    · simp at e
    · simp at e; exact e.2.1
  subst hn
  have hst := h.row.stored j u
  refine ⟨by simpa using hst.1, fun i x xs hi hx => ?_⟩
  have keep : RowO w base x (ints xs) → RowO (w.setCell ⟨R, j, none⟩ u) base x (ints xs) := fun ho => ho.same (fun k hk => Below.heap_setCell _ _ _ _ (fun e => rowO_kind ho h.row hk (by simp [Value.ownBlock, e])))
  apply keep
  by_cases hij : j = i
  · subst hij
    rw [List.getElem?_set_self (by omega)] at hi
    rw [List.getElem?_set_self (by omega)] at hx
    cases hi
    cases hx
    exact hu
  · rw [List.getElem?_set_ne hij] at hi hx
    exact h.each i x xs hi hx

theorem OwnSS.put {w : World} {base R n cap j : Nat} {L : List Value} {Y : List (List Int)} {u : Value} {ys : List Int} (h : OwnSS w base (.slice (some ⟨R, 0, none⟩) n cap) L Y) (hj : j < Y.length) (hu : w.ownsRow base 2 1 u ys.length (ints ys)) :
    OwnSS (w.setCell ⟨R, j, none⟩ u) base (.slice (some ⟨R, 0, none⟩) n cap) (L.set j u) (Y.set j ys) := by
  have hl := h.len
  have hn : n = Y.length := by
    rcases h.row.2 with ⟨e, _⟩ | ⟨g, c, cur, e, _⟩
    · simp at e
    · simp at e; exact e.2.1
  subst hn
  have hst := h.row.stored j u
  refine ⟨by simpa using hst.1, fun i x xs hi hx => ?_⟩
  have keep : w.ownsRow base 2 1 x xs.length (ints xs) → (w.setCell ⟨R, j, none⟩ u).ownsRow base 2 1 x xs.length (ints xs) := fun ho => own_same ho (fun k hk => Below.heap_setCell _ _ _ _ (fun e => row_kind ho h.row (by decide) hk (by simp [Value.ownBlock, e])))
  apply keep
  by_cases hij : j = i
  · subst hij
    rw [List.getElem?_set_self (by omega)] at hi
    rw [List.getElem?_set_self (by omega)] at hx
    cases hi
    cases hx
    exact hu
  · rw [List.getElem?_set_ne hij] at hi hx
    exact h.each i x xs hi hx

theorem ownSS_nils {w : World} {base n : Nat} {v : Value} (h : w.ownsRow base 33 1 v n (List.replicate n (.slice none 0 0))) : OwnSS w base v (List.replicate n (.slice none 0 0)) (List.replicate n []) := by
  refine ⟨by simpa using h, fun j u xs hj hx => ?_⟩
  have h1 := List.eq_of_mem_replicate (List.mem_of_getElem? hj)
  have h2 := List.eq_of_mem_replicate (List.mem_of_getElem? hx)
  subst h1 h2
  exact World.ownsRow_nil _ _ _ _

theorem apartSS_put {L : List Value} {j : Nat} {u : Value} (h : ApartSS L) (hn : ∀ (i : Nat) (x : Value) (k : Nat), i ≠ j → L[i]? = some x → x.ownBlock = some k → u.ownBlock ≠ some k) : ApartSS (L.set j u) := by
  intro a b x y k hab hx hy hkx hky
  by_cases ha : j = a
  · subst ha
    have hx' : x = u := by
      have hl := (List.getElem?_eq_some_iff.1 hx).1
      rw [List.getElem?_set_self (by simpa using hl)] at hx
      cases hx; rfl
    subst hx'
    rw [List.getElem?_set_ne hab] at hy
    exact hn b y k (fun e => hab e.symm) hy hky hkx
  · rw [List.getElem?_set_ne ha] at hx
    by_cases hb : j = b
    · subst hb
      have hy' : y = u := by
        have hl := (List.getElem?_eq_some_iff.1 hy).1
        rw [List.getElem?_set_self (by simpa using hl)] at hy
        cases hy; rfl
      subst hy'
      exact hn a x k hab hx hkx hky
    · rw [List.getElem?_set_ne hb] at hy
      exact h a b x y k hab hx hy hkx hky

theorem take_set (X : List (List Int)) (k : Nat) (hk : k < X.length) : (X.take k ++ List.replicate (X.length - k) ([] : List Int)).set k X[k] = X.take (k + 1) ++ List.replicate (X.length - (k + 1)) [] := by
  apply List.ext_getElem?
  intro i
  rw [List.getElem?_set]
  by_cases hki : k = i
  · subst hki
    rw [if_pos rfl, if_pos (by simp; omega), List.getElem?_append_left (by simp; omega), List.getElem?_take_of_lt (by omega)]
    simp [hk]
  · rw [if_neg hki]
    by_cases h1 : i < k
    · rw [List.getElem?_append_left (by simp; omega), List.getElem?_append_left (by simp; omega), List.getElem?_take_of_lt h1, List.getElem?_take_of_lt (by omega)]
    · rw [List.getElem?_append_right (by simp; omega), List.getElem?_append_right (by simp; omega), List.getElem?_replicate, List.getElem?_replicate]
      simp only [List.length_take]
      by_cases h2 : i < X.length
      · rw [if_pos (by omega), if_pos (by omega)]
      · rw [if_neg (by omega), if_neg (by omega)]

theorem clonedQueue (t : Int) (X : List (List Int)) (v : Value) (w : World) (hl : X.length ≤ 1000) (h5 : ∀ x ∈ X, x.length ≤ 1000) (hv : ReadsSS w v X) :
    Calls Try.prog 21 #[.agg #[.int .i64 t, v]] w fun e w' => ∃ u us, e = .returned (.agg #[.int .i64 t, u]) ∧ OwnSS w' w.heap.size u us X ∧ ApartSS us ∧ Below w.heap.size w w' := by
  obtain ⟨i0, hi, hz0, hz1, hz2⟩ := info_parts infoSlice
  obtain ⟨j0, hj, hy0, hy1, hy2⟩ := info_parts infoInt
  obtain ⟨ao, cap, rfl, hc⟩ := hv
  obtain ⟨W0, hW0⟩ : ∃ W0, (w.alloc (.cells #[.int .i64 t, .slice ao X.length cap] 26)).alloc (.cells #[.int .i64 0, .slice none 0 0] 26) = W0 := ⟨_, rfl⟩
  have L0 : Below w.heap.size w W0 := by rw [← hW0]; go_grown
  have hs0 : W0.heap.size = w.heap.size + 1 + 1 := by rw [← hW0]; simp
  have hA0 : W0.heap[w.heap.size]? = some (.cells #[.int .i64 t, .slice ao X.length cap] 26 (0, 0)) := by
    rw [← hW0, old_block (by simp)]; exact heap_alloc_new w _
  have hR0 : W0.heap[w.heap.size + 1]? = some (.cells #[.int .i64 0, .slice none 0 0] 26 (0, 0)) := by
    rw [← hW0]
    have := heap_alloc_new (w.alloc (.cells #[.int .i64 t, .slice ao X.length cap] 26)) (.cells #[.int .i64 0, .slice none 0 0] 26)
    simpa using this
  obtain ⟨c0, c1, _, _⟩ := two_cellsQ hA0
  have lA : w.heap.size < W0.heap.size := by omega
  have HS0 : Hid _ := hs0
  go_enter Try.func21, Try.ntmps21
  go_wp2_with fail
  refine laterQ (F := fun C R wf => CPF w t (.slice ao X.length cap) X.length C R wf) (R := ?PLeaf) (fun hk => ?_) ?_
  case refine_1 =>
    refine wp_region_held_drew (S := fun w' => w'.cell? ⟨w.heap.size, 0, none⟩ = some (.int .i64 t) ∧ w'.cell? ⟨w.heap.size, 1, none⟩ = some (.slice ao X.length cap)) (by kernel_rfl) ⟨c0, c1⟩ (fun hHeld => ?_)
    refine wpAnyH_take (i := 0) (oi := ?oica0) (v := .pointer (some ⟨w.heap.size, 0, none⟩)) ?hica0 (by kernel_rfl) (by kernel_rfl) (by kernel_rfl) ?hqca0 ?hyca0 hHeld ?hrca0
    case hica0 =>
      simp only [List.getElem?_toArray, List.getElem?_cons_succ, List.getElem?_cons_zero]
      rfl
    case hqca0 => exact fun _ _ _ h => h
    case hyca0 => exact Or.inl ⟨by kernel_rfl, fun w hSw => by go_simp⟩
    try simp only [Act.put, List.setIfInBounds_toArray, List.set_cons_zero, List.set_cons_succ]
    refine wpAnyH_take (i := 1) (oi := ?oica1) (v := .int .i64 t) ?hica1 (by kernel_rfl) (by kernel_rfl) (by kernel_rfl) ?hqca1 ?hyca1 hHeld ?hrca1
    case hica1 =>
      simp only [List.getElem?_toArray, List.getElem?_cons_succ, List.getElem?_cons_zero]
      rfl
    case hqca1 => exact fun _ _ _ h => h
    case hyca1 => exact Or.inl ⟨by kernel_rfl, fun w hSw => by obtain ⟨s0, s1⟩ := hSw; go_simp⟩
    try simp only [Act.put, List.setIfInBounds_toArray, List.set_cons_zero, List.set_cons_succ]
    refine wpAnyH_take (i := 2) (oi := ?oica2) (v := .pointer (some ⟨w.heap.size, 1, none⟩)) ?hica2 (by kernel_rfl) (by kernel_rfl) (by kernel_rfl) ?hqca2 ?hyca2 hHeld ?hrca2
    case hica2 =>
      simp only [List.getElem?_toArray, List.getElem?_cons_succ, List.getElem?_cons_zero]
      rfl
    case hqca2 => exact fun _ _ _ h => h
    case hyca2 => exact Or.inl ⟨by kernel_rfl, fun w hSw => by go_simp⟩
    try simp only [Act.put, List.setIfInBounds_toArray, List.set_cons_zero, List.set_cons_succ]
    refine wpAnyH_take (i := 3) (oi := ?oica3) (v := .slice ao X.length cap) ?hica3 (by kernel_rfl) (by kernel_rfl) (by kernel_rfl) ?hqca3 ?hyca3 hHeld ?hrca3
    case hica3 =>
      simp only [List.getElem?_toArray, List.getElem?_cons_succ, List.getElem?_cons_zero]
      rfl
    case hqca3 => exact fun _ _ _ h => h
    case hyca3 => exact Or.inl ⟨by kernel_rfl, fun w hSw => by obtain ⟨s0, s1⟩ := hSw; go_simp⟩
    try simp only [Act.put, List.setIfInBounds_toArray, List.set_cons_zero, List.set_cons_succ]
    refine wpAnyH_take (i := 4) (oi := ?oica4) (v := .int .i64 (X.length : Int)) ?hica4 (by kernel_rfl) (by kernel_rfl) (by kernel_rfl) ?hqca4 ?hyca4 hHeld ?hrca4
    case hica4 =>
      simp only [List.getElem?_toArray, List.getElem?_cons_succ, List.getElem?_cons_zero]
      rfl
    case hqca4 => exact fun _ _ _ h => h
    case hyca4 => exact Or.inl ⟨by kernel_rfl, fun w hSw => by go_simp⟩
    try simp only [Act.put, List.setIfInBounds_toArray, List.set_cons_zero, List.set_cons_succ]
    refine wpAnyH_ready (rs := [5, 7]) (by kernel_rfl) (by simp) ?_
    refine (AllReadyH.cons (o := ?ooca5) ?hoca5 (fun K hK => ?hkca5) (AllReadyH.cons (o := ?ooca7) ?hoca7 (fun K hK => ?hkca7) AllReadyH.nil))
    case hoca5 =>
      simp only [List.getElem?_toArray, List.getElem?_cons_succ, List.getElem?_cons_zero]
      rfl
    case hoca7 =>
      simp only [List.getElem?_toArray, List.getElem?_cons_succ, List.getElem?_cons_zero]
      rfl
    case hkca5 =>
      refine step_makeQ _ rfl (.tmp 10) (.tmp 10) 24 rfl (w.heap.size + 1 + 1) 33 i0 (.slice none 0 0) 1 Try.underlying24 hi hz0 hz1 .i64 .i64 _ _ X.length rfl rfl rfl rfl (by rw [hz2]; omega) (by unfold maxLen; omega) (by show _ ≤ W0.heap.size; omega) ?_
      intro w1 own1 grow1
      have B1 : Below W0.heap.size W0 w1 := (Below.drew (Below.refl W0.heap.size W0)).grown grow1 (Nat.le_refl _) (by simp)
      rw [made_nils, show W0.drew.heap.size = w.heap.size + 1 + 1 from hs0] at own1
      refine hK.out _ _ ⟨(B1.cell lA).trans c0, (B1.cell lA).trans c1⟩ (fun hHeld => ?_)
      clear hK K
      try simp only [Act.put, List.setIfInBounds_toArray, List.set_cons_zero, List.set_cons_succ]
      refine wpAnyH_take (i := 6) (oi := ?oicaa6) (v := .agg #[.int .i64 t, .slice (some ⟨w.heap.size + 1 + 1, 0, none⟩) X.length X.length]) ?hicaa6 (by kernel_rfl) (by kernel_rfl) (by kernel_rfl) ?hqcaa6 ?hycaa6 hHeld ?hrcaa6
      case hicaa6 =>
        simp only [List.getElem?_toArray, List.getElem?_cons_succ, List.getElem?_cons_zero]
        rfl
      case hqcaa6 => exact fun _ _ _ h => h
      case hycaa6 => exact Or.inl ⟨by kernel_rfl, fun w hSw => by go_simp⟩
      try simp only [Act.put, List.setIfInBounds_toArray, List.set_cons_zero, List.set_cons_succ]
      refine wpAnyH_ready (rs := [7]) (by kernel_rfl) (by simp) ?_
      refine (AllReadyH.cons (o := ?oocaa7) ?hocaa7 (fun K hK => ?hkcaa7) AllReadyH.nil)
      case hocaa7 =>
        simp only [List.getElem?_toArray, List.getElem?_cons_succ, List.getElem?_cons_zero]
        rfl
      case hkcaa7 =>
        go_simp
        try go_wp2_with fail
        refine hK.out _ _ ⟨((B1.alloc B1.size _).cell lA).trans c0, ((B1.alloc B1.size _).cell lA).trans c1⟩ (fun hHeld => ?_)
        clear hK K
        try simp only [Act.put, List.setIfInBounds_toArray, List.set_cons_zero, List.set_cons_succ]
        refine wpAnyH_ready (rs := [8]) (by kernel_rfl) (by simp) ?_
        refine (AllReadyH.cons (o := ?oocaa8) ?hocaa8 (fun K hK => ?hkcaa8) AllReadyH.nil)
        case hocaa8 =>
          simp only [List.getElem?_toArray, List.getElem?_cons_succ, List.getElem?_cons_zero]
          rfl
        case hkcaa8 =>
          go_simp
          try go_wp2_with fail
          refine hK.out _ _ ⟨((B1.alloc B1.size _).cell lA).trans c0, ((B1.alloc B1.size _).cell lA).trans c1⟩ (fun hHeld => ?_)
          clear hK K
          try simp only [Act.put, List.setIfInBounds_toArray, List.set_cons_zero, List.set_cons_succ]
          refine wpAnyH_done (by kernel_rfl) ?_ _
          have HF : CPF w t (.slice ao X.length cap) X.length w1.heap.size (w.heap.size + 1 + 1) (w1.alloc (.cells #[.int .i64 t, .slice (some ⟨w.heap.size + 1 + 1, 0, none⟩) X.length X.length] 26)) := cpf_of hA0 hR0 L0 hs0 (B1.alloc B1.size _) (heap_alloc_new w1 _) (own1.alloc _) B1.size
          obtain ⟨wf, hwf⟩ : ∃ wf, w1.alloc (.cells #[.int .i64 t, .slice (some ⟨w.heap.size + 1 + 1, 0, none⟩) X.length X.length] 26) = wf := ⟨_, rfl⟩
          rw [hwf] at HF ⊢
          clear hwf B1 own1 grow1
          generalize w1.heap.size = C at HF ⊢
          generalize w.heap.size + 1 + 1 = R at HF ⊢
          exact hk C R wf HF
    case hkca7 =>
      go_simp
      skip
      try go_wp2_with fail
      refine hK.out _ _ ⟨((Below.alloc (Below.refl W0.heap.size W0) (Nat.le_refl _) _).cell lA).trans c0, ((Below.alloc (Below.refl W0.heap.size W0) (Nat.le_refl _) _).cell lA).trans c1⟩ (fun hHeld => ?_)
      clear hK K
      try simp only [Act.put, List.setIfInBounds_toArray, List.set_cons_zero, List.set_cons_succ]
      refine wpAnyH_ready (rs := [5]) (by kernel_rfl) (by simp) ?_
      refine (AllReadyH.cons (o := ?oocab5) ?hocab5 (fun K hK => ?hkcab5) AllReadyH.nil)
      case hocab5 =>
        simp only [List.getElem?_toArray, List.getElem?_cons_succ, List.getElem?_cons_zero]
        rfl
      case hkcab5 =>
        refine step_makeQ _ rfl (.tmp 10) (.tmp 10) 24 rfl (w.heap.size + 1 + 1) 33 i0 (.slice none 0 0) 1 Try.underlying24 hi hz0 hz1 .i64 .i64 _ _ X.length rfl rfl rfl rfl (by rw [hz2]; omega) (by unfold maxLen; omega) (by simp; omega) ?_
        intro w1 own1 grow1
        have B1 : Below W0.heap.size W0 w1 := (Below.alloc (Below.drew (Below.refl W0.heap.size W0)) (Nat.le_refl _) _).grown grow1 (by simp) (by simp)
        rw [made_nils] at own1
        have own1 : w1.ownsRow (w.heap.size + 1 + 1) 33 1 (.slice (some ⟨w.heap.size + 1 + 1 + 1, 0, none⟩) X.length X.length) X.length (List.replicate X.length (.slice none 0 0)) := by have e9 : (W0.alloc (.cells #[.int .i64 0, .slice none 0 0] 26)).drew.heap.size = w.heap.size + 1 + 1 + 1 := (by show (W0.alloc _).heap.size = _; simp; exact hs0); rw [e9] at own1; exact own1
        have G1 : w1.heap[w.heap.size + 1 + 1]? = some (.cells #[.int .i64 0, .slice none 0 0] 26 (0, 0)) := by rw [grow1.block _ (by simp; omega) (by simp)]; have h := heap_alloc_new W0.drew (.cells #[.int .i64 0, .slice none 0 0] 26); rw [show W0.drew.heap.size = w.heap.size + 1 + 1 from hs0] at h; exact h
        obtain ⟨g0, g1, g2, g3⟩ := two_cellsQ G1
        refine hK.out _ _ ⟨(B1.cell lA).trans c0, (B1.cell lA).trans c1⟩ (fun hHeld => ?_)
        clear hK K
        try simp only [Act.put, List.setIfInBounds_toArray, List.set_cons_zero, List.set_cons_succ]
        refine wpAnyH_take (i := 6) (oi := ?oicab6) (v := .agg #[.int .i64 t, .slice (some ⟨w.heap.size + 1 + 1 + 1, 0, none⟩) X.length X.length]) ?hicab6 (by kernel_rfl) (by kernel_rfl) (by kernel_rfl) ?hqcab6 ?hycab6 hHeld ?hrcab6
        case hicab6 =>
          simp only [List.getElem?_toArray, List.getElem?_cons_succ, List.getElem?_cons_zero]
          rfl
        case hqcab6 => exact fun _ _ _ h => h
        case hycab6 => exact Or.inl ⟨by kernel_rfl, fun w hSw => by go_simp⟩
        try simp only [Act.put, List.setIfInBounds_toArray, List.set_cons_zero, List.set_cons_succ]
        refine wpAnyH_ready (rs := [8]) (by kernel_rfl) (by simp) ?_
        refine (AllReadyH.cons (o := ?oocab8) ?hocab8 (fun K hK => ?hkcab8) AllReadyH.nil)
        case hocab8 =>
          simp only [List.getElem?_toArray, List.getElem?_cons_succ, List.getElem?_cons_zero]
          rfl
        case hkcab8 =>
          go_simp
          try go_wp2_with fail
          refine hK.out _ _ ⟨(Below.cell ((B1.setCell (by show W0.heap.size ≤ w.heap.size + 1 + 1; omega) _).setCell (by show W0.heap.size ≤ w.heap.size + 1 + 1; omega) _) lA).trans c0, (Below.cell ((B1.setCell (by show W0.heap.size ≤ w.heap.size + 1 + 1; omega) _).setCell (by show W0.heap.size ≤ w.heap.size + 1 + 1; omega) _) lA).trans c1⟩ (fun hHeld => ?_)
          clear hK K
          try simp only [Act.put, List.setIfInBounds_toArray, List.set_cons_zero, List.set_cons_succ]
          refine wpAnyH_done (by kernel_rfl) ?_ _
          have HF : CPF w t (.slice ao X.length cap) X.length (w.heap.size + 1 + 1) (w.heap.size + 1 + 1 + 1) ((w1.setCell ⟨w.heap.size + 1 + 1, 0, none⟩ (.int .i64 t)).setCell ⟨w.heap.size + 1 + 1, 1, none⟩ (.slice (some ⟨w.heap.size + 1 + 1 + 1, 0, none⟩) X.length X.length)) := cpf_of hA0 hR0 L0 hs0 ((B1.setCell (by show W0.heap.size ≤ w.heap.size + 1 + 1; omega) _).setCell (by show W0.heap.size ≤ w.heap.size + 1 + 1; omega) _) (two_setQ G1 _ _) (own_same own1 (fun k hk => by simp [Value.ownBlock] at hk; subst hk; rw [Below.heap_setCell _ _ _ _ (by simp), Below.heap_setCell _ _ _ _ (by simp)])) (by omega)
          obtain ⟨wf, hwf⟩ : ∃ wf, (w1.setCell ⟨w.heap.size + 1 + 1, 0, none⟩ (.int .i64 t)).setCell ⟨w.heap.size + 1 + 1, 1, none⟩ (.slice (some ⟨w.heap.size + 1 + 1 + 1, 0, none⟩) X.length X.length) = wf := ⟨_, rfl⟩
          rw [hwf] at HF ⊢
          exact hk _ _ wf HF
  intro C R wf hF
  have hAr : Hid _ := hF.arg
  have hRs : Hid _ := hF.res
  have hBx : Hid _ := hF.box
  have hLo : Hid _ := hF.low
  have hC1 := hF.hC
  have hO0 : Hid (OwnSS wf (w.heap.size + 1 + 1) (.slice (some ⟨R, 0, none⟩) X.length X.length) (List.replicate X.length (.slice none 0 0)) (List.replicate X.length [])) := ownSS_nils hF.row
  have hRC : C ≠ R := by
    intro e
    rcases hF.row.2 with ⟨h9, _⟩ | ⟨g, c, cur, h9, _, hg, _⟩
    · simp at h9
    · simp at h9
      obtain ⟨rfl, _⟩ := h9
      have h8 := hBx.out
      rw [e, hg] at h8
      simp at h8
  have hR2 : w.heap.size + 1 + 1 ≤ R := (hF.row.lt R rfl).1
  obtain ⟨a0, a1, -, -⟩ := two_cellsQ hAr.out
  clear hF c0 c1 hA0 hR0 L0 hs0 lA HS0 hW0
  go_wp2_with fail
  clear a0 a1
  go_loopw [16] (fun i wr => ∃ (k : Nat) (us : List Value), k ≤ X.length ∧ i = .int .i64 k ∧ wr.heap[w.heap.size]? = some (.cells #[.int .i64 t, .slice ao X.length cap] 26 (0, 0)) ∧ wr.heap[w.heap.size + 1]? = some (.cells #[.int .i64 0, .slice none 0 0] 26 (0, 0)) ∧ wr.heap[C]? = some (.cells #[.int .i64 t, .slice (some ⟨R, 0, none⟩) X.length X.length] 26 (0, 0)) ∧
      OwnSS wr (w.heap.size + 1 + 1) (.slice (some ⟨R, 0, none⟩) X.length X.length) us (X.take k ++ List.replicate (X.length - k) []) ∧ (∀ j u, k ≤ j → us[j]? = some u → u = .slice none 0 0) ∧ ApartSS us ∧ Below w.heap.size w wr) (fun i _ => X.length - (intOf i).toNat)
  case atStart => exact ⟨0, _, Nat.zero_le _, rfl, hAr.out, hRs.out, hBx.out, by simpa using hO0.out, fun j u _ hj => List.eq_of_mem_replicate (List.mem_of_getElem? hj), apartSS_nils (fun u hu => List.eq_of_mem_replicate hu), hLo.out⟩
  case round =>
    obtain ⟨k, us, hk, rfl, kA, kR, kB, kO, kN, kP, kL⟩ := hrel
    clear hAr hRs hBx hLo hO0
    have HkA : Hid _ := kA
    have HkR : Hid _ := kR
    have HkB : Hid _ := kB
    have HkO : Hid _ := kO
    have HkN : Hid (∀ j u, k ≤ j → us[j]? = some u → u = .slice none 0 0) := kN
    have HkP : Hid _ := kP
    have HkL : Hid _ := kL
    have hul : us.length = X.length := by have := kO.len; simp at this; omega
    have HUL : Hid _ := hul
    by_cases hlt : k < X.length
    · have hlt' : (k : Int) < (X.length : Int) := by omega
      obtain ⟨g, off, u0, rfl, p0, r0⟩ := hc k X[k] (by simp [hlt])
      have pl := h5 X[k] (List.getElem_mem hlt)
      have p1 := (kL.cell (World.block_lt_of_cell? w _ p0)).trans p0
      have r1 := reads_below r0 kL
      obtain ⟨ua, uc, rfl, hcu⟩ := id r1
      rw [ints_length] at p1
      have huk : us[k]? = some (.slice none 0 0) := by
        have h9 : us[k]? = some (us[k]'(by omega)) := by simp [hul, hlt]
        rw [h9, kN k _ (Nat.le_refl _) h9]
      have kOr : ∀ W : World, OwnSS W (w.heap.size + 1 + 1) (.slice (some ⟨R, 0, none⟩) X.length X.length) us (X.take k ++ List.replicate (X.length - k) []) → W.ownsRow (w.heap.size + 1 + 1) 33 1 (.slice (some ⟨R, 0, none⟩) X.length X.length) X.length us := fun W h => by
        have h9 := h.row
        rw [show (X.take k ++ List.replicate (X.length - k) ([] : List Int)).length = X.length by simp; omega] at h9
        exact h9
      have hkc : wr.cell? ⟨R, k, none⟩ = some (.slice none 0 0) := by
        have := (kOr wr kO).cellAt k (by omega)
        rw [this]; exact huk
      obtain ⟨b0, b1, -, -⟩ := two_cellsQ kB
      have fR : ∀ W : World, wr.grownBy W none → W.frozen? ⟨R, k, none⟩ = false ∧ W.cell? ⟨R, k, none⟩ = some (.slice none 0 0) := fun W hW => by
        have h9 : Below wr.heap.size wr W := (Below.refl _ _).grown hW (Nat.le_refl _) (by simp)
        exact ⟨(kOr W (kO.below h9)).frozenAt k, (h9.cell (World.block_lt_of_cell? wr _ hkc)).trans hkc⟩
      have hnews : ∀ W, Below wr.heap.size wr W → 0 < X[k].length → ∃ ad, ua = some ad ∧ ∀ j u, (ints X[k])[j]? = some u → W.cell? (ad.add j) = some u := fun W hW h0 => by
        obtain ⟨g9, o9, e9, _⟩ := hcu 0 (.int .i64 X[k][0]) (by simp [ints, h0])
        refine ⟨_, e9, fun j u hu => ?_⟩
        obtain ⟨g8, o8, e8, h8⟩ := hcu j u hu
        rw [e9] at e8
        cases e8
        have : (⟨g9, o9, none⟩ : Addr).add j = ⟨g9, o9 + j, none⟩ := by unfold Addr.add; split <;> simp_all
        rw [this, hW.cell (World.block_lt_of_cell? wr _ h8)]
        exact h8
      have HTS : Hid _ := take_set X k hlt
      have HNW : Hid _ := hnews
      have HFR : Hid _ := fR
      clear kA kR kB kO kN kP kL kOr hnews hcu r0 r1 p0 fR hul huk
      generalize hq : X[k] = q at *
      clear hq
      go_wp2_with fail
      refine wp_region_late (S := fun w' => w'.cell? ⟨C, 1, none⟩ = some (.slice (some ⟨R, 0, none⟩) X.length X.length) ∧ w'.cell? ⟨R, k, none⟩ = some (.slice none 0 0)) (late := fun j => j == 11) (by kernel_rfl) ⟨b1, hkc⟩ (fun hHeld => ?_)
      refine wpAnyG_take (i := 0) (oi := ?oicl0) (v := .pointer (some ⟨C, 1, none⟩)) ?hicl0 (by kernel_rfl) (by kernel_rfl) (by kernel_rfl) (by kernel_rfl) ?hqcl0 ?hycl0 hHeld ?hrcl0
      case hicl0 =>
        simp only [List.getElem?_toArray, List.getElem?_cons_succ, List.getElem?_cons_zero]
        rfl
      case hqcl0 => exact fun _ _ _ h => h
      case hycl0 => exact Or.inl ⟨by kernel_rfl, fun w hSw => by go_simp⟩
      try simp only [Act.put, List.setIfInBounds_toArray, List.set_cons_zero, List.set_cons_succ]
      refine wpAnyG_take (i := 1) (oi := ?oicl1) (v := .slice (some ⟨R, 0, none⟩) X.length X.length) ?hicl1 (by kernel_rfl) (by kernel_rfl) (by kernel_rfl) (by kernel_rfl) ?hqcl1 ?hycl1 hHeld ?hrcl1
      case hicl1 =>
        simp only [List.getElem?_toArray, List.getElem?_cons_succ, List.getElem?_cons_zero]
        rfl
      case hqcl1 => exact fun _ _ _ h => h
      case hycl1 => exact Or.inl ⟨by kernel_rfl, fun w hSw => by obtain ⟨s0, s1⟩ := hSw; go_simp⟩
      try simp only [Act.put, List.setIfInBounds_toArray, List.set_cons_zero, List.set_cons_succ]
      refine wpAnyG_take (i := 2) (oi := ?oicl2) (v := .int .i64 (k : Int)) ?hicl2 (by kernel_rfl) (by kernel_rfl) (by kernel_rfl) (by kernel_rfl) ?hqcl2 ?hycl2 hHeld ?hrcl2
      case hicl2 =>
        simp only [List.getElem?_toArray, List.getElem?_cons_succ, List.getElem?_cons_zero]
        rfl
      case hqcl2 => exact fun _ _ _ h => h
      case hycl2 => exact Or.inl ⟨by kernel_rfl, fun w hSw => by go_simp⟩
      try simp only [Act.put, List.setIfInBounds_toArray, List.set_cons_zero, List.set_cons_succ]
      refine wpAnyG_take (i := 3) (oi := ?oicl3) (v := .pointer (some ⟨C, 1, none⟩)) ?hicl3 (by kernel_rfl) (by kernel_rfl) (by kernel_rfl) (by kernel_rfl) ?hqcl3 ?hycl3 hHeld ?hrcl3
      case hicl3 =>
        simp only [List.getElem?_toArray, List.getElem?_cons_succ, List.getElem?_cons_zero]
        rfl
      case hqcl3 => exact fun _ _ _ h => h
      case hycl3 => exact Or.inl ⟨by kernel_rfl, fun w hSw => by go_simp⟩
      try simp only [Act.put, List.setIfInBounds_toArray, List.set_cons_zero, List.set_cons_succ]
      refine wpAnyG_take (i := 4) (oi := ?oicl4) (v := .slice (some ⟨R, 0, none⟩) X.length X.length) ?hicl4 (by kernel_rfl) (by kernel_rfl) (by kernel_rfl) (by kernel_rfl) ?hqcl4 ?hycl4 hHeld ?hrcl4
      case hicl4 =>
        simp only [List.getElem?_toArray, List.getElem?_cons_succ, List.getElem?_cons_zero]
        rfl
      case hqcl4 => exact fun _ _ _ h => h
      case hycl4 => exact Or.inl ⟨by kernel_rfl, fun w hSw => by obtain ⟨s0, s1⟩ := hSw; go_simp⟩
      try simp only [Act.put, List.setIfInBounds_toArray, List.set_cons_zero, List.set_cons_succ]
      refine wpAnyG_take (i := 5) (oi := ?oicl5) (v := .int .i64 (k : Int)) ?hicl5 (by kernel_rfl) (by kernel_rfl) (by kernel_rfl) (by kernel_rfl) ?hqcl5 ?hycl5 hHeld ?hrcl5
      case hicl5 =>
        simp only [List.getElem?_toArray, List.getElem?_cons_succ, List.getElem?_cons_zero]
        rfl
      case hqcl5 => exact fun _ _ _ h => h
      case hycl5 => exact Or.inl ⟨by kernel_rfl, fun w hSw => by go_simp⟩
      try simp only [Act.put, List.setIfInBounds_toArray, List.set_cons_zero, List.set_cons_succ]
      refine wpAnyG_take (i := 6) (oi := ?oicl6) (v := .pointer (some ⟨R, k, none⟩)) ?hicl6 (by kernel_rfl) (by kernel_rfl) (by kernel_rfl) (by kernel_rfl) ?hqcl6 ?hycl6 hHeld ?hrcl6
      case hicl6 =>
        simp only [List.getElem?_toArray, List.getElem?_cons_succ, List.getElem?_cons_zero]
        rfl
      case hqcl6 => exact fun _ _ _ h => h
      case hycl6 => exact Or.inl ⟨by kernel_rfl, fun w hSw => by go_simp⟩
      try simp only [Act.put, List.setIfInBounds_toArray, List.set_cons_zero, List.set_cons_succ]
      refine wpAnyG_take (i := 7) (oi := ?oicl7) (v := .slice none 0 0) ?hicl7 (by kernel_rfl) (by kernel_rfl) (by kernel_rfl) (by kernel_rfl) ?hqcl7 ?hycl7 hHeld ?hrcl7
      case hicl7 =>
        simp only [List.getElem?_toArray, List.getElem?_cons_succ, List.getElem?_cons_zero]
        rfl
      case hqcl7 => exact fun _ _ _ h => h
      case hycl7 => exact Or.inl ⟨by kernel_rfl, fun w hSw => by obtain ⟨s0, s1⟩ := hSw; go_simp⟩
      try simp only [Act.put, List.setIfInBounds_toArray, List.set_cons_zero, List.set_cons_succ]
      refine wpAnyG_take (i := 8) (oi := ?oicl8) (v := .slice ua q.length uc) ?hicl8 (by kernel_rfl) (by kernel_rfl) (by kernel_rfl) (by kernel_rfl) ?hqcl8 ?hycl8 hHeld ?hrcl8
      case hicl8 =>
        simp only [List.getElem?_toArray, List.getElem?_cons_succ, List.getElem?_cons_zero]
        rfl
      case hqcl8 => exact fun _ _ _ h => h
      case hycl8 => exact Or.inl ⟨by kernel_rfl, fun w hSw => by go_simp⟩
      try simp only [Act.put, List.setIfInBounds_toArray, List.set_cons_zero, List.set_cons_succ]
      refine wpAnyG_ready (rs := [9]) (by kernel_rfl) (by simp) ?_
      refine (AllReadyG.cons (o := ?oocl9) ?hocl9 (fun K hK => ?hkcl9) AllReadyG.nil)
      case hocl9 =>
        simp only [List.getElem?_toArray, List.getElem?_cons_succ, List.getElem?_cons_zero]
        rfl
      case hkcl9 =>
        refine step_append_anyQ _ rfl (.tmp 28) (.tmp 29) 33 rfl wr.heap.size 2 j0 (.int .i64 0) 1 8 Try.underlying33 hj hy0 hy1 hy2 rfl (by decide) (.slice none 0 0) 0 [] rfl (World.ownsRow_nil _ _ _ _) ua q.length uc (ints q) rfl (by rw [ints_length, Nat.mul_one]) (HNW.out _ (Below.drew (Below.refl _ _))) (ints_oneCell q) (by unfold maxLen; omega) (by omega) (Nat.le_refl _) ?_
        intro v7 w7 own7 grow7 fresh7
        rw [Nat.zero_add, List.nil_append] at own7
        have G7 : wr.grownBy w7 none := ⟨grow7.os, grow7.tape, grow7.output, grow7.size, grow7.block⟩
        have B7 : Below wr.heap.size wr w7 := (Below.refl _ _).grown G7 (Nat.le_refl _) (by simp)
        obtain ⟨f7, c7⟩ := HFR.out w7 G7
        obtain ⟨va, vn, vc, rfl⟩ := own_sliceQ own7
        refine hK.out _ _ (Or.inr ⟨(two_cellsQ (box_stepQ HkB.out B7)).2.1, c7⟩) (fun hHeld => ?_)
        replace hHeld := hHeld.resolve_left (by decide)
        clear hK K
        try simp only [Act.put, List.setIfInBounds_toArray, List.set_cons_zero, List.set_cons_succ]
        refine wpAnyG_take (i := 10) (oi := ?oicl10) (v := .pointer (some ⟨R, k, none⟩)) ?hicl10 (by kernel_rfl) (by kernel_rfl) (by kernel_rfl) (by kernel_rfl) ?hqcl10 ?hycl10 hHeld ?hrcl10
        case hicl10 =>
          simp only [List.getElem?_toArray, List.getElem?_cons_succ, List.getElem?_cons_zero]
          rfl
        case hqcl10 => exact fun _ _ _ h => h
        case hycl10 => exact Or.inl ⟨by kernel_rfl, fun w hSw => by go_simp⟩
        try simp only [Act.put, List.setIfInBounds_toArray, List.set_cons_zero, List.set_cons_succ]
        refine wpAnyG_ready (rs := [11]) (by kernel_rfl) (by simp) ?_
        refine (AllReadyG.cons (o := ?oocl11) ?hocl11 (fun K hK => ?hkcl11) AllReadyG.nil)
        case hocl11 =>
          simp only [List.getElem?_toArray, List.getElem?_cons_succ, List.getElem?_cons_zero]
          rfl
        case hkcl11 =>
          go_simp
          try go_wp2_with fail
          refine hK.out _ _ (Or.inl rfl) (fun _ => ?_)
          clear hK K
          try simp only [Act.put, List.setIfInBounds_toArray, List.set_cons_zero, List.set_cons_succ]
          refine wpAnyG_done (by kernel_rfl) ?_ _
          have O7 := HkO.out.below B7
          have O8 := O7.put (j := k) (by simp; omega) (own_mono (base' := w.heap.size + 1 + 1) own7 (by have := (Array.getElem?_eq_some_iff.1 HkB.out).1; omega))
          rw [HTS.out] at O8
          have HO8 : Hid _ := O8
          have HP8 : Hid (ApartSS (us.set k (.slice va vn vc))) := apartSS_put HkP.out (fun i x b hi hx hxb hub => by have h1 := (own7.lt b hub).1; have h2 := (HkO.out.ltI (List.mem_of_getElem? hx) hxb).2; omega)
          have HN8 : Hid (∀ j u, k + 1 ≤ j → (us.set k (.slice va vn vc))[j]? = some u → u = .slice none 0 0) := fun j u hj hu => HkN.out j u (by omega) (by rw [List.getElem?_set_ne (by omega)] at hu; exact hu)
          have HA8 : Hid _ := (Below.heap_setCell w7 ⟨R, k, none⟩ (.slice va vn vc) w.heap.size (by simp; omega)).trans (box_stepQ HkA.out B7)
          have HR8 : Hid _ := (Below.heap_setCell w7 ⟨R, k, none⟩ (.slice va vn vc) (w.heap.size + 1) (by simp; omega)).trans (box_stepQ HkR.out B7)
          have HB8 : Hid _ := (Below.heap_setCell w7 ⟨R, k, none⟩ (.slice va vn vc) C (by simpa using hRC)).trans (box_stepQ HkB.out B7)
          have HL8 : Hid (Below w.heap.size w (w7.setCell ⟨R, k, none⟩ (.slice va vn vc))) := (HkL.out.trans (B7.mono HkL.out.size)).setCell (by simp; omega) _
          clear O7 O8 own7 grow7 fresh7 G7 B7 f7 c7 b0 b1 hkc p1
          generalize w7.setCell ⟨R, k, none⟩ (.slice va vn vc) = w8 at *
          go_wp2
          go_roundw
          case rel => exact ⟨k + 1, _, by omega, by go_num, HA8.out, HR8.out, HB8.out, HO8.out, HN8.out, HP8.out, HL8.out⟩
          case measure => simp [intOf]; omega
    · have hkk : k = X.length := by omega
      obtain ⟨b0, b1, -, -⟩ := two_cellsQ kB
      obtain ⟨r0, r1, x0, x1⟩ := two_cellsQ kR
      have R3 := two_setQ kR (.int .i64 t) (.slice (some ⟨R, 0, none⟩) X.length X.length)
      obtain ⟨y0, y1, _, _⟩ := two_cellsQ R3
      have HO : Hid (OwnSS wr (w.heap.size + 1 + 1) (.slice (some ⟨R, 0, none⟩) X.length X.length) us X) := by
        have := HkO.out
        rw [hkk, List.take_length, Nat.sub_self, List.replicate_zero, List.append_nil] at this
        exact this
      clear kA kR kB kO kN kP kL hkk
      go_wp2
      refine bodyPost_ret (v := .agg #[.int .i64 t, .slice (some ⟨R, 0, none⟩) X.length X.length]) (by simp [results, Try.results21, go_sem, y0, y1]) rfl ?_
      exact ⟨_, us, rfl, ((HO.out.set (by omega)).set (by omega)).mono (by omega), HkP.out, (HkL.out.setCell (by simp) _).setCell (by simp) _⟩

end Go.Proofs.Ytjlpjjddnkceoaa
