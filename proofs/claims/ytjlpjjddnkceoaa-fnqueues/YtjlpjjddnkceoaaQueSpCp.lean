/-
  Chapter 17: spec.l17Copy.
-/
import Derived.Test.YtjlpjjddnkceoaaQueCp
namespace Go.Proofs.Ytjlpjjddnkceoaa
open Go.RowKit
set_option linter.unusedVariables false
set_option linter.unusedSimpArgs false
set_option maxHeartbeats 8000000
set_option maxRecDepth 20000

theorem lit_cellsQ {w : World} {b : Nat} {x : Value} {T : TypeId} (h : w.heap[b]? = some (.cells #[x] T (0, 0))) : ∀ j u, [x][j]? = some u → w.cell? ((⟨b, 0, none⟩ : Addr).add j) = some u := by
  intro j u hu
  match j, hu with
  | 0, hu =>
    cases hu
    have : (⟨b, 0, none⟩ : Addr).add 0 = ⟨b, 0, none⟩ := by unfold Addr.add; split <;> simp_all
    rw [this]
    simp [World.cell?, h]

theorem row_not_box {w : World} {base s n b : Nat} {e : TypeId} {v : Value} {xs : List Value} {cs : Array Value} (h : w.ownsRow base e s v n xs) (hb : w.heap[b]? = some (.cells cs 26 (0, 0))) (hv : v.ownBlock = some b) (hne : e ≠ 26 := by decide) : False := by
  rcases h.2 with ⟨rfl, _⟩ | ⟨g, cap, cur, rfl, _, hg, _⟩
  · simp [Value.ownBlock] at hv
  · simp [Value.ownBlock] at hv
    subst hv
    rw [hg] at hb
    simp at hb
    exact hne hb.2

theorem l17Copy (t : Int) (X : List (List Int)) (v : Value) (w : World) (hl : X.length ≤ 1000) (h5 : ∀ x ∈ X, x.length ≤ 1000) (hv : ReadsSS w v X) :
    Calls Try.prog 24 #[.agg #[.int .i64 t, v]] w fun e w' => ∃ u us, e = .returned (.agg #[.int .i64 t, u]) ∧ OwnSS w' w.heap.size u us X ∧ ApartSS us ∧ Below w.heap.size w w' := by
  obtain ⟨i0, hi, hz0, hz1, hz2⟩ := info_parts infoSlice
  obtain ⟨j0, hj, hy0, hy1, hy2⟩ := info_parts infoInt
  obtain ⟨ao, cap, rfl, hc⟩ := hv
  go_enter Try.func24, Try.ntmps24
  go_wp2_with fail
  obtain ⟨W0, hW0⟩ : ∃ W0, ((w.alloc (.cells #[.int .i64 t, .slice ao X.length cap] 26)).alloc (.cells #[.int .i64 0, .slice none 0 0] 26)).alloc (.cells #[.int .i64 t, .slice none 0 0] 26) = W0 := ⟨_, rfl⟩
  have L0 : Hid (Below w.heap.size w W0) := by show Below w.heap.size w W0; rw [← hW0]; go_grown
  have hA0 : W0.heap[w.heap.size]? = some (.cells #[.int .i64 t, .slice ao X.length cap] 26 (0, 0)) := by
    rw [← hW0, old_block (by simp; omega), old_block (by simp)]; exact heap_alloc_new w _
  have hR0 : Hid (W0.heap[w.heap.size + 1]? = some (.cells #[.int .i64 0, .slice none 0 0] 26 (0, 0))) := by
    show W0.heap[w.heap.size + 1]? = _
    rw [← hW0, old_block (by simp)]
    have := heap_alloc_new (w.alloc (.cells #[.int .i64 t, .slice ao X.length cap] 26)) (.cells #[.int .i64 0, .slice none 0 0] 26)
    simpa using this
  have hC0 : Hid (W0.heap[w.heap.size + 1 + 1]? = some (.cells #[.int .i64 t, .slice none 0 0] 26 (0, 0))) := by
    show W0.heap[w.heap.size + 1 + 1]? = _
    rw [← hW0]
    have := heap_alloc_new ((w.alloc (.cells #[.int .i64 t, .slice ao X.length cap] 26)).alloc (.cells #[.int .i64 0, .slice none 0 0] 26)) (.cells #[.int .i64 t, .slice none 0 0] 26)
    simpa using this
  have HA0 : Hid _ := hA0
  clear hA0
  rw [hW0]
  obtain ⟨C, hC⟩ : ∃ C, w.heap.size + 1 + 1 = C := ⟨_, rfl⟩
  rw [hC] at hC0 ⊢
  have hC1 : w.heap.size + 1 < C := by omega
  clear hW0
  go_loopw [4] (fun i wr => ∃ (k : Nat) (us : List Value) (la : Option Addr) (ln lc : Nat), k ≤ X.length ∧ i = .int .i64 k ∧ wr.heap[w.heap.size]? = some (.cells #[.int .i64 t, .slice ao X.length cap] 26 (0, 0)) ∧ wr.heap[w.heap.size + 1]? = some (.cells #[.int .i64 0, .slice none 0 0] 26 (0, 0)) ∧ wr.heap[C]? = some (.cells #[.int .i64 t, .slice la ln lc] 26 (0, 0)) ∧
      OwnSS wr (w.heap.size + 1 + 1) (.slice la ln lc) us (X.take k) ∧ ApartSS us ∧ Below w.heap.size w wr) (fun i _ => X.length - (intOf i).toNat)
  case atStart => exact ⟨0, [], none, 0, 0, Nat.zero_le _, rfl, HA0.out, hR0.out, hC0.out, by simpa using nilS W0 (w.heap.size + 1 + 1), apartSS_nil, L0.out⟩
  case round =>
    obtain ⟨k, us, la, ln, lc, hk, rfl, kA, kR, kB, kO, kP, kL⟩ := hrel
    clear HA0 hR0 hC0 L0
    have HkA : Hid _ := kA
    have HkR : Hid _ := kR
    have HkB : Hid _ := kB
    have HkO : Hid _ := kO
    have HkP : Hid _ := kP
    have HkL : Hid _ := kL
    obtain ⟨-, a1, -, -⟩ := two_cellsQ kA
    by_cases hlt : k < X.length
    · have hlt' : (k : Int) < (X.length : Int) := by omega
      obtain ⟨g, off, u0, rfl, p0, r0⟩ := hc k X[k] (by simp [hlt])
      have pl := h5 X[k] (List.getElem_mem hlt)
      have p1 := (kL.cell (World.block_lt_of_cell? w _ p0)).trans p0
      have HGW : Hid (g < w.heap.size) := World.block_lt_of_cell? w _ p0
      have r1 := reads_below r0 kL
      obtain ⟨ua, uc, rfl, hcu⟩ := id r1
      rw [ints_length] at p1
      obtain ⟨b0, b1, -, -⟩ := two_cellsQ kB
      have hnews : ∀ W, Below wr.heap.size wr W → 0 < X[k].length → ∃ ad, ua = some ad ∧ ∀ j u, (ints X[k])[j]? = some u → W.cell? (ad.add j) = some u := fun W hW h0 => by
        obtain ⟨g9, o9, e9, _⟩ := hcu 0 (.int .i64 X[k][0]) (by simp [ints, h0])
        refine ⟨_, e9, fun j u hu => ?_⟩
        obtain ⟨g8, o8, e8, h8⟩ := hcu j u hu
        rw [e9] at e8
        cases e8
        have : (⟨g9, o9, none⟩ : Addr).add j = ⟨g9, o9 + j, none⟩ := by unfold Addr.add; split <;> simp_all
        rw [this, hW.cell (World.block_lt_of_cell? wr _ h8)]
        exact h8
      have HTS : Hid (X.take (k + 1) = X.take k ++ [X[k]]) := List.take_succ_eq_append_getElem hlt
      have HNW : Hid _ := hnews
      clear kA kR kB kO kP kL hnews hcu r0 r1 p0
      generalize hq : X[k] = q at *
      clear hq
      go_wp2_with fail
      refine wp_region_late (S := fun w' => w'.cell? ⟨C, 1, none⟩ = some (.slice la ln lc) ∧ w'.cell? ⟨w.heap.size, 1, none⟩ = some (.slice (some ⟨g, off, none⟩) X.length cap) ∧ w'.cell? ⟨g, off + k, none⟩ = some (.slice ua q.length uc)) (late := fun j => j == 12) (by kernel_rfl) ⟨b1, a1, p1⟩ (fun hHeld => ?_)
      refine wpAnyG_take (i := 0) (oi := ?oicl0) (v := .pointer (some ⟨C, 1, none⟩)) ?hicl0 (by kernel_rfl) (by kernel_rfl) (by kernel_rfl) (by kernel_rfl) ?hqcl0 ?hycl0 hHeld ?hrcl0
      case hicl0 =>
        simp only [List.getElem?_toArray, List.getElem?_cons_succ, List.getElem?_cons_zero]
        rfl
      case hqcl0 => exact fun _ _ _ h => h
      case hycl0 => exact Or.inl ⟨by kernel_rfl, fun w hSw => by go_simp⟩
      try simp only [Act.put, List.setIfInBounds_toArray, List.set_cons_zero, List.set_cons_succ]
      refine wpAnyG_take (i := 1) (oi := ?oicl1) (v := .slice la ln lc) ?hicl1 (by kernel_rfl) (by kernel_rfl) (by kernel_rfl) (by kernel_rfl) ?hqcl1 ?hycl1 hHeld ?hrcl1
      case hicl1 =>
        simp only [List.getElem?_toArray, List.getElem?_cons_succ, List.getElem?_cons_zero]
        rfl
      case hqcl1 => exact fun _ _ _ h => h
      case hycl1 => exact Or.inl ⟨by kernel_rfl, fun w hSw => by obtain ⟨s0, s1, s2⟩ := hSw; go_simp⟩
      try simp only [Act.put, List.setIfInBounds_toArray, List.set_cons_zero, List.set_cons_succ]
      refine wpAnyG_take (i := 3) (oi := ?oicl3) (v := .pointer (some ⟨w.heap.size, 1, none⟩)) ?hicl3 (by kernel_rfl) (by kernel_rfl) (by kernel_rfl) (by kernel_rfl) ?hqcl3 ?hycl3 hHeld ?hrcl3
      case hicl3 =>
        simp only [List.getElem?_toArray, List.getElem?_cons_succ, List.getElem?_cons_zero]
        rfl
      case hqcl3 => exact fun _ _ _ h => h
      case hycl3 => exact Or.inl ⟨by kernel_rfl, fun w hSw => by go_simp⟩
      try simp only [Act.put, List.setIfInBounds_toArray, List.set_cons_zero, List.set_cons_succ]
      refine wpAnyG_take (i := 4) (oi := ?oicl4) (v := .slice (some ⟨g, off, none⟩) X.length cap) ?hicl4 (by kernel_rfl) (by kernel_rfl) (by kernel_rfl) (by kernel_rfl) ?hqcl4 ?hycl4 hHeld ?hrcl4
      case hicl4 =>
        simp only [List.getElem?_toArray, List.getElem?_cons_succ, List.getElem?_cons_zero]
        rfl
      case hqcl4 => exact fun _ _ _ h => h
      case hycl4 => exact Or.inl ⟨by kernel_rfl, fun w hSw => by obtain ⟨s0, s1, s2⟩ := hSw; go_simp⟩
      try simp only [Act.put, List.setIfInBounds_toArray, List.set_cons_zero, List.set_cons_succ]
      refine wpAnyG_take (i := 5) (oi := ?oicl5) (v := .int .i64 (k : Int)) ?hicl5 (by kernel_rfl) (by kernel_rfl) (by kernel_rfl) (by kernel_rfl) ?hqcl5 ?hycl5 hHeld ?hrcl5
      case hicl5 =>
        simp only [List.getElem?_toArray, List.getElem?_cons_succ, List.getElem?_cons_zero]
        rfl
      case hqcl5 => exact fun _ _ _ h => h
      case hycl5 => exact Or.inl ⟨by kernel_rfl, fun w hSw => by go_simp⟩
      try simp only [Act.put, List.setIfInBounds_toArray, List.set_cons_zero, List.set_cons_succ]
      refine wpAnyG_take (i := 6) (oi := ?oicl6) (v := .pointer (some ⟨g, off + k, none⟩)) ?hicl6 (by kernel_rfl) (by kernel_rfl) (by kernel_rfl) (by kernel_rfl) ?hqcl6 ?hycl6 hHeld ?hrcl6
      case hicl6 =>
        simp only [List.getElem?_toArray, List.getElem?_cons_succ, List.getElem?_cons_zero]
        rfl
      case hqcl6 => exact fun _ _ _ h => h
      case hycl6 => exact Or.inl ⟨by kernel_rfl, fun w hSw => by go_simp⟩
      try simp only [Act.put, List.setIfInBounds_toArray, List.set_cons_zero, List.set_cons_succ]
      refine wpAnyG_take (i := 7) (oi := ?oicl7) (v := .slice ua q.length uc) ?hicl7 (by kernel_rfl) (by kernel_rfl) (by kernel_rfl) (by kernel_rfl) ?hqcl7 ?hycl7 hHeld ?hrcl7
      case hicl7 =>
        simp only [List.getElem?_toArray, List.getElem?_cons_succ, List.getElem?_cons_zero]
        rfl
      case hqcl7 => exact fun _ _ _ h => h
      case hycl7 => exact Or.inl ⟨by kernel_rfl, fun w hSw => by obtain ⟨s0, s1, s2⟩ := hSw; go_simp⟩
      try simp only [Act.put, List.setIfInBounds_toArray, List.set_cons_zero, List.set_cons_succ]
      refine wpAnyG_ready (rs := [2]) (by kernel_rfl) (by simp) ?_
      refine (AllReadyG.cons (o := ?oocl2) ?hocl2 (fun K hK => ?hkcl2) AllReadyG.nil)
      case hocl2 =>
        simp only [List.getElem?_toArray, List.getElem?_cons_succ, List.getElem?_cons_zero]
        rfl
      case hkcl2 =>
        go_simp
        try go_wp2_with fail
        have Ba : Hid (Below wr.heap.size wr (wr.drew.alloc (.cells #[] 2))) := Below.alloc (Below.drew (Below.refl _ _)) (Nat.le_refl _) _
        have Va : Hid ((wr.drew.alloc (.cells #[] 2)).ownsRow wr.heap.size 2 1 (.slice (some ⟨wr.heap.size, 0, none⟩) 0 0) 0 []) := World.ownsRow_made wr.drew #[] 0 (Nat.le_refl _) (by decide) (by simp)
        refine hK.out _ _ (Or.inr ⟨(two_cellsQ (box_stepQ HkB.out Ba.out)).2.1, (two_cellsQ (box_stepQ HkA.out Ba.out)).2.1, (Ba.out.cell (World.block_lt_of_cell? wr _ p1)).trans p1⟩) (fun hHeld => ?_)
        replace hHeld := hHeld.resolve_left (by decide)
        clear hK K
        try simp only [Act.put, List.setIfInBounds_toArray, List.set_cons_zero, List.set_cons_succ]
        refine wpAnyG_ready (rs := [8]) (by kernel_rfl) (by simp) ?_
        refine (AllReadyG.cons (o := ?oocl8) ?hocl8 (fun K hK => ?hkcl8) AllReadyG.nil)
        case hocl8 =>
          simp only [List.getElem?_toArray, List.getElem?_cons_succ, List.getElem?_cons_zero]
          rfl
        case hkcl8 =>
          refine step_append_anyQ _ rfl (.tmp 17) (.tmp 22) 33 rfl wr.heap.size 2 j0 (.int .i64 0) 1 8 Try.underlying33 hj hy0 hy1 hy2 rfl (by decide) (.slice (some ⟨wr.heap.size, 0, none⟩) 0 0) 0 [] rfl Va.out ua q.length uc (ints q) rfl (by rw [ints_length, Nat.mul_one]) (HNW.out _ Ba.out) (ints_oneCell q) (by unfold maxLen; omega) (by omega) Ba.out.size ?_
          intro v7 w7 own7 grow7 fresh7
          rw [Nat.zero_add, List.nil_append] at own7
          have B7 : Hid (Below wr.heap.size wr w7) := Ba.out.grown grow7 Ba.out.size (fun k hk => by simp [Value.ownBlock] at hk; omega)
          obtain ⟨va, vn, vc, rfl⟩ := own_sliceQ own7
          have V7 : Hid (w7.ownsRow wr.heap.size 2 1 (.slice va vn vc) q.length (ints q)) := own7
          clear own7 grow7 fresh7
          refine hK.out _ _ (Or.inr ⟨(two_cellsQ (box_stepQ HkB.out B7.out)).2.1, (two_cellsQ (box_stepQ HkA.out B7.out)).2.1, (B7.out.cell (World.block_lt_of_cell? wr _ p1)).trans p1⟩) (fun hHeld => ?_)
          replace hHeld := hHeld.resolve_left (by decide)
          clear hK K
          try simp only [Act.put, List.setIfInBounds_toArray, List.set_cons_zero, List.set_cons_succ]
          refine wpAnyG_ready (rs := [9]) (by kernel_rfl) (by simp) ?_
          refine (AllReadyG.cons (o := ?oocl9) ?hocl9 (fun K hK => ?hkcl9) AllReadyG.nil)
          case hocl9 =>
            simp only [List.getElem?_toArray, List.getElem?_cons_succ, List.getElem?_cons_zero]
            rfl
          case hkcl9 =>
            go_simp
            try go_wp2_with fail
            have B9 : Hid (Below wr.heap.size wr (w7.alloc (.cells #[.slice va vn vc] 33))) := B7.out.alloc B7.out.size _
            have L9 : Hid _ := heap_alloc_new w7 (.cells #[.slice va vn vc] 33)
            have HR9 : Hid _ := (HkO.out.below B9.out).row
            have HV9 : Hid _ := V7.out.alloc (.cells #[.slice va vn vc] 33)
            refine hK.out _ _ (Or.inr ⟨(two_cellsQ (box_stepQ HkB.out B9.out)).2.1, (two_cellsQ (box_stepQ HkA.out B9.out)).2.1, (B9.out.cell (World.block_lt_of_cell? wr _ p1)).trans p1⟩) (fun hHeld => ?_)
            replace hHeld := hHeld.resolve_left (by decide)
            clear hK K
            try simp only [Act.put, List.setIfInBounds_toArray, List.set_cons_zero, List.set_cons_succ]
            refine wpAnyG_ready (rs := [10]) (by kernel_rfl) (by simp) ?_
            refine (AllReadyG.cons (o := ?oocl10) ?hocl10 (fun K hK => ?hkcl10) AllReadyG.nil)
            case hocl10 =>
              simp only [List.getElem?_toArray, List.getElem?_cons_succ, List.getElem?_cons_zero]
              rfl
            case hkcl10 =>
              refine step_append_anyQ _ rfl (.tmp 16) (.tmp 24) 24 rfl (w.heap.size + 1 + 1) 33 i0 (.slice none 0 0) 1 24 Try.underlying24 hi hz0 hz1 hz2 rfl (by decide) (.slice la ln lc) (X.take k).length us rfl HR9.out (some ⟨w7.heap.size, 0, none⟩) 1 1 [.slice va vn vc] rfl rfl (fun _ => ⟨_, rfl, lit_cellsQ L9.out⟩) (by simp [Value.oneCell']) (by unfold maxLen; simp; omega) (by simp; omega) (by have h1 := B9.out.size; have h2 := (Array.getElem?_eq_some_iff.1 HkB.out).1; omega) ?_
              intro v8 w8 own8 grow8 fresh8
              obtain ⟨pa, pn, pc, rfl⟩ := own_sliceQ own8
              have N8 : ∀ b, b < wr.heap.size → (∀ x, (Value.slice la ln lc).ownBlock = some x → x ≠ b) → w8.heap[b]? = wr.heap[b]? := fun b hb hne => (grow8.block b (Nat.lt_of_lt_of_le hb B9.out.size) (fun e => hne b e.symm rfl)).trans (B9.out.block b hb)
              have K8 : Hid (w8.heap[C]? = some (.cells #[.int .i64 t, .slice la ln lc] 26 (0, 0))) := (N8 C (Array.getElem?_eq_some_iff.1 HkB.out).1 (fun x hx e => by subst e; exact row_not_box HkO.out.row HkB.out hx)).trans HkB.out
              have K9 : Hid (w8.heap[w.heap.size]? = some (.cells #[.int .i64 t, .slice (some ⟨g, off, none⟩) X.length cap] 26 (0, 0))) := (N8 _ (Array.getElem?_eq_some_iff.1 HkA.out).1 (fun x hx e => by have := (HkO.out.row.lt x hx).1; omega)).trans HkA.out
              have K10 : Hid (w8.heap[w.heap.size + 1]? = some (.cells #[.int .i64 0, .slice none 0 0] 26 (0, 0))) := (N8 _ (Array.getElem?_eq_some_iff.1 HkR.out).1 (fun x hx e => by have := (HkO.out.row.lt x hx).1; omega)).trans HkR.out
              have O8 : Hid (OwnSS w8 (w.heap.size + 1 + 1) (.slice pa pn pc) (us ++ [.slice va vn vc]) (X.take k ++ [q])) := OwnSS.appended (HkO.out.below B9.out) (own_mono HV9.out (by have h2 := (Array.getElem?_eq_some_iff.1 HkB.out).1; omega)) (by simpa using own8) grow8
              have P8 : Hid (ApartSS (us ++ [.slice va vn vc])) := apartSS_snoc HkP.out (fun x hx b hb => (HkO.out.ltI hx hb).2) (fun b hb => (V7.out.lt b hb).1)
              have Q8 : Hid (Below w.heap.size w w8) := (HkL.out.trans (B9.out.mono HkL.out.size)).grown grow8 (by have h1 := B9.out.size; have h2 := HkL.out.size; omega) (fun x hx => by have := (HkO.out.row.lt x hx).1; omega)
              have c81 := (two_cellsQ K8.out).2.1
              have c82 := (two_cellsQ K9.out).2.1
              have c83 : w8.cell? ⟨g, off + k, none⟩ = some (.slice ua q.length uc) := (World.cell?_of_block (N8 g (World.block_lt_of_cell? wr _ p1) (fun x hx e => by have := (HkO.out.row.lt x hx).1; have := HGW.out; omega))).trans p1
              obtain ⟨-, -, -, f81⟩ := two_cellsQ K8.out
              clear own8 grow8 fresh8 N8
              refine hK.out _ _ (Or.inr ⟨c81, c82, c83⟩) (fun hHeld => ?_)
              replace hHeld := hHeld.resolve_left (by decide)
              clear hK K
              try simp only [Act.put, List.setIfInBounds_toArray, List.set_cons_zero, List.set_cons_succ]
              refine wpAnyG_take (i := 11) (oi := ?oicl11) (v := .pointer (some ⟨C, 1, none⟩)) ?hicl11 (by kernel_rfl) (by kernel_rfl) (by kernel_rfl) (by kernel_rfl) ?hqcl11 ?hycl11 hHeld ?hrcl11
              case hicl11 =>
                simp only [List.getElem?_toArray, List.getElem?_cons_succ, List.getElem?_cons_zero]
                rfl
              case hqcl11 => exact fun _ _ _ h => h
              case hycl11 => exact Or.inl ⟨by kernel_rfl, fun w hSw => by go_simp⟩
              try simp only [Act.put, List.setIfInBounds_toArray, List.set_cons_zero, List.set_cons_succ]
              refine wpAnyG_ready (rs := [12]) (by kernel_rfl) (by simp) ?_
              refine (AllReadyG.cons (o := ?oocl12) ?hocl12 (fun K hK => ?hkcl12) AllReadyG.nil)
              case hocl12 =>
                simp only [List.getElem?_toArray, List.getElem?_cons_succ, List.getElem?_cons_zero]
                rfl
              case hkcl12 =>
                go_simp
                try go_wp2_with fail
                refine hK.out _ _ (Or.inl rfl) (fun _ => ?_)
                clear hK K
                try simp only [Act.put, List.setIfInBounds_toArray, List.set_cons_zero, List.set_cons_succ]
                refine wpAnyG_done (by kernel_rfl) ?_ _
                have HA8 : Hid _ := (Below.heap_setCell w8 ⟨C, 1, none⟩ (.slice pa pn pc) w.heap.size (by simp; omega)).trans K9.out
                have HR8 : Hid _ := (Below.heap_setCell w8 ⟨C, 1, none⟩ (.slice pa pn pc) (w.heap.size + 1) (by simp; omega)).trans K10.out
                have HB8 : Hid ((w8.setCell ⟨C, 1, none⟩ (.slice pa pn pc)).heap[C]? = some (.cells #[.int .i64 t, .slice pa pn pc] 26 (0, 0))) := by have h9 := heap_setCell_same w8 C 1 _ _ (.slice pa pn pc) K8.out; show (w8.setCell ⟨C, 1, none⟩ (.slice pa pn pc)).heap[C]? = _; simpa using h9
                have HL8 : Hid (Below w.heap.size w (w8.setCell ⟨C, 1, none⟩ (.slice pa pn pc))) := Q8.out.setCell (by simp; omega) _
                have HO8 : Hid (OwnSS (w8.setCell ⟨C, 1, none⟩ (.slice pa pn pc)) (w.heap.size + 1 + 1) (.slice pa pn pc) (us ++ [.slice va vn vc]) (X.take (k + 1))) := by rw [HTS.out]; exact O8.out.same (fun b hb => Below.heap_setCell _ _ _ _ (fun e => row_not_box O8.out.row K8.out (by rw [hb]; simp [e]))) (fun u hu b hb => Below.heap_setCell _ _ _ _ (fun e => by obtain ⟨xs, _, ho⟩ := O8.out.inner hu; exact row_not_box ho K8.out (by rw [hb]; simp [e])))
                clear K8 K9 K10 O8 Q8 c81 c82 c83 f81 V7 B7 B9 HR9 HV9 L9 Ba Va a1 b0 b1 p1
                generalize w8.setCell ⟨C, 1, none⟩ (.slice pa pn pc) = w10 at *
                go_wp2
                go_roundw
                case rel => exact ⟨k + 1, _, _, _, _, by omega, by go_num, HA8.out, HR8.out, HB8.out, HO8.out, P8.out, HL8.out⟩
                case measure => simp [intOf]; omega
    · have hkk : k = X.length := by omega
      obtain ⟨b0, b1, -, -⟩ := two_cellsQ kB
      obtain ⟨r0, r1, x0, x1⟩ := two_cellsQ kR
      have R3 := two_setQ kR (.int .i64 t) (.slice la ln lc)
      obtain ⟨y0, y1, _, _⟩ := two_cellsQ R3
      have HO : Hid (OwnSS wr (w.heap.size + 1 + 1) (.slice la ln lc) us X) := by
        have := HkO.out
        rw [hkk, List.take_length] at this
        exact this
      clear kA kR kB kO kP kL hkk
      go_wp2
      refine bodyPost_ret (v := .agg #[.int .i64 t, .slice la ln lc]) (by simp [results, Try.results24, go_sem, y0, y1]) rfl ?_
      exact ⟨_, us, rfl, ((HO.out.set (by omega)).set (by omega)).mono (by omega), HkP.out, (HkL.out.setCell (by simp) _).setCell (by simp) _⟩

end Go.Proofs.Ytjlpjjddnkceoaa
