/-
  Chapter 10, the specification's side: l10Table, l10Round, l10Like, l10Tables.
-/
import Derived.Test.YtnjbihfceckpfaaSpecInner
namespace Go.Proofs.Ytnjbihfceckpfaa
open Go.RowKit
set_option linter.unusedVariables false
set_option linter.unusedSimpArgs false
set_option maxHeartbeats 4000000
set_option maxRecDepth 20000

theorem l10Table (ss : List Stm) (R : List (List Int)) (v rv : Value) (w : World) (hl : ss.length ≤ 12) (hlen : R.length = ss.length) (hR : GoodN ss.length R) (hv : Reads3 w v ss) (hr : ReadsSS w rv R) :
    Calls Try.prog 103 #[.agg #[v], rv] w fun e w' => ∃ a, e = .returned a ∧ w'.ownsRow w.heap.size 2 1 a 7 (ints (backs ss R)) ∧ Below w.heap.size w w' := by
  obtain ⟨i0, hi0, hz0, hz1, hz2⟩ := info_parts infoInt
  have hb8 : i0.bytes * 7 ≤ 281474976710656 := by rw [hz2]; omega
  have hmx : (7 : Nat) ≤ maxLen := by unfold maxLen; omega
  obtain ⟨ao, cap, rfl, hcell⟩ := hv
  obtain ⟨ro, rc, rfl, hrc⟩ := id hr
  have hb0 : Below w.heap.size w (w.alloc (.cells #[.slice ao ss.length cap] 81)) := by go_grown
  have hw0 : w.heap.size ≤ (w.alloc (.cells #[.slice ao ss.length cap] 81)).heap.size := by simp
  go_enter Try.func103, Try.ntmps103
  go_wp2_with (at_make; refine wpList_make_full _ rfl _ _ 26 rfl w.heap.size 2 i0 (.int .i64 0) 1 Try.underlying26 hi0 hz0 hz1 .i64 .i64 7 7 7 rfl rfl rfl rfl hb8 hmx hw0 ?_; intro w1 own1 grow1; rw [made7] at own1)
  have B1 : Below w.heap.size w w1 := hb0.grown grow1 hb0.size (by simp)
  have P1 : w1.heap[w.heap.size]? = some (.cells #[.slice ao ss.length cap] 81 (0, 0)) := (grow1.block _ (by simp) (by simp)).trans (heap_alloc_new w _)
  have HO1 : Hid (w1.ownsRow w.heap.size 2 1 (.slice (some ⟨w.heap.size + 1, 0, none⟩) 7 7) 7 (ints zero7)) := by
    have h := own1
    simp only [World.alloc, Array.size_push] at h
    exact h
  clear own1 grow1 hb0 hw0
  go_loopw [5, 6] (fun t i wr => ∃ k : Nat, k ≤ ss.length ∧ i = .int .i64 k ∧ wr.ownsRow w.heap.size 2 1 t 7 (ints (backsK ss R k)) ∧ wr.heap[w.heap.size]? = some (.cells #[.slice ao ss.length cap] 81 (0, 0)) ∧ Below w.heap.size w wr) (fun _ i _ => ss.length - (intOf i).toNat)
  case atStart => exact ⟨0, Nat.zero_le _, rfl, HO1.out, P1, B1⟩
  case round =>
    obtain ⟨k, hk, rfl, O, P, B⟩ := hrel
    clear HO1 P1 B1
    obtain ⟨c0, f0⟩ := one_cell P
    obtain ⟨gt, ct, rfl⟩ := own_form O (by omega)
    have HO : Hid (wr.ownsRow w.heap.size 2 1 (.slice (some ⟨gt, 0, none⟩) 7 ct) 7 (ints (backsK ss R k))) := O
    have HP : Hid _ := P
    clear O P
    by_cases hlt : k < ss.length
    · have hlt' : (k : Int) < (ss.length : Int) := by omega
      obtain ⟨gs, off, rfl, k0, -, -⟩ := hcell k ss[k] (by simp [hlt])
      have k0 := (B.cell (World.block_lt_of_cell? w _ k0)).trans k0
      have hbk : backsK ss R (k + 1) = if ss[k].k = 9 then joi (backsK ss R k) (R.getD k []) else backsK ss R k := by
        rw [backsK]; simp [List.getD, hlt]
      have hrk := readsSS_at (readsSS_below hr B) (y := k) (by omega)
      obtain ⟨gr, offr, ur, rfl, c1, hur⟩ := hrk
      have hlr : (k : Int) < (R.length : Int) := by omega
      by_cases h9 : ss[k].k = 9
      · rw [if_pos h9] at hbk
        rw [h9] at k0
        have HB : Hid _ := hbk
        have hbS := backsK_smalls hR k hk
        have hjo := l6Join (backsK ss R k) (R.getD k []) _ ur wr hbS (hR k hlt) (reads_own HO.out) hur
        rw [(joi_smalls hbS (hR k hlt)).1] at hjo
        clear hbk h9
        go_wp2_with (go_at_call 101; refine hjo.mono ?_; rintro e w2 ⟨a2, rfl, o2, b2⟩)
        go_roundw
        case rel =>
          refine ⟨k + 1, by omega, by go_num, ?_, (b2.block _ (Array.getElem?_eq_some_iff.1 HP.out).1).trans HP.out, B.trans (b2.mono B.size)⟩
          rw [HB.out]
          exact own_mono o2 B.size
        case measure => simp [intOf]; omega
      · rw [if_neg h9] at hbk
        have HB : Hid _ := hbk
        generalize ss[k].k = kk at *
        clear hbk
        go_wp2
        go_roundw
        case rel =>
          refine ⟨k + 1, by omega, by go_num, ?_, HP.out, B⟩
          rw [HB.out]
          exact HO.out
        case measure => simp [intOf]; omega
    · have hkk : k = ss.length := by omega
      subst hkk
      go_wp2
      go_ret
      exact ⟨_, rfl, HO.out, B⟩

theorem l10Like (T U : List (List Int)) (v u : Value) (w : World) (hT : ∀ xs ∈ T, xs.length ≤ maxLen) (hU : ∀ xs ∈ U, xs.length ≤ maxLen) (hl : T.length ≤ 12) (hlen : U.length = T.length) (hv : ReadsSS w v T) (hu : ReadsSS w u U) :
    Calls Try.prog 73 #[v, u] w fun e w' => e = .returned (.bool (decide (T = U))) ∧ Below w.heap.size w w' := by
  obtain ⟨vo, vc, rfl, hvc⟩ := id hv
  obtain ⟨uo, uc, rfl, huc⟩ := id hu
  have HL : Hid _ := hlen
  clear hlen
  go_enter Try.func73, Try.ntmps73
  go_wp2_with fail
  go_loopw [5] (fun i wr => ∃ k : Nat, k ≤ T.length ∧ i = .int .i64 k ∧ T.take k = U.take k ∧ Below w.heap.size w wr) (fun i _ => T.length - (intOf i).toNat)
  case atStart => exact ⟨0, Nat.zero_le _, rfl, by simp, Below.refl _ _⟩
  case round =>
    obtain ⟨k, hk, rfl, htk, B⟩ := hrel
    by_cases hlt : k < T.length
    · have hlt' : (k : Int) < (T.length : Int) := by omega
      have hlu : k < U.length := by rw [HL.out]; exact hlt
      have hlu' : (k : Int) < (U.length : Int) := by omega
      obtain ⟨gv, ov, xv, rfl, c1, h1⟩ := readsSS_at (readsSS_below hv B) hlt
      obtain ⟨gu, ou, xu, rfl, c2, h2⟩ := readsSS_at (readsSS_below hu B) hlu
      have hli := fun W (hW : Below wr.heap.size wr W) => l1Like (T.getD k []) (U.getD k []) xv xu W (by rw [show T.getD k [] = T[k] from by simp [List.getD, hlt]]; exact hT _ (List.getElem_mem _)) (by rw [show U.getD k [] = U[k] from by simp [List.getD, hlu]]; exact hU _ (List.getElem_mem _)) (reads_below h1 hW) (reads_below h2 hW)
      have HE : Hid (T.getD k [] = U.getD k [] → T.take (k + 1) = U.take (k + 1)) := fun e => by
        rw [List.take_succ_eq_append_getElem hlt, List.take_succ_eq_append_getElem hlu, htk]
        congr 2
        simpa [List.getD, hlt, hlu] using e
      have HN : Hid (T.getD k [] ≠ U.getD k [] → T ≠ U) := fun h e => h (by rw [e])
      have z1 := World.block_lt_of_cell? wr _ c1
      have z2 := World.block_lt_of_cell? wr _ c2
      have HB : Hid _ := B
      clear htk h1 h2 hvc huc hv hu B
      generalize T.getD k [] = t at *
      generalize U.getD k [] = u at *
      by_cases hq : t = u
      · rw [decide_eq_true hq] at hli
        go_wp2_with fail
        go_region_held3 (fun w' => w'.cell? ⟨gv, ov + k, none⟩ = some xv ∧ w'.cell? ⟨gu, ou + k, none⟩ = some xu) (first | exact ⟨c1, c2⟩ | exact ⟨(q4 _ _ z1).trans c1, (q4 _ _ z2).trans c2⟩) (first
          | (go_at_call 102; refine (hli _ (by go_grown)).mono ?_; rintro e w4 ⟨rfl, b4⟩; have L4 : Below wr.heap.size wr w4 := Below.trans (by go_grown) b4; obtain ⟨q4, -⟩ := bcell L4))
        go_wp2
        go_roundw
        case rel => exact ⟨k + 1, by omega, by go_num, HE.out hq, HB.out.trans (L4.mono HB.out.size)⟩
        case measure => simp [intOf]; omega
      · rw [decide_eq_false hq] at hli
        go_wp2_with fail
        go_region_held3 (fun w' => w'.cell? ⟨gv, ov + k, none⟩ = some xv ∧ w'.cell? ⟨gu, ou + k, none⟩ = some xu) (first | exact ⟨c1, c2⟩ | exact ⟨(q4 _ _ z1).trans c1, (q4 _ _ z2).trans c2⟩) (first
          | (go_at_call 102; refine (hli _ (by go_grown)).mono ?_; rintro e w4 ⟨rfl, b4⟩; have L4 : Below wr.heap.size wr w4 := Below.trans (by go_grown) b4; obtain ⟨q4, -⟩ := bcell L4))
        go_wp2
        go_ret
        exact ⟨by rw [decide_eq_false (HN.out hq)]; rfl, HB.out.trans (L4.mono HB.out.size)⟩
    · have hkk : k = T.length := by omega
      subst hkk
      rw [List.take_length, ← HL.out, List.take_length] at htk
      have HT : Hid _ := htk
      have hlen' : (T.length : Int) = (U.length : Int) := by rw [HL.out]
      clear htk
      go_wp2
      go_ret
      exact ⟨by rw [decide_eq_true HT.out]; rfl, B⟩

theorem getD_snoc (X : List (List Int)) (r : List Int) : (X ++ [r]).getD X.length [] = r := by
  rw [List.getD_eq_getElem?_getD, List.getElem?_append_right (Nat.le_refl _)]; simp

/-- What l10Round has in hand. -/
structure RS (v : Value) (w : World) (ov : Value) (us : List Value) (xss : List (List Int)) (wr : World) : Prop where
  o : OwnSS wr (w.heap.size + 1) ov us xss
  bl : Below w.heap.size w wr
  p : wr.heap[w.heap.size]? = some (.cells #[v] 30 (0, 0))

theorem RS.below {v : Value} {w : World} {ov : Value} {us : List Value} {xss : List (List Int)} {wr wr' : World} (h : RS v w ov us xss wr) (hb : Below wr.heap.size wr wr') : RS v w ov us xss wr' where
  o := h.o.below hb
  bl := h.bl.trans (hb.mono h.bl.size)
  p := (hb.block _ (Array.getElem?_eq_some_iff.1 h.p).1).trans h.p

theorem RS.app {v : Value} {w : World} {ov v' u : Value} {us : List Value} {xss : List (List Int)} {xs : List Int} {W w' : World} (h : RS v w ov us xss W) (hu : W.ownsRow (w.heap.size + 1) 2 1 u xs.length (ints xs))
    (hr : w'.ownsRow (w.heap.size + 1) 26 1 v' (xss.length + 1) (us ++ [u])) (hg : W.grownBy w' ov.ownBlock) : RS v w v' (us ++ [u]) (xss ++ [xs]) w' where
  o := h.o.appended hu hr hg
  bl := h.bl.grown hg h.bl.size (fun k e => by have := (h.o.row.lt k e).1; omega)
  p := (hg.block _ (Array.getElem?_eq_some_iff.1 h.p).1 (fun e => by have := (h.o.row.lt _ e.symm).1; omega)).trans h.p

theorem readsP_at {w : World} {ao : Option Addr} {n cap : Nat} {ps : List (List Stm)} (h : ReadsP w (.slice ao n cap) ps) {y : Nat} (hy : y < ps.length) : ∃ g off u, ao = some ⟨g, off, none⟩ ∧ w.cell? ⟨g, off + y, none⟩ = some u ∧ Reads3 w u ps[y] := by
  obtain ⟨ao', cap', e, hc⟩ := h
  obtain ⟨rfl, -, -⟩ : ao = ao' ∧ n = ps.length ∧ cap = cap' := by simpa using e
  obtain ⟨g, off, u, h1, h2, h3⟩ := hc y ps[y] (by simp [hy])
  exact ⟨g, off, u, h1, h2, h3⟩

theorem l10Round (ps : List (List Stm)) (c : Int) (T : List (List Int)) (v tv : Value) (w : World) (hc : c = 1 ∨ c = 2) (hp : CanP ps) (h4 : ps.length ≤ 4) (hTl : T.length = ps.length) (hT : GoodN ps.length T) (hv : ReadsP w v ps) (ht : ReadsSS w tv T) :
    Calls Try.prog 72 #[.agg #[v], .int .i64 c, tv] w fun e w' => ∃ T' a ua, e = .returned a ∧ T'.length = ps.length ∧ IsRound c ps T T' ∧ OwnSS w' w.heap.size a ua T' ∧ Below w.heap.size w w' := by
  obtain ⟨i1, hj, hy0, hy1, hy2⟩ := info_parts infoSlice
  have hv3 := hv
  obtain ⟨ao, cap, rfl, hcell⟩ := hv
  obtain ⟨W0, hW0⟩ : ∃ W0, (w.alloc (.cells #[.slice ao ps.length cap] 30)).alloc (.cells #[] 26) = W0 := ⟨_, rfl⟩
  have hb0 : Below w.heap.size w W0 := by rw [← hW0]; go_grown
  have S0 : RS (.slice ao ps.length cap) w (.slice (some ⟨w.heap.size + 1, 0, none⟩) 0 0) [] [] W0 := by
    refine ⟨?_, hb0, ?_⟩
    · have := made0S (w.alloc (.cells #[.slice ao ps.length cap] 30))
      have z : (w.alloc (.cells #[.slice ao ps.length cap] 30)).heap.size = w.heap.size + 1 := by simp
      rw [hW0, z] at this
      exact this
    · rw [← hW0, old_block (by simp)]; exact heap_alloc_new w _
  have HW : Hid _ := hW0
  clear hW0 hb0
  go_enter Try.func72, Try.ntmps72
  go_wp2_with fail
  rw [HW.out]
  clear HW
  go_loopw [7, 8] (fun o i wr => ∃ (k : Nat) (us : List Value) (X : List (List Int)), k ≤ ps.length ∧ i = .int .i64 k ∧ X.length = k ∧ RS (.slice ao ps.length cap) w o us X wr ∧ (∀ (j : Nat) (hj : j < ps.length), j < k → ∃ R, IsInner (effN c T ps[j]) ps[j] R ∧ X.getD j [] = backs ps[j] R)) (fun _ i _ => ps.length - (intOf i).toNat)
  case atStart => exact ⟨0, [], [], Nat.zero_le _, rfl, rfl, S0, fun j _ h => absurd h (by omega)⟩
  case round =>
    obtain ⟨k, us, X, hk, rfl, hX, S, hdone⟩ := hrel
    clear S0
    obtain ⟨c0, f0⟩ := one_cell S.p
    have HS : Hid _ := S
    have HD : Hid _ := hdone
    clear S hdone
    by_cases hlt : k < ps.length
    · have hlt' : (k : Int) < (ps.length : Int) := by omega
      obtain ⟨gp, op, up, rfl, cp, hup⟩ := readsP_at (readsP_below hv3 HS.out.bl) hlt
      have hpk := (hp k hlt).1
      have h12 : ps[k].length ≤ 12 := (procOk_parts hpk).2.1
      have hinn := fun W (hW : Below wr.heap.size wr W) => l10Inner ps[k] c T up tv W hc hpk (by rw [hTl]; exact (hp k hlt).2) (by rw [hTl]; exact hT) (reads3_below hup hW) (readsSS_below ht (HS.out.bl.trans (hW.mono HS.out.bl.size)))
      have zp : w.heap.size < wr.heap.size := (Array.getElem?_eq_some_iff.1 HS.out.p).1
      have zg : gp < wr.heap.size := World.block_lt_of_cell? wr _ cp
      have hXm : X.length + 1 ≤ maxLen := by rw [hX]; unfold maxLen; omega
      have hXb : (X.length + 1) * 24 ≤ 140737488355328 := by rw [hX]; omega
      have HX : Hid _ := hX
      clear hX
      go_wp2_with fail
      --HELD t
      refine wp_region_held_drew (S := (fun w' => w'.cell? ⟨w.heap.size, 0, none⟩ = some (.slice (some ⟨gp, op, none⟩) ps.length cap) ∧ w'.cell? ⟨gp, op + k, none⟩ = some up)) (by kernel_rfl) ⟨c0, cp⟩ (fun hHeld => ?_)
      refine wpAnyH_take (i := 0) (oi := ?oit0) (v := u7) ?hit0 (by kernel_rfl) (by kernel_rfl) (by kernel_rfl) ?hqt0 ?hyt0 hHeld ?hrt0
      case hit0 =>
        simp only [List.getElem?_toArray, List.getElem?_cons_succ, List.getElem?_cons_zero]
        rfl
      case hqt0 => exact fun _ _ _ h => h
      case hyt0 => exact Or.inl ⟨by kernel_rfl, fun w hSw => by go_simp⟩
      try simp only [Act.put, List.setIfInBounds_toArray, List.set_cons_zero, List.set_cons_succ]
      refine wpAnyH_take (i := 1) (oi := ?oit1) (v := .pointer (some ⟨w.heap.size, 0, none⟩)) ?hit1 (by kernel_rfl) (by kernel_rfl) (by kernel_rfl) ?hqt1 ?hyt1 hHeld ?hrt1
      case hit1 =>
        simp only [List.getElem?_toArray, List.getElem?_cons_succ, List.getElem?_cons_zero]
        rfl
      case hqt1 => exact fun _ _ _ h => h
      case hyt1 => exact Or.inl ⟨by kernel_rfl, fun w hSw => by go_simp⟩
      try simp only [Act.put, List.setIfInBounds_toArray, List.set_cons_zero, List.set_cons_succ]
      refine wpAnyH_take (i := 2) (oi := ?oit2) (v := .slice (some ⟨gp, op, none⟩) ps.length cap) ?hit2 (by kernel_rfl) (by kernel_rfl) (by kernel_rfl) ?hqt2 ?hyt2 hHeld ?hrt2
      case hit2 =>
        simp only [List.getElem?_toArray, List.getElem?_cons_succ, List.getElem?_cons_zero]
        rfl
      case hqt2 => exact fun _ _ _ h => h
      case hyt2 => exact Or.inl ⟨by kernel_rfl, fun w hSw => by obtain ⟨s0, s1⟩ := hSw; go_simp⟩
      try simp only [Act.put, List.setIfInBounds_toArray, List.set_cons_zero, List.set_cons_succ]
      refine wpAnyH_take (i := 3) (oi := ?oit3) (v := .int .i64 (k : Int)) ?hit3 (by kernel_rfl) (by kernel_rfl) (by kernel_rfl) ?hqt3 ?hyt3 hHeld ?hrt3
      case hit3 =>
        simp only [List.getElem?_toArray, List.getElem?_cons_succ, List.getElem?_cons_zero]
        rfl
      case hqt3 => exact fun _ _ _ h => h
      case hyt3 => exact Or.inl ⟨by kernel_rfl, fun w hSw => by go_simp⟩
      try simp only [Act.put, List.setIfInBounds_toArray, List.set_cons_zero, List.set_cons_succ]
      refine wpAnyH_take (i := 4) (oi := ?oit4) (v := .pointer (some ⟨gp, op + k, none⟩)) ?hit4 (by kernel_rfl) (by kernel_rfl) (by kernel_rfl) ?hqt4 ?hyt4 hHeld ?hrt4
      case hit4 =>
        simp only [List.getElem?_toArray, List.getElem?_cons_succ, List.getElem?_cons_zero]
        rfl
      case hqt4 => exact fun _ _ _ h => h
      case hyt4 => exact Or.inl ⟨by kernel_rfl, fun w hSw => by go_simp⟩
      try simp only [Act.put, List.setIfInBounds_toArray, List.set_cons_zero, List.set_cons_succ]
      refine wpAnyH_take (i := 5) (oi := ?oit5) (v := .agg #[up]) ?hit5 (by kernel_rfl) (by kernel_rfl) (by kernel_rfl) ?hqt5 ?hyt5 hHeld ?hrt5
      case hit5 =>
        simp only [List.getElem?_toArray, List.getElem?_cons_succ, List.getElem?_cons_zero]
        rfl
      case hqt5 => exact fun _ _ _ h => h
      case hyt5 => exact Or.inl ⟨by kernel_rfl, fun w hSw => by obtain ⟨s0, s1⟩ := hSw; go_simp⟩
      try simp only [Act.put, List.setIfInBounds_toArray, List.set_cons_zero, List.set_cons_succ]
      refine wpAnyH_take (i := 6) (oi := ?oit6) (v := .pointer (some ⟨w.heap.size, 0, none⟩)) ?hit6 (by kernel_rfl) (by kernel_rfl) (by kernel_rfl) ?hqt6 ?hyt6 hHeld ?hrt6
      case hit6 =>
        simp only [List.getElem?_toArray, List.getElem?_cons_succ, List.getElem?_cons_zero]
        rfl
      case hqt6 => exact fun _ _ _ h => h
      case hyt6 => exact Or.inl ⟨by kernel_rfl, fun w hSw => by go_simp⟩
      try simp only [Act.put, List.setIfInBounds_toArray, List.set_cons_zero, List.set_cons_succ]
      refine wpAnyH_take (i := 7) (oi := ?oit7) (v := .slice (some ⟨gp, op, none⟩) ps.length cap) ?hit7 (by kernel_rfl) (by kernel_rfl) (by kernel_rfl) ?hqt7 ?hyt7 hHeld ?hrt7
      case hit7 =>
        simp only [List.getElem?_toArray, List.getElem?_cons_succ, List.getElem?_cons_zero]
        rfl
      case hqt7 => exact fun _ _ _ h => h
      case hyt7 => exact Or.inl ⟨by kernel_rfl, fun w hSw => by obtain ⟨s0, s1⟩ := hSw; go_simp⟩
      try simp only [Act.put, List.setIfInBounds_toArray, List.set_cons_zero, List.set_cons_succ]
      refine wpAnyH_take (i := 8) (oi := ?oit8) (v := .int .i64 (k : Int)) ?hit8 (by kernel_rfl) (by kernel_rfl) (by kernel_rfl) ?hqt8 ?hyt8 hHeld ?hrt8
      case hit8 =>
        simp only [List.getElem?_toArray, List.getElem?_cons_succ, List.getElem?_cons_zero]
        rfl
      case hqt8 => exact fun _ _ _ h => h
      case hyt8 => exact Or.inl ⟨by kernel_rfl, fun w hSw => by go_simp⟩
      try simp only [Act.put, List.setIfInBounds_toArray, List.set_cons_zero, List.set_cons_succ]
      refine wpAnyH_take (i := 9) (oi := ?oit9) (v := .pointer (some ⟨gp, op + k, none⟩)) ?hit9 (by kernel_rfl) (by kernel_rfl) (by kernel_rfl) ?hqt9 ?hyt9 hHeld ?hrt9
      case hit9 =>
        simp only [List.getElem?_toArray, List.getElem?_cons_succ, List.getElem?_cons_zero]
        rfl
      case hqt9 => exact fun _ _ _ h => h
      case hyt9 => exact Or.inl ⟨by kernel_rfl, fun w hSw => by go_simp⟩
      try simp only [Act.put, List.setIfInBounds_toArray, List.set_cons_zero, List.set_cons_succ]
      refine wpAnyH_take (i := 10) (oi := ?oit10) (v := .agg #[up]) ?hit10 (by kernel_rfl) (by kernel_rfl) (by kernel_rfl) ?hqt10 ?hyt10 hHeld ?hrt10
      case hit10 =>
        simp only [List.getElem?_toArray, List.getElem?_cons_succ, List.getElem?_cons_zero]
        rfl
      case hqt10 => exact fun _ _ _ h => h
      case hyt10 => exact Or.inl ⟨by kernel_rfl, fun w hSw => by obtain ⟨s0, s1⟩ := hSw; go_simp⟩
      try simp only [Act.put, List.setIfInBounds_toArray, List.set_cons_zero, List.set_cons_succ]
      refine wpAnyH_take (i := 11) (oi := ?oit11) (v := .int .i64 c) ?hit11 (by kernel_rfl) (by kernel_rfl) (by kernel_rfl) ?hqt11 ?hyt11 hHeld ?hrt11
      case hit11 =>
        simp only [List.getElem?_toArray, List.getElem?_cons_succ, List.getElem?_cons_zero]
        rfl
      case hqt11 => exact fun _ _ _ h => h
      case hyt11 => exact Or.inl ⟨by kernel_rfl, fun w hSw => by go_simp⟩
      try simp only [Act.put, List.setIfInBounds_toArray, List.set_cons_zero, List.set_cons_succ]
      refine wpAnyH_take (i := 12) (oi := ?oit12) (v := tv) ?hit12 (by kernel_rfl) (by kernel_rfl) (by kernel_rfl) ?hqt12 ?hyt12 hHeld ?hrt12
      case hit12 =>
        simp only [List.getElem?_toArray, List.getElem?_cons_succ, List.getElem?_cons_zero]
        rfl
      case hqt12 => exact fun _ _ _ h => h
      case hyt12 => exact Or.inl ⟨by kernel_rfl, fun w hSw => by go_simp⟩
      try simp only [Act.put, List.setIfInBounds_toArray, List.set_cons_zero, List.set_cons_succ]
      refine wpAnyH_ready (rs := [13]) (by kernel_rfl) (by simp) ?_
      refine AllReadyH.cons (o := ?oot13) ?hot13 (fun K hK => ?_) AllReadyH.nil
      case hot13 =>
        simp only [List.getElem?_toArray, List.getElem?_cons_succ, List.getElem?_cons_zero]
        rfl
      go_simp
      go_at_call 69
      refine (hinn _ (by go_grown)).mono ?_
      rintro e w4 ⟨R, a4, u4, rfl, hRl, hRI, o4, b4⟩
      have L4 : Below wr.heap.size wr w4 := Below.trans (by go_grown) b4
      obtain ⟨q4, -⟩ := bcell L4
      go_wp2_with fail
      refine hK.out _ _ ⟨(q4 _ _ zp).trans c0, (q4 _ _ zg).trans cp⟩ (fun hHeld => ?_)
      clear hK K
      try simp only [Act.put, List.setIfInBounds_toArray, List.set_cons_zero, List.set_cons_succ]
      refine wpAnyH_ready (rs := [14]) (by kernel_rfl) (by simp) ?_
      refine AllReadyH.cons (o := ?oot14) ?hot14 (fun K hK => ?_) AllReadyH.nil
      case hot14 =>
        simp only [List.getElem?_toArray, List.getElem?_cons_succ, List.getElem?_cons_zero]
        rfl
      go_simp
      go_at_call 103
      refine (l10Table ps[k] R up a4 w4 h12 hRl hRI.good (reads3_below hup L4) o4.reads).mono ?_
      rintro e w5 ⟨a5, rfl, o5, b5⟩
      have L5 := L4.trans (b5.mono L4.size)
      obtain ⟨q5, -⟩ := bcell L5
      obtain ⟨g5, cp5, rfl⟩ := own_form o5 (by omega)
      go_wp2_with fail
      refine hK.out _ _ ⟨(q5 _ _ zp).trans c0, (q5 _ _ zg).trans cp⟩ (fun hHeld => ?_)
      clear hK K
      try simp only [Act.put, List.setIfInBounds_toArray, List.set_cons_zero, List.set_cons_succ]
      refine wpAnyH_ready (rs := [15]) (by kernel_rfl) (by simp) ?_
      refine AllReadyH.cons (o := ?oot15) ?hot15 (fun K hK => ?_) AllReadyH.nil
      case hot15 =>
        simp only [List.getElem?_toArray, List.getElem?_cons_succ, List.getElem?_cons_zero]
        rfl
      go_simp
      have L6 : Below wr.heap.size wr (w5.alloc (.cells #[.slice (some ⟨g5, 0, none⟩) 7 cp5] 26)) := L5.alloc L5.size _
      have L56 : Below w5.heap.size w5 (w5.alloc (.cells #[.slice (some ⟨g5, 0, none⟩) 7 cp5] 26)) := by go_grown
      obtain ⟨q6, -⟩ := bcell L6
      have S6 : Hid _ := HS.out.below L6
      have O6 : Hid ((w5.alloc (.cells #[.slice (some ⟨g5, 0, none⟩) 7 cp5] 26)).ownsRow (w.heap.size + 1) 2 1 (.slice (some ⟨g5, 0, none⟩) 7 cp5) (backs ps[k] R).length (ints (backs ps[k] R))) := by
        have e7 : (backs ps[k] R).length = 7 := (backsK_smalls hRI.good _ (Nat.le_refl _)).1
        rw [e7]
        exact own_mono (own_kept o5 L56) (by have := L4.size; omega)
      have hone : ∀ y ∈ [Value.slice (some ⟨g5, 0, none⟩) 7 cp5], y.oneCell' = true := by simp [Value.oneCell']
      have HBK : Hid _ := heap_alloc_new w5 (.cells #[.slice (some ⟨g5, 0, none⟩) 7 cp5] 26)
      have hm6 : w.heap.size + 1 ≤ (w5.alloc (.cells #[.slice (some ⟨g5, 0, none⟩) 7 cp5] 26)).heap.size := by have := L6.size; omega
      go_wp2_with fail
      refine hK.out _ _ ⟨(q6 _ _ zp).trans c0, (q6 _ _ zg).trans cp⟩ (fun hHeld => ?_)
      clear hK K
      try simp only [Act.put, List.setIfInBounds_toArray, List.set_cons_zero, List.set_cons_succ]
      refine wpAnyH_ready (rs := [16]) (by kernel_rfl) (by simp) ?_
      refine AllReadyH.cons (o := ?oot16) ?hot16 (fun K hK => ?_) AllReadyH.nil
      case hot16 =>
        simp only [List.getElem?_toArray, List.getElem?_cons_succ, List.getElem?_cons_zero]
        rfl
      refine step_append_lies _ rfl (.tmp 17) (.tmp 32) 37 rfl (w.heap.size + 1) 26 i1 (.slice none 0 0) 1 24 Try.underlying37 hj hy0 hy1 hy2 rfl (by decide) _ X.length us rfl S6.out.o.row ⟨w5.heap.size, 0, none⟩ 1 1 [.slice (some ⟨g5, 0, none⟩) 7 cp5] rfl rfl (World.news_of_block HBK.out) hone (by omega) hXm hXb hm6 _ rfl ?_
      intro g7 cp7 w7 own7 grow7 _ _
      have S7 : Hid _ := RS.app S6.out O6.out own7 grow7
      have C7 : w7.cell? ⟨w.heap.size, 0, none⟩ = some (.slice (some ⟨gp, op, none⟩) ps.length cap) ∧ w7.cell? ⟨gp, op + k, none⟩ = some up := by
        refine ⟨(one_cell S7.out.p).1, ?_⟩
        obtain ⟨_, _, _, e9, c9, _⟩ := readsP_at (readsP_below hv3 S7.out.bl) hlt
        cases e9
        rw [c9]
        have := (readsP_at hv3 hlt)
        obtain ⟨_, _, _, e8, c8, _⟩ := this
        cases e8
        rw [← c9, (S7.out.bl.cell (World.block_lt_of_cell? w _ c8)), ← (HS.out.bl.cell (World.block_lt_of_cell? w _ c8)), cp]
      refine hK.out _ _ C7 (fun hHeld => ?_)
      clear hK K
      try simp only [Act.put, List.setIfInBounds_toArray, List.set_cons_zero, List.set_cons_succ]
      refine wpAnyH_take (i := 17) (oi := ?oit17) (v := .slice (some ⟨g7, 0, none⟩) (X.length + 1) cp7) ?hit17 (by kernel_rfl) (by kernel_rfl) (by kernel_rfl) ?hqt17 ?hyt17 hHeld ?hrt17
      case hit17 =>
        simp only [List.getElem?_toArray, List.getElem?_cons_succ, List.getElem?_cons_zero]
        rfl
      case hqt17 => exact fun _ _ _ h => h
      case hyt17 => exact Or.inl ⟨by kernel_rfl, fun w hSw => by go_simp⟩
      try simp only [Act.put, List.setIfInBounds_toArray, List.set_cons_zero, List.set_cons_succ]
      refine wpAnyH_done (by kernel_rfl) ?_ _
      --DLEH t
      go_wp2
      go_roundw
      case rel =>
        have hX := HX.out
        refine ⟨k + 1, _, X ++ [backs ps[k] R], by omega, by go_num, by simp [hX], S7.out, fun j hj hjk => ?_⟩
        by_cases e : j = k
        · subst e
          have h9 := getD_snoc X (backs ps[j] R)
          rw [hX] at h9
          exact ⟨R, hRI, h9⟩
        · obtain ⟨R', h1, h2⟩ := HD.out j hj (by omega)
          exact ⟨R', h1, by rw [← h2, List.getD_eq_getElem?_getD, List.getElem?_append_left (by omega), ← List.getD_eq_getElem?_getD]⟩
      case measure => simp [intOf]; omega
    · have hkk : k = ps.length := by omega
      subst hkk
      have HX : Hid _ := hX
      clear hX
      go_wp2
      go_ret
      exact ⟨X, _, us, rfl, HX.out, fun j hj => HD.out j hj hj, HS.out.o.mono (by omega), HS.out.bl⟩

theorem RS.grow {v : Value} {w : World} {ov : Value} {us : List Value} {xss : List (List Int)} {wr wr' : World} (h : RS v w ov us xss wr) (hg : wr.grownBy wr' none) : RS v w ov us xss wr' :=
  h.below ⟨hg.os, hg.tape, hg.output, hg.size, fun i hi => hg.block i hi (by simp)⟩

theorem good_len {n : Nat} {T : List (List Int)} (hl : T.length = n) (h : GoodN n T) : ∀ xs ∈ T, xs.length ≤ maxLen := fun xs hx => by
  obtain ⟨j, hj, rfl⟩ := List.getElem_of_mem hx
  have := (h j (by omega)).1
  have e : T.getD j [] = T[j] := by simp [List.getD, hj]
  rw [e] at this
  rw [this]; unfold maxLen; omega

theorem l10Tables (ps : List (List Stm)) (c : Int) (v : Value) (w : World) (hc : c = 1 ∨ c = 2) (hp : CanP ps) (h4 : ps.length ≤ 4) (hv : ReadsP w v ps) :
    Calls Try.prog 42 #[.agg #[v], .int .i64 c] w fun e w' => ∃ T a ua, e = .returned a ∧ T.length = ps.length ∧ IsTables c ps T ∧ OwnSS w' w.heap.size a ua T ∧ Below w.heap.size w w' := by
  obtain ⟨i0, hi0, hz0, hz1, hz2⟩ := info_parts infoInt
  obtain ⟨i1, hj, hy0, hy1, hy2⟩ := info_parts infoSlice
  have hv3 := hv
  obtain ⟨ao, cap, rfl, hcell⟩ := hv
  obtain ⟨W0, hW0⟩ : ∃ W0, (w.alloc (.cells #[.slice ao ps.length cap] 30)).alloc (.cells #[] 26) = W0 := ⟨_, rfl⟩
  have hb0 : Below w.heap.size w W0 := by rw [← hW0]; go_grown
  have S0 : RS (.slice ao ps.length cap) w (.slice (some ⟨w.heap.size + 1, 0, none⟩) 0 0) [] [] W0 := by
    refine ⟨?_, hb0, ?_⟩
    · have := made0S (w.alloc (.cells #[.slice ao ps.length cap] 30))
      have z : (w.alloc (.cells #[.slice ao ps.length cap] 30)).heap.size = w.heap.size + 1 := by simp
      rw [hW0, z] at this
      exact this
    · rw [← hW0, old_block (by simp)]; exact heap_alloc_new w _
  have HW : Hid _ := hW0
  clear hW0 hb0
  have hb8 : i0.bytes * 7 ≤ 281474976710656 := by rw [hz2]; omega
  have hmx : (7 : Nat) ≤ maxLen := by unfold maxLen; omega
  go_enter Try.func42, Try.ntmps42
  go_wp2_with fail
  rw [HW.out]
  clear HW
  go_loopw [5, 6] (fun o i wr => ∃ (k : Nat) (us : List Value), k ≤ ps.length ∧ i = .int .i64 k ∧ RS (.slice ao ps.length cap) w o us (List.replicate k zero7) wr) (fun _ i _ => ps.length - (intOf i).toNat)
  case atStart => exact ⟨0, [], Nat.zero_le _, rfl, S0⟩
  case round =>
    obtain ⟨k, us, hk, rfl, S⟩ := hrel
    clear S0
    obtain ⟨c0, f0⟩ := one_cell S.p
    have HS : Hid _ := S
    clear S
    by_cases hlt : k < ps.length
    · have hlt' : (k : Int) < (ps.length : Int) := by omega
      have hws : w.heap.size + 1 ≤ wr.heap.size := by have := HS.out.bl.size; have := (Array.getElem?_eq_some_iff.1 HS.out.p).1; omega
      have hlen : (List.replicate k zero7).length = k := List.length_replicate
      go_wp2_with (first
        | (at_make; refine wpList_make_full _ rfl _ _ 26 rfl (w.heap.size + 1) 2 i0 (.int .i64 0) 1 Try.underlying26 hi0 hz0 hz1 .i64 .i64 7 7 7 rfl rfl rfl rfl hb8 hmx hws ?_; intro w6 own6 grow6; have S6 : Hid _ := HS.out.grow grow6; have hone : ∀ y ∈ [Value.slice (some ⟨wr.heap.size, 0, none⟩) 7 7], y.oneCell' = true := (by simp [Value.oneCell']); have hm6 : w.heap.size + 1 ≤ w6.heap.size := Nat.le_trans hws grow6.size; rw [made7] at own6; have O6 : Hid (w6.ownsRow (w.heap.size + 1) 2 1 (.slice (some ⟨wr.heap.size, 0, none⟩) 7 7) zero7.length (ints zero7)) := own6; clear own6 grow6)
        | (at_builtin; refine wpList_append_own _ rfl _ _ 37 rfl (w.heap.size + 1) 26 i1 (.slice none 0 0) 1 24 Try.underlying37 hj hy0 hy1 hy2 rfl (by decide) _ _ _ rfl (S6.out.o.row.alloc _) ⟨w6.heap.size, 0, none⟩ 1 _ [.slice (some ⟨wr.heap.size, 0, none⟩) 7 7] rfl rfl (cell_oneV w6 _ _) hone (by rw [hlen]; unfold maxLen; omega) (by rw [hlen]; omega) (by simp; omega) ?_; intro v7 w7 own7 grow7 _; have S7 : Hid _ := RS.app (xs := zero7) (S6.out.below (by go_grown)) (own_kept O6.out (by go_grown)) own7 grow7; clear own7 grow7 O6 S6)
        | go_in)
      go_roundw
      case rel =>
        have h7 := S7.out
        rw [← List.replicate_succ'] at h7
        exact ⟨k + 1, _, by omega, by go_num, h7⟩
      case measure => simp [intOf]; omega
    · have hkk : k = ps.length := by omega
      subst hkk
      have R0 : Hid (Ris c ps (List.replicate ps.length zero7)) := Ris.zero (fun i hi => by simp [List.getD, hi])
      have HL0 : Hid ((List.replicate ps.length zero7).length = ps.length) := List.length_replicate
      generalize List.replicate ps.length zero7 = T0 at *
      go_wp2_with fail
      go_loopw [5] (fun o wr => ∃ (T : List (List Int)) (us : List Value), T.length = ps.length ∧ RS (.slice ao ps.length cap) w o us T wr ∧ Ris c ps T) (fun o wr => roomV wr o)
      case atStart => exact ⟨T0, us, HL0.out, HS.out, R0.out⟩
      case round =>
        clear HS R0 HL0 c0 f0
        obtain ⟨T, us', hTl, S, hRis⟩ := hrel
        obtain ⟨c0, f0⟩ := one_cell S.p
        have hro := l10Round ps c T (.slice ao ps.length cap) u5 wr hc hp h4 hTl hRis.good (readsP_below hv3 S.bl) S.o.reads
        have HS : Hid _ := S
        have HR : Hid _ := hRis
        have HTl : Hid _ := hTl
        clear S hRis hTl
        go_wp2_with fail
        go_at_call 72
        refine hro.mono ?_
        rintro e w2 ⟨T', a2, ua2, rfl, hT'l, hrd, o2, b2⟩
        clear hro
        have S2 := HS.out.below b2
        have hlk := l10Like T' T a2 u5 w2 (good_len hT'l hrd.good) (good_len HTl.out HR.out.good) (by omega) (by rw [hT'l, HTl.out]) o2.reads S2.o.reads
        have HS2 : Hid _ := S2
        have HT'l : Hid _ := hT'l
        have HR2 : Hid (IsRound c ps T T') := hrd
        clear hT'l hrd S2 c0 f0
        go_wp2_with fail
        go_at_call 73
        refine hlk.mono ?_
        rintro e w3 ⟨rfl, b3⟩
        clear hlk
        by_cases hq : T' = T
        · rw [decide_eq_true hq]
          have HQ : Hid _ := hq
          clear hq
          go_wp2
          go_ret
          have S3 := HS2.out.below b3
          refine ⟨T, _, us', rfl, HTl.out, HR.out.last ?_, S3.o.mono (by omega), S3.bl⟩
          have := HR2.out
          rw [HQ.out] at this
          exact this
        · rw [decide_eq_false hq]
          have HQ : Hid _ := hq
          clear hq
          have O3 : OwnSS w3 (w.heap.size + 1) a2 ua2 T' := (o2.below b3).mono (by have := HS.out.bl.size; have := (Array.getElem?_eq_some_iff.1 HS.out.p).1; omega)
          have S3 := HS2.out.below b3
          have S4 : Hid (RS (.slice ao ps.length cap) w a2 ua2 T' w3) := ⟨O3, S3.bl, S3.p⟩
          have hroom : Hid (roomV w3 a2 < roomV wr u5) := by
            have e1 := roomV_eq O3.reads
            have e2 := roomV_eq HS.out.o.reads
            show roomV w3 a2 < roomV wr u5
            rw [e1, e2]
            have h1 := HTl.out
            have h2 := HT'l.out
            exact roomT_ne (by omega) (by rw [h1]; exact HR.out.good) (by rw [h1]; exact HR2.out.good) (by rw [h1]; exact HR.out.up T' HR2.out) (fun e => HQ.out e.symm)
          clear O3 S3
          go_wp2
          go_roundw
          case rel => exact ⟨T', ua2, HT'l.out, S4.out, HR.out.next hc hp HR2.out⟩
          case measure => exact hroom.out

end Go.Proofs.Ytnjbihfceckpfaa
