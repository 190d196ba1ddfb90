/-
  Chapter 10, the program's side: Inner, Effect.
-/
import Derived.Test.YtgandekciocalaaImplTables
namespace Go.Proofs.Ytgandekciocalaa
open Go.RowKit
set_option linter.unusedVariables false
set_option linter.unusedSimpArgs false
set_option maxHeartbeats 4000000
set_option maxRecDepth 20000

/-- Tables, the relations of procedure i, a new block for them. -/
def TabsV (w : World) (c : Int) (ps : List (List Stm)) (x : Value) : Prop := ∃ R, x = tabR R ∧ Rows7 4 R ∧ IsTables c ps R
def RelsV (w : World) (c : Int) (ps : List (List Stm)) (ss : List Stm) (x : Value) : Prop := ∃ T R, x = tabR R ∧ Rows7 12 R ∧ IsTables c ps T ∧ IsInner (effN c T ss) ss R
def BoxT (w : World) (base : Nat) (t : TypeId) (n : Nat) (x : Value) : Prop := ∃ B, x = .pointer (some ⟨B, 0, none⟩) ∧ base ≤ B ∧ TabR w B t (List.replicate n zero7)
theorem TabsV.below {w w' : World} {c : Int} {ps : List (List Stm)} {x : Value} (h : TabsV w c ps x) (hb : Below w.heap.size w w') : TabsV w' c ps x := h
theorem RelsV.below {w w' : World} {c : Int} {ps : List (List Stm)} {ss : List Stm} {x : Value} (h : RelsV w c ps ss x) (hb : Below w.heap.size w w') : RelsV w' c ps ss x := h
theorem BoxT.below {w w' : World} {base : Nat} {t : TypeId} {n : Nat} {x : Value} (h : BoxT w base t n x) (hb : Below w.heap.size w w') : BoxT w' base t n x := by
  obtain ⟨B, e, h1, h2⟩ := h
  exact ⟨B, e, h1, h2.below hb⟩

def EffV (w : World) (c : Int) (ps : List (List Stm)) (s : Stm) (x : Value) : Prop := ∃ T, x = relV (effL c T s) ∧ IsTables c ps T
theorem EffV.below {w w' : World} {c : Int} {ps : List (List Stm)} {s : Stm} {x : Value} (h : EffV w c ps s x) (hb : Below w.heap.size w w') : EffV w' c ps s x := h

--HELD defs
/-- What the region has, operation by operation. -/
def IAFct (c : Int) (ps : List (List Stm)) (ss : List Stm) (uv : Value) (j gp op np cap n0 m0 : Nat) (wr : World) (l : Nat → Bool) (x20 x21 x22 x23 x24 x25 x26 x27 x28 x29 x7 : Value) : Prop :=
  (l 0 = true → x20 = .pointer (some ⟨n0, 0, none⟩)) ∧ (l 1 = true → x21 = .slice (some ⟨gp, op, none⟩) np cap) ∧ (l 2 = true → x22 = .int .i64 (j : Int)) ∧ (l 3 = true → x23 = .pointer (some ⟨gp, op + j, none⟩)) ∧ (l 4 = true → x24 = .agg #[uv]) ∧ (l 5 = true → x25 = .int .i64 c) ∧ (l 6 = true → x26 = .agg #[.slice (some ⟨gp, op, none⟩) np cap]) ∧ (l 7 = true → x27 = .int .i64 c) ∧ (l 8 = true → TabsV wr c ps x28) ∧ (l 9 = true → RelsV wr c ps ss x29) ∧ (l 10 = true → BoxT wr m0 77 12 x7)

set_option maxRecDepth 20000 in
/-- The invariant of that region. -/
def IAInv (c : Int) (ps : List (List Stm)) (ss : List Stm) (uv : Value) (j gp op np cap n0 m0 : Nat) (W0 : World) (l : Nat → Bool) (a : Act) (wr : World) : Prop :=
  ∃ y0 y4 y5 y6 y8 y9 y10 y11 y12 y13 y14 y15 y16 y17 y18 y19 y30 y31 y32 y33 y34 y35 y36 y37 y38 x20 x21 x22 x23 x24 x25 x26 x27 x28 x29 x7 : Value,
    a = { tmps := List.toArray (y0 :: .int .i64 c :: .int .i64 (j : Int) :: .pointer (some ⟨n0, 0, none⟩) :: y4 :: y5 :: y6 :: x7 :: y8 :: y9 :: y10 :: y11 :: y12 :: y13 :: y14 :: y15 :: y16 :: y17 :: y18 :: y19 :: x20 :: x21 :: x22 :: x23 :: x24 :: x25 :: x26 :: x27 :: x28 :: x29 :: y30 :: y31 :: y32 :: y33 :: y34 :: y35 :: y36 :: y37 :: y38 :: []), defers := [] } ∧ (l 11 = true → ∀ j, j < 11 → l j = true) ∧
    (l 11 = false → Below W0.heap.size W0 wr ∧ IAFct c ps ss uv j gp op np cap n0 m0 wr l x20 x21 x22 x23 x24 x25 x26 x27 x28 x29 x7) ∧ (l 11 = true → ∃ B T R, x7 = .pointer (some ⟨B, 0, none⟩) ∧ m0 ≤ B ∧ Rows7 12 R ∧ IsTables c ps T ∧ IsInner (effN c T ss) ss R ∧ TabR wr B 77 R ∧ Below W0.heap.size W0 wr)

/-- What the region has, operation by operation. -/
def IEFct (c : Int) (ps : List (List Stm)) (s : Stm) (pv : Value) (n0 m0 : Nat) (wr : World) (l : Nat → Bool) (x31 x32 x33 x34 x35 x36 x7 : Value) : Prop :=
  (l 0 = true → x31 = .int .i64 c) ∧ (l 1 = true → x32 = .agg #[.int .i64 s.k, .int .i64 s.x, .int .i64 s.y]) ∧ (l 2 = true → x33 = .agg #[pv]) ∧ (l 3 = true → x34 = .int .i64 c) ∧ (l 4 = true → TabsV wr c ps x35) ∧ (l 5 = true → EffV wr c ps s x36) ∧ (l 6 = true → BoxR wr m0 x7)

set_option maxRecDepth 20000 in
/-- The invariant of that region. -/
def IEInv (c : Int) (ps : List (List Stm)) (s : Stm) (pv : Value) (n0 m0 : Nat) (W0 : World) (l : Nat → Bool) (a : Act) (wr : World) : Prop :=
  ∃ y0 y2 y4 y6 y8 y9 y10 y11 y12 y13 y14 y15 y16 y17 y18 y19 y20 y21 y22 y23 y24 y25 y26 y27 y28 y29 y30 y37 x31 x32 x33 x34 x35 x36 x7 : Value,
    a = { tmps := List.toArray (y0 :: .int .i64 c :: y2 :: .pointer (some ⟨n0, 0, none⟩) :: y4 :: .pointer (some ⟨n0 + 1, 0, none⟩) :: y6 :: x7 :: y8 :: y9 :: y10 :: y11 :: y12 :: y13 :: y14 :: y15 :: y16 :: y17 :: y18 :: y19 :: y20 :: y21 :: y22 :: y23 :: y24 :: y25 :: y26 :: y27 :: y28 :: y29 :: y30 :: x31 :: x32 :: x33 :: x34 :: x35 :: x36 :: y37 :: []), defers := [] } ∧ (l 7 = true → ∀ j, j < 7 → l j = true) ∧
    (l 7 = false → Below W0.heap.size W0 wr ∧ IEFct c ps s pv n0 m0 wr l x31 x32 x33 x34 x35 x36 x7) ∧ (l 7 = true → ∃ B T, x7 = .pointer (some ⟨B, 0, none⟩) ∧ m0 ≤ B ∧ IsTables c ps T ∧ RelAt wr B (effL c T s) ∧ Below W0.heap.size W0 wr)

--DLEH defs
theorem take_inner {c : Int} {ps : List (List Stm)} (hp : CanP ps) {T U A R : List (List Int)} {i : Nat} (hi : i < ps.length) (hT : IsTables c ps T) (hU : IsTables c ps U) (hA : IsInner (effN c T ps[i]) ps[i] A) (hR : IsInner (effN c U ps[i]) ps[i] R) (hl : A.length = ps[i].length) (hr : Rows7 12 R) (h12 : ps[i].length ≤ 12) : R.take ps[i].length = A := by
  have hR' : IsInner (effN c T ps[i]) ps[i] R := inner_eq (fun j hj => by rw [effN_eq hj, effN_eq hj]; exact effL_eq (fun k hk => hU.uniq hT hk) ((hp i hi).2 _ (List.getElem_mem hj))) hR
  refine list_getD (by simp [hr.1, hl]; omega) (fun k hk => ?_)
  have hk' : k < ps[i].length := by simp at hk; omega
  rw [← hR'.uniq hA hk', List.getD_eq_getElem?_getD, List.getElem?_take, if_pos hk', ← List.getD_eq_getElem?_getD]

theorem implInner (ps : List (List Stm)) (c i : Int) (A : List (List Int)) (hA : InnA ps c i A) (v : Value) (w : World) (hl : ps.length ≤ maxLen) (hp : ∀ p ∈ ps, p.length ≤ maxLen) (hv : ReadsP w v ps) :
    Calls Try.prog 17 #[.agg #[v], .int .i64 c, .int .i64 i] w fun e w' => ∃ u us, e = .returned u ∧ OwnSS w' w.heap.size u us A ∧ ApartSS us ∧ Below w.heap.size w w' := by
  have b0 : Below w.heap.size w (w.alloc (.cells #[v] 26)) := by go_grown
  have H0 := heap_alloc_new w (.cells #[v] 26)
  have hcs := canSum ps c v _ hl hp (readsP_below hv b0)
  cases hok : okB ps c
  · rw [hok] at hcs
    rw [hA.2 (by simp [inB10, hok])]
    go_enter Try.func17, Try.ntmps17
    go_wp2_with (go_at_call 30; refine hcs.mono ?_; rintro e w2 ⟨rfl, b2⟩)
    go_ret
    exact ⟨_, [], rfl, nilS _ _, fun i j a b k _ h => by simp at h, b0.trans (b2.mono b0.size)⟩
  · rw [hok] at hcs
    obtain ⟨hpo, hc, hcp, h4⟩ := okB_parts hok
    obtain ⟨ao, cap, rfl, hcell⟩ := id hv
    have h4' : (ps.length : Int) ≤ 4 := by omega
    have hwi := within i (ps.length : Int)
    cases hin : wiB i (ps.length : Int)
    · rw [hin] at hwi
      rw [hA.2 (by rw [inB10]; unfold wiB at hin; rw [hin, Bool.and_false])]
      go_enter Try.func17, Try.ntmps17
      go_wp2_with fail
      go_at_call 30
      refine hcs.mono ?_
      rintro e w2 ⟨rfl, b2⟩
      have L2 := b0.trans (b2.mono b0.size)
      obtain ⟨c2, f2⟩ := one_cell ((b2.block w.heap.size (by simp)).trans H0)
      go_wp2_with (go_at_call 46; refine (hwi _).mono ?_; rintro e w3 ⟨rfl, rfl⟩)
      go_ret
      exact ⟨_, [], rfl, nilS _ _, fun i j a b k _ h => by simp at h, L2⟩
    · rw [hin] at hwi
      have hb : inB10 ps c i = true := by rw [inB10, hok]; unfold wiB at hin; rw [hin]; rfl
      obtain ⟨T0, hi0, hT0l, hT0, hAl, hAI⟩ := hA.1 hb
      obtain ⟨_, j, hij, hj⟩ := inB10_parts hb
      subst hij
      simp only [Int.toNat_natCast] at hAl hAI
      have hj' : (j : Int) < (ps.length : Int) := by omega
      have hpk := (hcp j hj).1
      obtain ⟨hpos, h12, _⟩ := procOk_parts hpk
      have hz : ∀ w, (zeroValue 77).run Try.prog w = .ok (.agg (ints (List.replicate 12 zero7).flatten).toArray) w := isTab12.zero
      obtain ⟨zs, hzs⟩ : ∃ zs, ints (List.replicate 12 zero7).flatten = zs := ⟨_, rfl⟩
      rw [hzs] at hz
      have HZS : Hid (ints (List.replicate 12 zero7).flatten = zs) := hzs
      clear hzs hcell hb
      go_enter Try.func17, Try.ntmps17
      go_wp2_with fail
      go_at_call 30
      refine hcs.mono ?_
      rintro e w2 ⟨rfl, b2⟩
      have L2 := b0.trans (b2.mono b0.size)
      have P2 := (b2.block w.heap.size (by simp)).trans H0
      obtain ⟨c2, f2⟩ := one_cell P2
      have HP2 : Hid (w2.heap[w.heap.size]? = some (.cells #[.slice ao ps.length cap] 26 (0, 0))) := P2
      obtain ⟨gp, op, up, rfl, cp, hup⟩ := readsP_at' hv hj
      obtain ⟨uo, uc, rfl, _⟩ := id hup
      have cp2 := (L2.cell (World.block_lt_of_cell? w _ cp)).trans cp
      clear P2 H0 hcs
      go_wp2_with (go_at_call 46; refine (hwi _).mono ?_; rintro e w3 ⟨rfl, rfl⟩)
      have zP : w.heap.size < w2.drew.heap.size := (Array.getElem?_eq_some_iff.1 HP2.out).1
      have zG : gp < w2.drew.heap.size := World.block_lt_of_cell? w2 _ cp2
      have c2 : w2.drew.cell? ⟨w.heap.size, 0, none⟩ = some (.slice (some ⟨gp, op, none⟩) ps.length cap) := c2
      have cp2 : w2.drew.cell? ⟨gp, op + j, none⟩ = some (.slice uo ps[j].length uc) := cp2
      have L2d : Below w.heap.size w w2.drew := L2.drew
      have hto := fun W (hW : Below w2.drew.heap.size w2.drew W) => tablesOf ps c (.slice (some ⟨gp, op, none⟩) ps.length cap) W hc hcp h4 (readsP_below hv (L2d.trans (hW.mono L2d.size)))
      have hrw := fun W (hW : Below w2.drew.heap.size w2.drew W) R8 hR8 hI8 => relationsWith ps[j] c R8 ps.length (.slice uo ps[j].length uc) W hc h4 hpk (hcp j hj).2 hR8 hI8 (reads3_below hup (L2d.trans (hW.mono L2d.size)))
      --HELD i
      refine wp_region_inv (by kernel_rfl) (by kernel_rfl) (IAInv c ps ps[j] (.slice uo ps[j].length uc) j gp op ps.length cap w.heap.size w2.drew.heap.size w2.drew) ?h0 ?hs ?he
      case h0 => exact ⟨_, _, _, _, _, _, _, _, _, _, _, _, _, _, _, _, _, _, _, _, _, _, _, _, _, _, _, _, _, _, _, _, _, _, _, _, rfl, by simp, fun _ => ⟨Below.refl _ _, by simp, by simp, by simp, by simp, by simp, by simp, by simp, by simp, by simp, by simp, by simp⟩, by simp⟩
      case hs =>
        intro l i o a wr ho hI hli haf
        obtain ⟨y0, y4, y5, y6, y8, y9, y10, y11, y12, y13, y14, y15, y16, y17, y18, y19, y30, y31, y32, y33, y34, y35, y36, y37, y38, x20, x21, x22, x23, x24, x25, x26, x27, x28, x29, x7, rfl, hall, hF, hlast⟩ := hI
        have hi : i < 12 := (Array.getElem?_eq_some_iff.1 ho).1
        have h14 : l 11 = false := by
          cases h : l 11
          · rfl
          · by_cases e : i = 11
            · subst e; simp [h] at hli
            · have := hall h i (by omega); simp [this] at hli
        obtain ⟨hJ, pf⟩ := hF h14
        have H14 : Hid _ := h14
        clear hF hlast hall h14
        have hcases : i = 0 ∨ i = 1 ∨ i = 2 ∨ i = 3 ∨ i = 4 ∨ i = 5 ∨ i = 6 ∨ i = 7 ∨ i = 8 ∨ i = 9 ∨ i = 10 ∨ i = 11 := by omega
        rcases hcases with rfl | rfl | rfl | rfl | rfl | rfl | rfl | rfl | rfl | rfl | rfl | rfl
        · simp only [List.getElem?_toArray, List.getElem?_cons_zero, Option.some.injEq] at ho
          subst ho
          have HPF : Hid _ := pf
          clear pf
          go_wp2_with (fail)
          obtain ⟨p0, p1, p2, p3, p4, p5, p6, p7, p8, p9, p10⟩ := HPF.out
          exact ⟨_, _, _, _, _, _, _, _, _, _, _, _, _, _, _, _, _, _, _, _, _, _, _, _, _, _, _, _, _, _, _, _, _, _, _, _, rfl, fun h => absurd h (by simp [H14.out]), fun _ => ⟨hJ, fun _ => rfl, p1, p2, p3, p4, p5, p6, p7, p8, p9, p10⟩, fun h => absurd h (by simp [H14.out])⟩
        · simp only [List.getElem?_toArray, List.getElem?_cons_zero, List.getElem?_cons_succ, Option.some.injEq] at ho
          subst ho
          simp [Region.binds] at haf
          obtain rfl : x20 = _ := pf.1 (haf)
          have HPF : Hid _ := pf
          clear pf
          have c9 := (hJ.cell (p := ⟨w.heap.size, 0, none⟩) zP).trans c2
          go_wp2_with (fail)
          obtain ⟨p0, p1, p2, p3, p4, p5, p6, p7, p8, p9, p10⟩ := HPF.out
          exact ⟨_, _, _, _, _, _, _, _, _, _, _, _, _, _, _, _, _, _, _, _, _, _, _, _, _, _, _, _, _, _, _, _, _, _, _, _, rfl, fun h => absurd h (by simp [H14.out]), fun _ => ⟨hJ, fun _ => rfl, fun _ => rfl, p2, p3, p4, p5, p6, p7, p8, p9, p10⟩, fun h => absurd h (by simp [H14.out])⟩
        · simp only [List.getElem?_toArray, List.getElem?_cons_zero, List.getElem?_cons_succ, Option.some.injEq] at ho
          subst ho
          have HPF : Hid _ := pf
          clear pf
          go_wp2_with (fail)
          obtain ⟨p0, p1, p2, p3, p4, p5, p6, p7, p8, p9, p10⟩ := HPF.out
          exact ⟨_, _, _, _, _, _, _, _, _, _, _, _, _, _, _, _, _, _, _, _, _, _, _, _, _, _, _, _, _, _, _, _, _, _, _, _, rfl, fun h => absurd h (by simp [H14.out]), fun _ => ⟨hJ, p0, p1, fun _ => rfl, p3, p4, p5, p6, p7, p8, p9, p10⟩, fun h => absurd h (by simp [H14.out])⟩
        · simp only [List.getElem?_toArray, List.getElem?_cons_zero, List.getElem?_cons_succ, Option.some.injEq] at ho
          subst ho
          simp [Region.binds] at haf
          obtain rfl : x21 = _ := pf.2.1 (haf.1)
          obtain rfl : x22 = _ := pf.2.2.1 (haf.2)
          have HPF : Hid _ := pf
          clear pf
          go_wp2_with (fail)
          obtain ⟨p0, p1, p2, p3, p4, p5, p6, p7, p8, p9, p10⟩ := HPF.out
          exact ⟨_, _, _, _, _, _, _, _, _, _, _, _, _, _, _, _, _, _, _, _, _, _, _, _, _, _, _, _, _, _, _, _, _, _, _, _, rfl, fun h => absurd h (by simp [H14.out]), fun _ => ⟨hJ, p0, fun _ => rfl, fun _ => rfl, fun _ => rfl, p4, p5, p6, p7, p8, p9, p10⟩, fun h => absurd h (by simp [H14.out])⟩
        · simp only [List.getElem?_toArray, List.getElem?_cons_zero, List.getElem?_cons_succ, Option.some.injEq] at ho
          subst ho
          simp [Region.binds] at haf
          obtain rfl : x23 = _ := pf.2.2.2.1 (haf)
          have HPF : Hid _ := pf
          clear pf
          have c9 := (hJ.cell (p := ⟨gp, op + j, none⟩) zG).trans cp2
          go_wp2_with (fail)
          obtain ⟨p0, p1, p2, p3, p4, p5, p6, p7, p8, p9, p10⟩ := HPF.out
          exact ⟨_, _, _, _, _, _, _, _, _, _, _, _, _, _, _, _, _, _, _, _, _, _, _, _, _, _, _, _, _, _, _, _, _, _, _, _, rfl, fun h => absurd h (by simp [H14.out]), fun _ => ⟨hJ, p0, p1, p2, fun _ => rfl, fun _ => rfl, p5, p6, p7, p8, p9, p10⟩, fun h => absurd h (by simp [H14.out])⟩
        · simp only [List.getElem?_toArray, List.getElem?_cons_zero, List.getElem?_cons_succ, Option.some.injEq] at ho
          subst ho
          have HPF : Hid _ := pf
          clear pf
          go_wp2_with (fail)
          obtain ⟨p0, p1, p2, p3, p4, p5, p6, p7, p8, p9, p10⟩ := HPF.out
          exact ⟨_, _, _, _, _, _, _, _, _, _, _, _, _, _, _, _, _, _, _, _, _, _, _, _, _, _, _, _, _, _, _, _, _, _, _, _, rfl, fun h => absurd h (by simp [H14.out]), fun _ => ⟨hJ, p0, p1, p2, p3, p4, fun _ => rfl, p6, p7, p8, p9, p10⟩, fun h => absurd h (by simp [H14.out])⟩
        · simp only [List.getElem?_toArray, List.getElem?_cons_zero, List.getElem?_cons_succ, Option.some.injEq] at ho
          subst ho
          have HPF : Hid _ := pf
          clear pf
          have c9 := (hJ.cell (p := ⟨w.heap.size, 0, none⟩) zP).trans c2
          go_wp2_with (fail)
          obtain ⟨p0, p1, p2, p3, p4, p5, p6, p7, p8, p9, p10⟩ := HPF.out
          exact ⟨_, _, _, _, _, _, _, _, _, _, _, _, _, _, _, _, _, _, _, _, _, _, _, _, _, _, _, _, _, _, _, _, _, _, _, _, rfl, fun h => absurd h (by simp [H14.out]), fun _ => ⟨hJ, p0, p1, p2, p3, p4, p5, fun _ => rfl, p7, p8, p9, p10⟩, fun h => absurd h (by simp [H14.out])⟩
        · simp only [List.getElem?_toArray, List.getElem?_cons_zero, List.getElem?_cons_succ, Option.some.injEq] at ho
          subst ho
          have HPF : Hid _ := pf
          clear pf
          go_wp2_with (fail)
          obtain ⟨p0, p1, p2, p3, p4, p5, p6, p7, p8, p9, p10⟩ := HPF.out
          exact ⟨_, _, _, _, _, _, _, _, _, _, _, _, _, _, _, _, _, _, _, _, _, _, _, _, _, _, _, _, _, _, _, _, _, _, _, _, rfl, fun h => absurd h (by simp [H14.out]), fun _ => ⟨hJ, p0, p1, p2, p3, p4, p5, p6, fun _ => rfl, p8, p9, p10⟩, fun h => absurd h (by simp [H14.out])⟩
        · simp only [List.getElem?_toArray, List.getElem?_cons_zero, List.getElem?_cons_succ, Option.some.injEq] at ho
          subst ho
          simp [Region.binds] at haf
          obtain rfl : x26 = _ := pf.2.2.2.2.2.2.1 (haf.1)
          obtain rfl : x27 = _ := pf.2.2.2.2.2.2.2.1 (haf.2)
          have HPF : Hid _ := pf
          clear pf
          go_wp2_with (go_at_call 31; refine (hto _ hJ).mono ?_; rintro e w9 ⟨R9, rfl, hRR9, hRI9, b9⟩)
          obtain ⟨p0, p1, p2, p3, p4, p5, p6, p7, p8, p9, p10⟩ := HPF.out
          exact ⟨_, _, _, _, _, _, _, _, _, _, _, _, _, _, _, _, _, _, _, _, _, _, _, _, _, _, _, _, _, _, _, _, _, _, _, _, rfl, fun h => absurd h (by simp [H14.out]), fun _ => ⟨hJ.trans (b9.mono hJ.size), p0, p1, p2, p3, p4, p5, fun _ => rfl, fun _ => rfl, fun _ => ⟨R9, rfl, hRR9, hRI9⟩, fun h => (p9 h).below b9, fun h => (p10 h).below b9⟩, fun h => absurd h (by simp [H14.out])⟩
        · simp only [List.getElem?_toArray, List.getElem?_cons_zero, List.getElem?_cons_succ, Option.some.injEq] at ho
          subst ho
          simp [Region.binds] at haf
          obtain rfl : x24 = _ := pf.2.2.2.2.1 (haf.1)
          obtain rfl : x25 = _ := pf.2.2.2.2.2.1 (haf.2.1)
          obtain ⟨R8, rfl, hR8, hI8⟩ := pf.2.2.2.2.2.2.2.2.1 (haf.2.2)
          have HPF : Hid _ := pf
          clear pf
          go_wp2_with (go_at_call 48; refine (hrw _ hJ R8 hR8 hI8.good).mono ?_; rintro e w9 ⟨Rz, rfl, hRz, hIz, b9⟩)
          obtain ⟨p0, p1, p2, p3, p4, p5, p6, p7, p8, p9, p10⟩ := HPF.out
          exact ⟨_, _, _, _, _, _, _, _, _, _, _, _, _, _, _, _, _, _, _, _, _, _, _, _, _, _, _, _, _, _, _, _, _, _, _, _, rfl, fun h => absurd h (by simp [H14.out]), fun _ => ⟨hJ.trans (b9.mono hJ.size), p0, p1, p2, p3, fun _ => rfl, fun _ => rfl, p6, p7, fun h => (p8 h).below b9, fun _ => ⟨R8, Rz, rfl, hRz, hI8, hIz⟩, fun h => (p10 h).below b9⟩, fun h => absurd h (by simp [H14.out])⟩
        · simp only [List.getElem?_toArray, List.getElem?_cons_zero, List.getElem?_cons_succ, Option.some.injEq] at ho
          subst ho
          have HPF : Hid _ := pf
          clear pf
          go_wp2_with (fail)
          have b9 : Below wr.heap.size wr (wr.alloc (.cells zs.toArray 77)) := by go_grown
          obtain ⟨p0, p1, p2, p3, p4, p5, p6, p7, p8, p9, p10⟩ := HPF.out
          exact ⟨_, _, _, _, _, _, _, _, _, _, _, _, _, _, _, _, _, _, _, _, _, _, _, _, _, _, _, _, _, _, _, _, _, _, _, _, rfl, fun h => absurd h (by simp [H14.out]), fun _ => ⟨hJ.trans (b9.mono hJ.size), p0, p1, p2, p3, p4, p5, p6, p7, fun h => (p8 h).below b9, fun h => (p9 h).below b9, fun _ => ⟨wr.heap.size, rfl, hJ.size, by rw [← HZS.out]; exact tabR_new wr _ _⟩⟩, fun h => absurd h (by simp [H14.out])⟩
        · simp only [List.getElem?_toArray, List.getElem?_cons_zero, List.getElem?_cons_succ, Option.some.injEq] at ho
          subst ho
          simp [Region.binds] at haf
          obtain ⟨B3, rfl, hB3, hT3⟩ := pf.2.2.2.2.2.2.2.2.2.2 (haf.1)
          obtain ⟨T9, R9, rfl, hR9, hT9, hI9⟩ := pf.2.2.2.2.2.2.2.2.2.1 (haf.2.1)
          have HPF : Hid _ := pf
          clear pf
          go_wp2_with ((with_reducible refine wpList_storeTabL (x := .tmp 7) (y := .tmp 29) isTab12 B3 (List.replicate 12 zero7) R9 ?hx ?hy (Rows7.zero 12) hR9 hT3 ?_); (case hx => rfl); (case hy => rfl); intro w9 T5 g5)
          refine ⟨_, _, _, _, _, _, _, _, _, _, _, _, _, _, _, _, _, _, _, _, _, _, _, _, _, _, _, _, _, _, _, _, _, _, _, _, rfl, fun _ j hj => ?_, fun h => absurd h (by simp), fun _ => ⟨B3, T9, R9, rfl, hB3, hR9, hT9, hI9, T5, hJ.grown g5 hJ.size (fun q hq => by cases hq; exact hB3)⟩⟩
          have hcj : j = 0 ∨ j = 1 ∨ j = 2 ∨ j = 3 ∨ j = 4 ∨ j = 5 ∨ j = 6 ∨ j = 7 ∨ j = 8 ∨ j = 9 ∨ j = 10 := by omega
          rcases hcj with rfl | rfl | rfl | rfl | rfl | rfl | rfl | rfl | rfl | rfl | rfl <;> simp_all
      case he =>
        intro l a wr hI hall9
        obtain ⟨y0, y4, y5, y6, y8, y9, y10, y11, y12, y13, y14, y15, y16, y17, y18, y19, y30, y31, y32, y33, y34, y35, y36, y37, y38, x20, x21, x22, x23, x24, x25, x26, x27, x28, x29, x7, rfl, hall, hF, hlast⟩ := hI
        have hend := hlast (hall9 11 (by simp))
        clear hall hF hlast hall9
      --DLEH i
        obtain ⟨B, T, R, rfl, hB, hRR, hTT, hII, T5, b5⟩ := hend
        have L5 : Hid (Below w.heap.size w wr) := L2d.trans (b5.mono L2d.size)
        have P5 := (b5.block _ zP).trans HP2.out
        obtain ⟨c5, f5⟩ := one_cell P5
        have q5 := (b5.cell (p := ⟨gp, op + j, none⟩) zG).trans cp2
        have hlo := listsOf R B 0 ps[j].length 12 wr hpos h12 (tab_rows T5 hRR h12) (by rw [hRR.1]; exact h12)
        have HAT : Hid _ := take_inner hcp hj hT0 hTT hAI hII hAl hRR h12
        have h12' : (ps[j].length : Int) ≤ 12 := by omega
        clear T5 b5 P5 hz c2 cp2 f2 hto hrw
        go_wp2_with fail
        go_at_call 32
        refine hlo.mono ?_
        rintro e w6 ⟨u, us, rfl, o6, a6, b6⟩
        rw [HAT.out] at o6
        have HO6 : Hid _ := o6
        clear hlo o6
        go_wp2
        go_ret
        exact ⟨u, us, rfl, HO6.out.mono L5.out.size, a6, L5.out.trans (b6.mono L5.out.size)⟩

theorem implEffect (ps : List (List Stm)) (c : Int) (s : Stm) (A : List Int) (hA : EffA ps c s A) (v : Value) (w : World) (hl : ps.length ≤ maxLen) (hp : ∀ p ∈ ps, p.length ≤ maxLen) (hv : ReadsP w v ps) :
    Calls Try.prog 21 #[.agg #[v], .int .i64 c, .agg #[.int .i64 s.k, .int .i64 s.x, .int .i64 s.y]] w fun e w' => ∃ a, e = .returned a ∧ w'.ownsRow w.heap.size 59 1 a A.length (ints A) ∧ Below w.heap.size w w' := by
  obtain ⟨k, x, y⟩ := s
  dsimp only
  have hb0 : Below w.heap.size w ((w.alloc (.cells #[v] 26)).alloc (.cells #[.int .i64 k, .int .i64 x, .int .i64 y] 43)) := by go_grown
  have s0 : ((w.alloc (.cells #[v] 26)).alloc (.cells #[.int .i64 k, .int .i64 x, .int .i64 y] 43)).heap.size = w.heap.size + 1 + 1 := by simp
  have H0 : ((w.alloc (.cells #[v] 26)).alloc (.cells #[.int .i64 k, .int .i64 x, .int .i64 y] 43)).heap[w.heap.size]? = some (.cells #[v] 26 (0, 0)) := by
    rw [old_block (by simp)]; exact heap_alloc_new w _
  have H1 : ((w.alloc (.cells #[v] 26)).alloc (.cells #[.int .i64 k, .int .i64 x, .int .i64 y] 43)).heap[w.heap.size + 1]? = some (.cells #[.int .i64 k, .int .i64 x, .int .i64 y] 43 (0, 0)) := by
    have := heap_alloc_new (w.alloc (.cells #[v] 26)) (.cells #[.int .i64 k, .int .i64 x, .int .i64 y] 43)
    simpa using this
  have hcs0 := canSum ps c v _ hl hp (readsP_below hv hb0)
  have hst := implStmtOk k x y
  have nil : ∀ W, Below w.heap.size w W → W.ownsRow w.heap.size 59 1 (.slice none 0 0) ([] : List Int).length (ints []) := fun W _ => ⟨rfl, .inl ⟨rfl, rfl⟩⟩
  cases hok : okB ps c
  · rw [hok] at hcs0
    rw [hA.2 (by simp [canB, hok])]
    go_enter Try.func21, Try.ntmps21
    go_wp2_with (first
      | (go_at_call 30; refine hcs0.mono ?_; rintro e w2 ⟨rfl, b2⟩))
    go_ret
    have L2 := hb0.trans (b2.mono hb0.size)
    exact ⟨_, rfl, nil _ L2, L2⟩
  rw [hok] at hcs0
  obtain ⟨hpo, hc, hcp, h4⟩ := okB_parts hok
  cases h3 : stmtOk k x y
  · rw [h3] at hst
    rw [hA.2 (by simp [canB, h3])]
    go_enter Try.func21, Try.ntmps21
    go_wp2_with fail
    go_at_call 30
    refine hcs0.mono ?_
    rintro e w2 ⟨rfl, b2⟩
    have L2 := hb0.trans (b2.mono hb0.size)
    obtain ⟨c1, c2, c3, _⟩ := three_cells' ((b2.block (w.heap.size + 1) (by omega)).trans H1)
    go_wp2_with (first
      | (go_at_call 53; refine (hst _).mono ?_; rintro e w4 ⟨rfl, b4⟩))
    go_ret
    have L4 := L2.trans (b4.mono L2.size)
    exact ⟨_, rfl, nil _ L4, L4⟩
  · rw [h3] at hst
    obtain ⟨ao, cap, rfl, hcell⟩ := id hv
    have h4' : (ps.length : Int) ≤ 4 := by omega
    go_enter Try.func21, Try.ntmps21
    go_wp2_with fail
    go_at_call 30
    refine hcs0.mono ?_
    rintro e w2 ⟨rfl, b2⟩
    have L2 := hb0.trans (b2.mono hb0.size)
    have P2 := (b2.block w.heap.size (by omega)).trans H0
    have Q2 := (b2.block (w.heap.size + 1) (by omega)).trans H1
    obtain ⟨c1, c2, c3, _⟩ := three_cells' Q2
    have hst := hst w2
    go_wp2_with fail
    go_at_call 53
    refine hst.mono ?_
    rintro e w4 ⟨rfl, b4⟩
    have L4 := L2.trans (b4.mono L2.size)
    have s2 := b2.size
    have P4 := (b4.block w.heap.size (by omega)).trans P2
    have Q4 := (b4.block (w.heap.size + 1) (by omega)).trans Q2
    obtain ⟨d0, -⟩ := one_cell P4
    obtain ⟨d1, d2, d3, _⟩ := three_cells' Q4
    have zP : w.heap.size < w4.drew.heap.size := by show _ < w4.heap.size; have := b4.size; omega
    have zQ : w.heap.size + 1 < w4.drew.heap.size := by show _ < w4.heap.size; have := b4.size; omega
    have L4d : Below w.heap.size w w4.drew := L4.drew
    have hto := fun W (hW : Below w4.drew.heap.size w4.drew W) => tablesOf ps c (.slice ao ps.length cap) W hc hcp h4 (readsP_below hv (L4d.trans (hW.mono L4d.size)))
    clear c1 c2 c3 P2 Q2 H0 H1 hst hcell hcs0
    by_cases h8 : k = 8
    · subst h8
      obtain ⟨hy0, hy3⟩ := stmtOk_call h3
      obtain ⟨y, rfl⟩ : ∃ n : Nat, y = n := ⟨y.toNat, by omega⟩
      have hwi := within (y : Int) (ps.length : Int)
      by_cases hy : (y : Int) < (ps.length : Int)
      · have hcs : CanS ps.length ⟨8, x, (y : Int)⟩ := ⟨h3, fun _ => hy⟩
        obtain ⟨T0, hT0l, hT0, hT0e⟩ := hA.1 (by simp [canB, hok, h3]; omega)
        have hw8 : wiB (y : Int) (ps.length : Int) = true := by simp [wiB]; omega
        rw [hw8] at hwi
        clear hA
        go_wp2_with (go_at_call 46; refine (hwi _).mono ?_; rintro e w5 ⟨rfl, rfl⟩)
        --HELD f
        refine wp_region_inv (by kernel_rfl) (by kernel_rfl) (IEInv c ps ⟨8, x, (y : Int)⟩ (.slice ao ps.length cap) w.heap.size w4.drew.heap.size w4.drew) ?h0 ?hs ?he
        case h0 => exact ⟨_, _, _, _, _, _, _, _, _, _, _, _, _, _, _, _, _, _, _, _, _, _, _, _, _, _, _, _, _, _, _, _, _, _, _, rfl, by simp, fun _ => ⟨Below.refl _ _, by simp, by simp, by simp, by simp, by simp, by simp, by simp⟩, by simp⟩
        case hs =>
          intro l i o a wr ho hI hli haf
          obtain ⟨y0, y2, y4, y6, y8, y9, y10, y11, y12, y13, y14, y15, y16, y17, y18, y19, y20, y21, y22, y23, y24, y25, y26, y27, y28, y29, y30, y37, x31, x32, x33, x34, x35, x36, x7, rfl, hall, hF, hlast⟩ := hI
          have hi : i < 8 := (Array.getElem?_eq_some_iff.1 ho).1
          have h14 : l 7 = false := by
            cases h : l 7
            · rfl
            · by_cases e : i = 7
              · subst e; simp [h] at hli
              · have := hall h i (by omega); simp [this] at hli
          obtain ⟨hJ, pf⟩ := hF h14
          have H14 : Hid _ := h14
          clear hF hlast hall h14
          have hcases : i = 0 ∨ i = 1 ∨ i = 2 ∨ i = 3 ∨ i = 4 ∨ i = 5 ∨ i = 6 ∨ i = 7 := by omega
          rcases hcases with rfl | rfl | rfl | rfl | rfl | rfl | rfl | rfl
          · simp only [List.getElem?_toArray, List.getElem?_cons_zero, Option.some.injEq] at ho
            subst ho
            have HPF : Hid _ := pf
            clear pf
            go_wp2_with (fail)
            obtain ⟨p0, p1, p2, p3, p4, p5, p6⟩ := HPF.out
            exact ⟨_, _, _, _, _, _, _, _, _, _, _, _, _, _, _, _, _, _, _, _, _, _, _, _, _, _, _, _, _, _, _, _, _, _, _, rfl, fun h => absurd h (by simp [H14.out]), fun _ => ⟨hJ, fun _ => rfl, p1, p2, p3, p4, p5, p6⟩, fun h => absurd h (by simp [H14.out])⟩
          · simp only [List.getElem?_toArray, List.getElem?_cons_zero, List.getElem?_cons_succ, Option.some.injEq] at ho
            subst ho
            have HPF : Hid _ := pf
            clear pf
            have c9 := (hJ.cell (p := ⟨w.heap.size + 1, 0, none⟩) zQ).trans d1
            have c9b := (hJ.cell (p := ⟨w.heap.size + 1, 1, none⟩) zQ).trans d2
            have c9c := (hJ.cell (p := ⟨w.heap.size + 1, 2, none⟩) zQ).trans d3
            go_wp2_with (fail)
            obtain ⟨p0, p1, p2, p3, p4, p5, p6⟩ := HPF.out
            exact ⟨_, _, _, _, _, _, _, _, _, _, _, _, _, _, _, _, _, _, _, _, _, _, _, _, _, _, _, _, _, _, _, _, _, _, _, rfl, fun h => absurd h (by simp [H14.out]), fun _ => ⟨hJ, p0, fun _ => rfl, p2, p3, p4, p5, p6⟩, fun h => absurd h (by simp [H14.out])⟩
          · simp only [List.getElem?_toArray, List.getElem?_cons_zero, List.getElem?_cons_succ, Option.some.injEq] at ho
            subst ho
            have HPF : Hid _ := pf
            clear pf
            have c9 := (hJ.cell (p := ⟨w.heap.size, 0, none⟩) zP).trans d0
            go_wp2_with (fail)
            obtain ⟨p0, p1, p2, p3, p4, p5, p6⟩ := HPF.out
            exact ⟨_, _, _, _, _, _, _, _, _, _, _, _, _, _, _, _, _, _, _, _, _, _, _, _, _, _, _, _, _, _, _, _, _, _, _, rfl, fun h => absurd h (by simp [H14.out]), fun _ => ⟨hJ, p0, p1, fun _ => rfl, p3, p4, p5, p6⟩, fun h => absurd h (by simp [H14.out])⟩
          · simp only [List.getElem?_toArray, List.getElem?_cons_zero, List.getElem?_cons_succ, Option.some.injEq] at ho
            subst ho
            have HPF : Hid _ := pf
            clear pf
            go_wp2_with (fail)
            obtain ⟨p0, p1, p2, p3, p4, p5, p6⟩ := HPF.out
            exact ⟨_, _, _, _, _, _, _, _, _, _, _, _, _, _, _, _, _, _, _, _, _, _, _, _, _, _, _, _, _, _, _, _, _, _, _, rfl, fun h => absurd h (by simp [H14.out]), fun _ => ⟨hJ, p0, p1, p2, fun _ => rfl, p4, p5, p6⟩, fun h => absurd h (by simp [H14.out])⟩
          · simp only [List.getElem?_toArray, List.getElem?_cons_zero, List.getElem?_cons_succ, Option.some.injEq] at ho
            subst ho
            simp [Region.binds] at haf
            obtain rfl : x33 = _ := pf.2.2.1 (haf.1)
            obtain rfl : x34 = _ := pf.2.2.2.1 (haf.2)
            have HPF : Hid _ := pf
            clear pf
            go_wp2_with (go_at_call 31; refine (hto _ hJ).mono ?_; rintro e w9 ⟨R9, rfl, hRR9, hRI9, b9⟩)
            obtain ⟨p0, p1, p2, p3, p4, p5, p6⟩ := HPF.out
            exact ⟨_, _, _, _, _, _, _, _, _, _, _, _, _, _, _, _, _, _, _, _, _, _, _, _, _, _, _, _, _, _, _, _, _, _, _, rfl, fun h => absurd h (by simp [H14.out]), fun _ => ⟨hJ.trans (b9.mono hJ.size), p0, p1, fun _ => rfl, fun _ => rfl, fun _ => ⟨R9, rfl, hRR9, hRI9⟩, fun h => (p5 h).below b9, fun h => (p6 h).below b9⟩, fun h => absurd h (by simp [H14.out])⟩
          · simp only [List.getElem?_toArray, List.getElem?_cons_zero, List.getElem?_cons_succ, Option.some.injEq] at ho
            subst ho
            simp [Region.binds] at haf
            obtain rfl : x31 = _ := pf.1 (haf.1)
            obtain rfl : x32 = _ := pf.2.1 (haf.2.1)
            obtain ⟨R8, rfl, hR8, hI8⟩ := pf.2.2.2.2.1 (haf.2.2)
            have HPF : Hid _ := pf
            clear pf
            go_wp2_with (go_at_call 54; refine (effectWith c R8 ps.length ⟨8, x, (y : Int)⟩ _ hc h4 hcs hR8 hI8.good).mono ?_; rintro e w9 ⟨rfl, b9⟩)
            obtain ⟨p0, p1, p2, p3, p4, p5, p6⟩ := HPF.out
            exact ⟨_, _, _, _, _, _, _, _, _, _, _, _, _, _, _, _, _, _, _, _, _, _, _, _, _, _, _, _, _, _, _, _, _, _, _, rfl, fun h => absurd h (by simp [H14.out]), fun _ => ⟨hJ.trans (b9.mono hJ.size), fun _ => rfl, fun _ => rfl, p2, p3, fun h => (p4 h).below b9, fun _ => ⟨R8, rfl, hI8⟩, fun h => (p6 h).below b9⟩, fun h => absurd h (by simp [H14.out])⟩
          · simp only [List.getElem?_toArray, List.getElem?_cons_zero, List.getElem?_cons_succ, Option.some.injEq] at ho
            subst ho
            have HPF : Hid _ := pf
            clear pf
            go_wp2_with (fail)
            have b9 : Below wr.heap.size wr (wr.alloc (.cells #[.int .i64 0, .int .i64 0, .int .i64 0, .int .i64 0, .int .i64 0, .int .i64 0, .int .i64 0] 59)) := by go_grown
            obtain ⟨p0, p1, p2, p3, p4, p5, p6⟩ := HPF.out
            exact ⟨_, _, _, _, _, _, _, _, _, _, _, _, _, _, _, _, _, _, _, _, _, _, _, _, _, _, _, _, _, _, _, _, _, _, _, rfl, fun h => absurd h (by simp [H14.out]), fun _ => ⟨hJ.trans (b9.mono hJ.size), p0, p1, p2, p3, fun h => (p4 h).below b9, fun h => (p5 h).below b9, fun _ => ⟨wr.heap.size, rfl, hJ.size, by rw [zeros7]; exact heap_alloc_new wr _⟩⟩, fun h => absurd h (by simp [H14.out])⟩
          · simp only [List.getElem?_toArray, List.getElem?_cons_zero, List.getElem?_cons_succ, Option.some.injEq] at ho
            subst ho
            simp [Region.binds] at haf
            obtain ⟨B3, rfl, hB3, hr3⟩ := pf.2.2.2.2.2.2 (haf.1)
            obtain ⟨T9, rfl, hT9⟩ := pf.2.2.2.2.2.1 (haf.2.1)
            have HPF : Hid _ := pf
            clear pf
            have h79 : (effL c T9 ⟨8, x, (y : Int)⟩).length = 7 := (effL_smalls hc hT9.good hcs).1
            have H79 : Hid ((effL c T9 ⟨8, x, (y : Int)⟩).length = 7) := h79
            clear h79
            go_wp2_with ((with_reducible refine wpList_storeRelL (x := .tmp 7) (y := .tmp 36) B3 (List.replicate 7 0) (effL c T9 ⟨8, x, (y : Int)⟩) ?hx ?hy H79.out ?hz hr3 ?_); (case hx => rfl); (case hy => rfl); (case hz => rfl); intro w9 T5 g5)
            refine ⟨_, _, _, _, _, _, _, _, _, _, _, _, _, _, _, _, _, _, _, _, _, _, _, _, _, _, _, _, _, _, _, _, _, _, _, rfl, fun _ j hj => ?_, fun h => absurd h (by simp), fun _ => ⟨B3, T9, rfl, hB3, hT9, T5, hJ.grown g5 hJ.size (fun q hq => by cases hq; exact hB3)⟩⟩
            have hcj : j = 0 ∨ j = 1 ∨ j = 2 ∨ j = 3 ∨ j = 4 ∨ j = 5 ∨ j = 6 := by omega
            rcases hcj with rfl | rfl | rfl | rfl | rfl | rfl | rfl <;> simp_all
        case he =>
          intro l a wr hI hall9
          obtain ⟨y0, y2, y4, y6, y8, y9, y10, y11, y12, y13, y14, y15, y16, y17, y18, y19, y20, y21, y22, y23, y24, y25, y26, y27, y28, y29, y30, y37, x31, x32, x33, x34, x35, x36, x7, rfl, hall, hF, hlast⟩ := hI
          have hend := hlast (hall9 7 (by simp))
          clear hall hF hlast hall9
        --DLEH f
          obtain ⟨B, T, rfl, hB, hTT, hR5, b5⟩ := hend
          have e7 : (effL c T ⟨8, x, (y : Int)⟩).length = 7 := (effL_smalls hc hTT.good hcs).1
          have eA : A = effL c T ⟨8, x, (y : Int)⟩ := by
            rw [hT0e]
            exact effL_eq (fun i hi => hT0.uniq hTT hi) hcs
          have L5 : Hid (Below w.heap.size w wr) := L4d.trans (b5.mono L4d.size)
          have HO : Hid (wr.ownsRow w.heap.size 59 1 (.slice (some ⟨B, 0, none⟩) 7 7) A.length (ints A)) := by
            rw [eA, e7]
            exact RelAt.own hR5 (Nat.le_trans L4d.size hB) e7
          clear b5 hR5 eA e7
          go_wp2
          go_ret
          exact ⟨_, rfl, HO.out, L5.out⟩
      · obtain rfl := hA.2 (by simp [canB]; intro _ _; omega)
        have hw8 : wiB (y : Int) (ps.length : Int) = false := by simp [wiB]; omega
        rw [hw8] at hwi
        go_wp2_with (go_at_call 46; refine (hwi _).mono ?_; rintro e w5 ⟨rfl, rfl⟩)
        go_ret
        exact ⟨_, rfl, nil _ L4, L4⟩
    · have hcs : CanS ps.length ⟨k, x, y⟩ := ⟨h3, fun h => absurd h h8⟩
      obtain ⟨T0, hT0l, hT0, hT0e⟩ := hA.1 (by simp [canB, hok, h3, h8])
      clear hA
      go_wp2_with fail
      --HELD e
      refine wp_region_inv (by kernel_rfl) (by kernel_rfl) (IEInv c ps ⟨k, x, y⟩ (.slice ao ps.length cap) w.heap.size w4.drew.heap.size w4.drew) ?h0 ?hs ?he
      case h0 => exact ⟨_, _, _, _, _, _, _, _, _, _, _, _, _, _, _, _, _, _, _, _, _, _, _, _, _, _, _, _, _, _, _, _, _, _, _, rfl, by simp, fun _ => ⟨Below.refl _ _, by simp, by simp, by simp, by simp, by simp, by simp, by simp⟩, by simp⟩
      case hs =>
        intro l i o a wr ho hI hli haf
        obtain ⟨y0, y2, y4, y6, y8, y9, y10, y11, y12, y13, y14, y15, y16, y17, y18, y19, y20, y21, y22, y23, y24, y25, y26, y27, y28, y29, y30, y37, x31, x32, x33, x34, x35, x36, x7, rfl, hall, hF, hlast⟩ := hI
        have hi : i < 8 := (Array.getElem?_eq_some_iff.1 ho).1
        have h14 : l 7 = false := by
          cases h : l 7
          · rfl
          · by_cases e : i = 7
            · subst e; simp [h] at hli
            · have := hall h i (by omega); simp [this] at hli
        obtain ⟨hJ, pf⟩ := hF h14
        have H14 : Hid _ := h14
        clear hF hlast hall h14
        have hcases : i = 0 ∨ i = 1 ∨ i = 2 ∨ i = 3 ∨ i = 4 ∨ i = 5 ∨ i = 6 ∨ i = 7 := by omega
        rcases hcases with rfl | rfl | rfl | rfl | rfl | rfl | rfl | rfl
        · simp only [List.getElem?_toArray, List.getElem?_cons_zero, Option.some.injEq] at ho
          subst ho
          have HPF : Hid _ := pf
          clear pf
          go_wp2_with (fail)
          obtain ⟨p0, p1, p2, p3, p4, p5, p6⟩ := HPF.out
          exact ⟨_, _, _, _, _, _, _, _, _, _, _, _, _, _, _, _, _, _, _, _, _, _, _, _, _, _, _, _, _, _, _, _, _, _, _, rfl, fun h => absurd h (by simp [H14.out]), fun _ => ⟨hJ, fun _ => rfl, p1, p2, p3, p4, p5, p6⟩, fun h => absurd h (by simp [H14.out])⟩
        · simp only [List.getElem?_toArray, List.getElem?_cons_zero, List.getElem?_cons_succ, Option.some.injEq] at ho
          subst ho
          have HPF : Hid _ := pf
          clear pf
          have c9 := (hJ.cell (p := ⟨w.heap.size + 1, 0, none⟩) zQ).trans d1
          have c9b := (hJ.cell (p := ⟨w.heap.size + 1, 1, none⟩) zQ).trans d2
          have c9c := (hJ.cell (p := ⟨w.heap.size + 1, 2, none⟩) zQ).trans d3
          go_wp2_with (fail)
          obtain ⟨p0, p1, p2, p3, p4, p5, p6⟩ := HPF.out
          exact ⟨_, _, _, _, _, _, _, _, _, _, _, _, _, _, _, _, _, _, _, _, _, _, _, _, _, _, _, _, _, _, _, _, _, _, _, rfl, fun h => absurd h (by simp [H14.out]), fun _ => ⟨hJ, p0, fun _ => rfl, p2, p3, p4, p5, p6⟩, fun h => absurd h (by simp [H14.out])⟩
        · simp only [List.getElem?_toArray, List.getElem?_cons_zero, List.getElem?_cons_succ, Option.some.injEq] at ho
          subst ho
          have HPF : Hid _ := pf
          clear pf
          have c9 := (hJ.cell (p := ⟨w.heap.size, 0, none⟩) zP).trans d0
          go_wp2_with (fail)
          obtain ⟨p0, p1, p2, p3, p4, p5, p6⟩ := HPF.out
          exact ⟨_, _, _, _, _, _, _, _, _, _, _, _, _, _, _, _, _, _, _, _, _, _, _, _, _, _, _, _, _, _, _, _, _, _, _, rfl, fun h => absurd h (by simp [H14.out]), fun _ => ⟨hJ, p0, p1, fun _ => rfl, p3, p4, p5, p6⟩, fun h => absurd h (by simp [H14.out])⟩
        · simp only [List.getElem?_toArray, List.getElem?_cons_zero, List.getElem?_cons_succ, Option.some.injEq] at ho
          subst ho
          have HPF : Hid _ := pf
          clear pf
          go_wp2_with (fail)
          obtain ⟨p0, p1, p2, p3, p4, p5, p6⟩ := HPF.out
          exact ⟨_, _, _, _, _, _, _, _, _, _, _, _, _, _, _, _, _, _, _, _, _, _, _, _, _, _, _, _, _, _, _, _, _, _, _, rfl, fun h => absurd h (by simp [H14.out]), fun _ => ⟨hJ, p0, p1, p2, fun _ => rfl, p4, p5, p6⟩, fun h => absurd h (by simp [H14.out])⟩
        · simp only [List.getElem?_toArray, List.getElem?_cons_zero, List.getElem?_cons_succ, Option.some.injEq] at ho
          subst ho
          simp [Region.binds] at haf
          obtain rfl : x33 = _ := pf.2.2.1 (haf.1)
          obtain rfl : x34 = _ := pf.2.2.2.1 (haf.2)
          have HPF : Hid _ := pf
          clear pf
          go_wp2_with (go_at_call 31; refine (hto _ hJ).mono ?_; rintro e w9 ⟨R9, rfl, hRR9, hRI9, b9⟩)
          obtain ⟨p0, p1, p2, p3, p4, p5, p6⟩ := HPF.out
          exact ⟨_, _, _, _, _, _, _, _, _, _, _, _, _, _, _, _, _, _, _, _, _, _, _, _, _, _, _, _, _, _, _, _, _, _, _, rfl, fun h => absurd h (by simp [H14.out]), fun _ => ⟨hJ.trans (b9.mono hJ.size), p0, p1, fun _ => rfl, fun _ => rfl, fun _ => ⟨R9, rfl, hRR9, hRI9⟩, fun h => (p5 h).below b9, fun h => (p6 h).below b9⟩, fun h => absurd h (by simp [H14.out])⟩
        · simp only [List.getElem?_toArray, List.getElem?_cons_zero, List.getElem?_cons_succ, Option.some.injEq] at ho
          subst ho
          simp [Region.binds] at haf
          obtain rfl : x31 = _ := pf.1 (haf.1)
          obtain rfl : x32 = _ := pf.2.1 (haf.2.1)
          obtain ⟨R8, rfl, hR8, hI8⟩ := pf.2.2.2.2.1 (haf.2.2)
          have HPF : Hid _ := pf
          clear pf
          go_wp2_with (go_at_call 54; refine (effectWith c R8 ps.length ⟨k, x, y⟩ _ hc h4 hcs hR8 hI8.good).mono ?_; rintro e w9 ⟨rfl, b9⟩)
          obtain ⟨p0, p1, p2, p3, p4, p5, p6⟩ := HPF.out
          exact ⟨_, _, _, _, _, _, _, _, _, _, _, _, _, _, _, _, _, _, _, _, _, _, _, _, _, _, _, _, _, _, _, _, _, _, _, rfl, fun h => absurd h (by simp [H14.out]), fun _ => ⟨hJ.trans (b9.mono hJ.size), fun _ => rfl, fun _ => rfl, p2, p3, fun h => (p4 h).below b9, fun _ => ⟨R8, rfl, hI8⟩, fun h => (p6 h).below b9⟩, fun h => absurd h (by simp [H14.out])⟩
        · simp only [List.getElem?_toArray, List.getElem?_cons_zero, List.getElem?_cons_succ, Option.some.injEq] at ho
          subst ho
          have HPF : Hid _ := pf
          clear pf
          go_wp2_with (fail)
          have b9 : Below wr.heap.size wr (wr.alloc (.cells #[.int .i64 0, .int .i64 0, .int .i64 0, .int .i64 0, .int .i64 0, .int .i64 0, .int .i64 0] 59)) := by go_grown
          obtain ⟨p0, p1, p2, p3, p4, p5, p6⟩ := HPF.out
          exact ⟨_, _, _, _, _, _, _, _, _, _, _, _, _, _, _, _, _, _, _, _, _, _, _, _, _, _, _, _, _, _, _, _, _, _, _, rfl, fun h => absurd h (by simp [H14.out]), fun _ => ⟨hJ.trans (b9.mono hJ.size), p0, p1, p2, p3, fun h => (p4 h).below b9, fun h => (p5 h).below b9, fun _ => ⟨wr.heap.size, rfl, hJ.size, by rw [zeros7]; exact heap_alloc_new wr _⟩⟩, fun h => absurd h (by simp [H14.out])⟩
        · simp only [List.getElem?_toArray, List.getElem?_cons_zero, List.getElem?_cons_succ, Option.some.injEq] at ho
          subst ho
          simp [Region.binds] at haf
          obtain ⟨B3, rfl, hB3, hr3⟩ := pf.2.2.2.2.2.2 (haf.1)
          obtain ⟨T9, rfl, hT9⟩ := pf.2.2.2.2.2.1 (haf.2.1)
          have HPF : Hid _ := pf
          clear pf
          have h79 : (effL c T9 ⟨k, x, y⟩).length = 7 := (effL_smalls hc hT9.good hcs).1
          have H79 : Hid ((effL c T9 ⟨k, x, y⟩).length = 7) := h79
          clear h79
          go_wp2_with ((with_reducible refine wpList_storeRelL (x := .tmp 7) (y := .tmp 36) B3 (List.replicate 7 0) (effL c T9 ⟨k, x, y⟩) ?hx ?hy H79.out ?hz hr3 ?_); (case hx => rfl); (case hy => rfl); (case hz => rfl); intro w9 T5 g5)
          refine ⟨_, _, _, _, _, _, _, _, _, _, _, _, _, _, _, _, _, _, _, _, _, _, _, _, _, _, _, _, _, _, _, _, _, _, _, rfl, fun _ j hj => ?_, fun h => absurd h (by simp), fun _ => ⟨B3, T9, rfl, hB3, hT9, T5, hJ.grown g5 hJ.size (fun q hq => by cases hq; exact hB3)⟩⟩
          have hcj : j = 0 ∨ j = 1 ∨ j = 2 ∨ j = 3 ∨ j = 4 ∨ j = 5 ∨ j = 6 := by omega
          rcases hcj with rfl | rfl | rfl | rfl | rfl | rfl | rfl <;> simp_all
      case he =>
        intro l a wr hI hall9
        obtain ⟨y0, y2, y4, y6, y8, y9, y10, y11, y12, y13, y14, y15, y16, y17, y18, y19, y20, y21, y22, y23, y24, y25, y26, y27, y28, y29, y30, y37, x31, x32, x33, x34, x35, x36, x7, rfl, hall, hF, hlast⟩ := hI
        have hend := hlast (hall9 7 (by simp))
        clear hall hF hlast hall9
      --DLEH e
        obtain ⟨B, T, rfl, hB, hTT, hR5, b5⟩ := hend
        have e7 : (effL c T ⟨k, x, y⟩).length = 7 := (effL_smalls hc hTT.good hcs).1
        have eA : A = effL c T ⟨k, x, y⟩ := by
          rw [hT0e]
          exact effL_eq (fun i hi => hT0.uniq hTT hi) hcs
        have L5 : Hid (Below w.heap.size w wr) := L4d.trans (b5.mono L4d.size)
        have HO : Hid (wr.ownsRow w.heap.size 59 1 (.slice (some ⟨B, 0, none⟩) 7 7) A.length (ints A)) := by
          rw [eA, e7]
          exact RelAt.own hR5 (Nat.le_trans L4d.size hB) e7
        clear b5 hR5 eA e7
        go_wp2
        go_ret
        exact ⟨_, rfl, HO.out, L5.out⟩

end Go.Proofs.Ytgandekciocalaa
