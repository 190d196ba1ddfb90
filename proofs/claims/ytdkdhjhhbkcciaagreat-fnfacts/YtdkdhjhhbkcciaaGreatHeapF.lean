/-
 The program's heap: Len, Less, Swap, Push, Pop of visits; cmp and slices under them.
-/
import Derived.Test.YtdkdhjhhbkcciaaGreatG28VisitsM
import Derived.Test.YtdkdhjhhbkcciaaGreatG00Put
import Derived.BigRegion
import Derived.Deep.RegionHeld3
namespace Go.Proofs.YtdkdhjhhbkcciaaGreat
open Go.RowKit
set_option linter.unusedVariables false
set_option maxHeartbeats 2000000
set_option maxRecDepth 20000
def sgn (x y : Int) : Int := if x < y then -1 else if y < x then 1 else 0
theorem cmpInt (x y : Int) (w : World) : Calls Tryz.prog 136 #[.int .i64 x, .int .i64 y] w fun e w' => e = .returned (.int .i64 (sgn x y)) ∧ w = w' := by
 have hn : ∀ (a : Int) W, Calls Tryz.prog 138 #[.int .i64 a] W fun e w' => e = .returned (.bool false) ∧ W = w' := fun a W => by
  go_enter Tryz.func138, Tryz.ntmps138
  go_wp2
  go_ret
  exact ⟨by simp, rfl⟩
 unfold sgn
 by_cases h1 : x < y
 · rw [if_pos h1]
   go_enter Tryz.func136, Tryz.ntmps136
   go_wp2_with (go_at_call 138; refine (hn _ _).mono ?_; rintro e w1 ⟨rfl, rfl⟩)
   go_ret
   exact ⟨rfl, rfl⟩
 · rw [if_neg h1]
   by_cases h2 : y < x
   · rw [if_pos h2]
     go_enter Tryz.func136, Tryz.ntmps136
     go_wp2_with (go_at_call 138; refine (hn _ _).mono ?_; rintro e w1 ⟨rfl, rfl⟩)
     go_ret
     exact ⟨rfl, rfl⟩
   · rw [if_neg h2]
     go_enter Tryz.func136, Tryz.ntmps136
     go_wp2_with (go_at_call 138; refine (hn _ _).mono ?_; rintro e w1 ⟨rfl, rfl⟩)
     go_ret
     exact ⟨rfl, rfl⟩
theorem cmpInt64 (x y : Int) (w : World) : Calls Tryz.prog 139 #[.int .i64 x, .int .i64 y] w fun e w' => e = .returned (.int .i64 (sgn x y)) ∧ w = w' := by
 have hn : ∀ (a : Int) W, Calls Tryz.prog 140 #[.int .i64 a] W fun e w' => e = .returned (.bool false) ∧ W = w' := fun a W => by
  go_enter Tryz.func140, Tryz.ntmps140
  go_wp2
  go_ret
  exact ⟨by simp, rfl⟩
 unfold sgn
 by_cases h1 : x < y
 · rw [if_pos h1]
   go_enter Tryz.func139, Tryz.ntmps139
   go_wp2_with (go_at_call 140; refine (hn _ _).mono ?_; rintro e w1 ⟨rfl, rfl⟩)
   go_ret
   exact ⟨rfl, rfl⟩
 · rw [if_neg h1]
   by_cases h2 : y < x
   · rw [if_pos h2]
     go_enter Tryz.func139, Tryz.ntmps139
     go_wp2_with (go_at_call 140; refine (hn _ _).mono ?_; rintro e w1 ⟨rfl, rfl⟩)
     go_ret
     exact ⟨rfl, rfl⟩
   · rw [if_neg h2]
     go_enter Tryz.func139, Tryz.ntmps139
     go_wp2_with (go_at_call 140; refine (hn _ _).mono ?_; rintro e w1 ⟨rfl, rfl⟩)
     go_ret
     exact ⟨rfl, rfl⟩
def lexC : List Int → List Int → Int
 | [], [] => 0
 | [], _ :: _ => -1
 | _ :: _, [] => 1
 | x :: a, y :: b => if sgn x y = 0 then lexC a b else sgn x y
theorem lexC_lt : ∀ a b : List Int, decide (lexC a b < 0) = lexB a b
 | [], [] => rfl
 | [], _ :: _ => rfl
 | _ :: _, [] => rfl
 | x :: a, y :: b => by
  have ih := lexC_lt a b
  unfold lexC lexB sgn
  by_cases h1 : x < y
  · simp [h1]
  · by_cases h2 : y < x
    · have : ¬ x = y := by omega
      simp [h1, h2, this]
    · have : x = y := by omega
      subst this
      simp [ih]
theorem sgn_range (x y : Int) : -1 ≤ sgn x y ∧ sgn x y ≤ 1 := by
 unfold sgn
 split
 · omega
 · split <;> omega
theorem lexC_range : ∀ a b : List Int, -1 ≤ lexC a b ∧ lexC a b ≤ 1
 | [], [] => by simp [lexC]
 | [], _ :: _ => by simp [lexC]
 | _ :: _, [] => by simp [lexC]
 | x :: a, y :: b => by
  have ih := lexC_range a b
  unfold lexC
  split
  · exact ih
  · exact sgn_range x y
theorem lexC_at {xs ys : List Int} {k : Nat} (hx : k < xs.length) (hy : k < ys.length) : lexC (xs.drop k) (ys.drop k) = if sgn (xs.getD k 0) (ys.getD k 0) = 0 then lexC (xs.drop (k + 1)) (ys.drop (k + 1)) else sgn (xs.getD k 0) (ys.getD k 0) := by
 rw [List.drop_eq_getElem_cons hx, List.drop_eq_getElem_cons hy]
 simp only [lexC, List.getD, List.getElem?_eq_getElem hx, List.getElem?_eq_getElem hy, Option.getD_some]
theorem slicesCompare (xs ys : List Int) (v u : Value) (w : World) (hx : xs.length ≤ maxLen) (hy : ys.length ≤ maxLen) (hv : Reads w v (ints xs)) (hu : Reads w u (ints ys)) :
 Calls Tryz.prog 137 #[v, u] w fun e w' => e = .returned (.int .i64 (lexC xs ys)) ∧ w = w' := by
 unfold maxLen at hx hy
 obtain ⟨ao, cap, rfl, hc⟩ := hv
 obtain ⟨bo, bcap, rfl, hd⟩ := hu
 rw [ints_length, ints_length]
 obtain ⟨R, hR⟩ : ∃ R, lexC xs ys = R := ⟨_, rfl⟩
 rw [hR]
 have HR : Hid _ := hR
 clear hR
 go_enter Tryz.func137, Tryz.ntmps137
 go_wp2
 go_loopw [11] (fun i wr => ∃ k : Nat, k ≤ xs.length ∧ k ≤ ys.length ∧ i = .int .i64 k ∧ lexC (xs.drop k) (ys.drop k) = R ∧ w = wr) (fun i _ => xs.length - (intOf i).toNat)
 case atStart => exact ⟨0, Nat.zero_le _, Nat.zero_le _, rfl, HR.out, rfl⟩
 case round =>
  obtain ⟨k, hkx, hky, rfl, hrr, rfl⟩ := hrel
  have HQ : Hid _ := hrr
  clear hrr
  by_cases hlt : k < xs.length
  · have hlt' : (k : Int) < (xs.length : Int) := by omega
    obtain ⟨g, off, rfl, hg⟩ := hc k (.int .i64 (xs.getD k 0)) (by simp [ints, List.getD, hlt])
    by_cases hlu : k < ys.length
    · have hlu' : ¬ (ys.length : Int) ≤ (k : Int) := by omega
      have hlu2 : (k : Int) < (ys.length : Int) := by omega
      obtain ⟨g2, off2, rfl, hg2⟩ := hd k (.int .i64 (ys.getD k 0)) (by simp [ints, List.getD, hlu])
      have HL : Hid _ := lexC_at hlt hlu
      have hcm := fun W => cmpInt64 (xs.getD k 0) (ys.getD k 0) W
      generalize xs.getD k 0 = x at *
      generalize ys.getD k 0 = y at *
      have hsr := sgn_range x y
      generalize sgn x y = z at *
      clear hc hd
      by_cases hz : z = 0
      · have hz' : (z != 0) = false := by simpa using hz
        have HN : Hid (lexC (xs.drop (k + 1)) (ys.drop (k + 1)) = R) := by
         show _ = R
         have := HL.out
         rw [if_pos hz] at this
         rw [← this]; exact HQ.out
        clear HL
        subst hz
        go_wp2_with (go_at_call 139; refine (hcm _).mono ?_; rintro e w5 ⟨rfl, rfl⟩)
        go_roundw
        case rel => exact ⟨k + 1, by omega, by omega, by go_num, HN.out, by first | trivial | rfl⟩
        case measure => simp [intOf]; omega
      · have hz' : (z != 0) = true := by simpa using hz
        have HN : Hid (z = R) := by
         show z = R
         have := HL.out
         rw [if_neg hz] at this
         rw [← this]; exact HQ.out
        clear HL
        go_wp2_with (go_at_call 139; refine (hcm _).mono ?_; rintro e w5 ⟨rfl, rfl⟩)
        go_ret
        exact ⟨by rw [← HN.out]; rfl, rfl⟩
    · have hlu' : (ys.length : Int) ≤ (k : Int) := by omega
      have HN : Hid (R = 1) := by
       show R = 1
       rw [← HQ.out, List.drop_eq_getElem_cons hlt, List.drop_of_length_le (by omega : ys.length ≤ k)]; rfl
      generalize xs.getD k 0 = x at *
      clear hc hd
      go_wp2
      go_ret
      exact ⟨by rw [HN.out]; rfl, rfl⟩
  · obtain rfl : k = xs.length := by omega
    by_cases hlu : xs.length < ys.length
    · have hlu' : (xs.length : Int) < (ys.length : Int) := by omega
      have HN : Hid (R = -1) := by
       show R = -1
       rw [← HQ.out, List.drop_eq_getElem_cons hlu, List.drop_of_length_le (Nat.le_refl _)]; rfl
      clear hc hd
      go_wp2
      go_ret
      exact ⟨by rw [HN.out]; rfl, rfl⟩
    · have hlu' : ¬ (xs.length : Int) < (ys.length : Int) := by omega
      have HN : Hid (R = 0) := by
       show R = 0
       rw [← HQ.out, List.drop_of_length_le (by omega : ys.length ≤ xs.length), List.drop_of_length_le (Nat.le_refl _)]; rfl
      clear hc hd
      go_wp2
      go_ret
      exact ⟨by rw [HN.out]; rfl, rfl⟩
theorem cmpOr (x y : Int) (v : Value) (w : World) (hv : Reads w v [.int .i64 x, .int .i64 y]) :
 Calls Tryz.prog 135 #[v] w fun e w' => e = .returned (.int .i64 (if x = 0 then y else x)) ∧ w = w' := by
 obtain ⟨ao, cap, rfl, hc⟩ := hv
 obtain ⟨g, off, rfl, h0⟩ := hc 0 _ rfl
 obtain ⟨g', off', e, h1⟩ := hc 1 _ rfl
 simp only [Option.some.injEq, Addr.mk.injEq, and_true] at e
 obtain ⟨rfl, rfl⟩ := e
 rw [Nat.add_zero] at h0
 clear hc
 simp only [List.length_cons, List.length_nil, Nat.zero_add, Nat.reduceAdd]
 by_cases hx : x = 0
 · rw [if_pos hx]
   subst hx
   have hy : (y != 0) = true ∨ y = 0 := by by_cases h : y = 0
                                           · exact .inr h
                                           · exact .inl (by simpa using h)
   rcases hy with hy | rfl
   · go_enter Tryz.func135, Tryz.ntmps135
     go_wp2
     refine wp_loop_rounds 3 ?_
     rw [rounds_succ]
     go_wp2
     rw [rounds_succ]
     go_wp2
     go_ret
     exact ⟨rfl, rfl⟩
   · go_enter Tryz.func135, Tryz.ntmps135
     go_wp2
     refine wp_loop_rounds 3 ?_
     rw [rounds_succ]
     go_wp2
     rw [rounds_succ]
     go_wp2
     rw [rounds_succ]
     go_wp2
     go_ret
     exact ⟨rfl, rfl⟩
 · rw [if_neg hx]
   have hx' : (x != 0) = true := by simpa using hx
   go_enter Tryz.func135, Tryz.ntmps135
   go_wp2
   refine wp_loop_rounds 3 ?_
   rw [rounds_succ]
   go_wp2
   go_ret
   exact ⟨rfl, rfl⟩
theorem two_reads (w : World) (x y : Value) (t : TypeId) : Reads (w.alloc (.cells #[x, y] t)) (.slice (some ⟨w.heap.size, 0, none⟩) 2 2) [x, y] := by
 refine ⟨some ⟨w.heap.size, 0, none⟩, 2, rfl, fun j z hz => ⟨w.heap.size, 0, rfl, ?_⟩⟩
 rw [Nat.zero_add, cell_of_row _ _ j _ t (0, 0) (heap_alloc_new w _)]
 simpa using hz
def cellsV : List Vis → List Value
 | [] => []
 | x :: L => x.u :: .int .i64 x.set :: cellsV L
theorem cellsV_length : ∀ L : List Vis, (cellsV L).length = L.length * 2
 | [] => rfl
 | x :: L => by simp [cellsV, cellsV_length L]; omega
theorem cellsV_get : ∀ (L : List Vis) (j : Nat), j < L.length → (cellsV L)[j * 2]? = some (L.getD j vis0).u ∧ (cellsV L)[j * 2 + 1]? = some (.int .i64 (L.getD j vis0).set)
 | [], j, h => by simp at h
 | x :: L, 0, _ => by simp [cellsV]
 | x :: L, j + 1, h => by
  have := cellsV_get L j (by simpa using h)
  have e : (j + 1) * 2 = j * 2 + 1 + 1 := by omega
  simp only [e, cellsV, List.getElem?_cons_succ, List.getD_cons_succ]
  exact this
theorem cellsV_append : ∀ (a b : List Vis), cellsV (a ++ b) = cellsV a ++ cellsV b
 | [], b => rfl
 | x :: a, b => by simp [cellsV, cellsV_append a b]
theorem visLen (a : Option Addr) (n c : Nat) (w : World) : Calls Tryz.prog 132 #[.slice a n c] w fun e w' => e = .returned (.int .i64 n) ∧ w = w' := by
 go_enter Tryz.func132, Tryz.ntmps132
 go_wp2
 go_ret
 exact ⟨rfl, rfl⟩
theorem visLess (n cap g i j : Nat) (a b : Value) (xs ys : List Int) (w : World) (hi : i < n) (hj : j < n) (hn : n ≤ maxLen) (ha : w.cell? ⟨g, i * 2, none⟩ = some a) (hb : w.cell? ⟨g, j * 2, none⟩ = some b) (hx : xs.length ≤ maxLen) (hy : ys.length ≤ maxLen) (hv : Reads w a (ints xs)) (hu : Reads w b (ints ys)) :
 Calls Tryz.prog 133 #[.slice (some ⟨g, 0, none⟩) n cap, .int .i64 i, .int .i64 j] w fun e w' => e = .returned (.bool (wlt xs ys)) ∧ Below w.heap.size w w' := by
 unfold maxLen at hn
 have hi' : (i : Int) < (n : Int) := by omega
 have hj' : (j : Int) < (n : Int) := by omega
 have hi0 : (0 : Int) ≤ (i : Int) := by omega
 have hj0 : (0 : Int) ≤ (j : Int) := by omega
 go_enter Tryz.func133, Tryz.ntmps133
 obtain ⟨ao, ac, hae, _⟩ := id hv
 obtain ⟨bo, bc, hbe, _⟩ := id hu
 rw [ints_length] at hae hbe
 unfold maxLen at hx hy
 have hci := fun W => cmpInt (xs.length : Int) (ys.length : Int) W
 have hsc := fun W (hW : Below w.heap.size w W) => slicesCompare xs ys a b W (by unfold maxLen; omega) (by unfold maxLen; omega) (reads_below hv hW) (reads_below hu hW)
 have HW : Hid (wlt xs ys = decide ((if sgn (xs.length : Int) (ys.length : Int) = 0 then lexC xs ys else sgn (xs.length : Int) (ys.length : Int)) < 0)) := by
  show wlt xs ys = _
  unfold wlt sgn
  by_cases h1 : xs.length < ys.length
  · have : (xs.length : Int) < (ys.length : Int) := by omega
    simp [h1]
  · by_cases h2 : ys.length < xs.length
    · have : ¬ xs.length = ys.length := by omega
      simp [h1, h2, this]
    · have : xs.length = ys.length := by omega
      have h := lexC_lt xs ys
      simp [this, ← h]
 have r1 := sgn_range (xs.length : Int) (ys.length : Int)
 have r2 := lexC_range xs ys
 generalize sgn (xs.length : Int) (ys.length : Int) = z1 at *
 generalize lexC xs ys = z2 at *
 clear hv hu
 subst hae hbe
 go_wp2_with fail
 go_region
 have D0 : Below w.heap.size w w.drew := by go_grown
 have hor := cmpOr z1 z2 (.slice (some ⟨w.heap.size, 0, none⟩) 2 2) (w.alloc (.cells #[.int .i64 z1, .int .i64 z2] 3)).drew (reads_below (two_reads w _ _ _) (by go_grown))
 obtain ⟨z3, hz3⟩ : ∃ z3, (if z1 = 0 then z2 else z1) = z3 := ⟨_, rfl⟩
 rw [hz3] at hor HW
 have r3 : -1 ≤ z3 ∧ z3 ≤ 1 := by rw [← hz3]; split <;> omega
 clear hz3
 go_wp2_with (first
  | (go_at_call 136; refine (hci _).mono ?_; rintro e w1 ⟨rfl, rfl⟩)
  | (go_at_call 137; refine (hsc _ D0).mono ?_; rintro e w1 ⟨rfl, rfl⟩)
  | (go_at_call 135; refine hor.mono ?_; rintro e w1 ⟨rfl, rfl⟩))
 go_ret
 refine ⟨by rw [HW.out]; rfl, by go_grown⟩
theorem vis_find (name : String) (f n Wb : Nat) (sv : Value) (w : World) (hf : (Tryz.prog.info? 118).bind (fun i => (i.methods.find? (·.name == name)).map (fun m => (m.path.toList, m.func))) = some ([], some (f, false)))
 (hc : w.cell? ⟨Wb, 0, none⟩ = some sv) (hs : ∃ a n c, sv = .slice a n c) : (method (n + 1) 118 (.pointer (some ⟨Wb, 0, none⟩)) name).run Tryz.prog w = .ok (f, sv) w := by
 obtain ⟨sa, sn, sc, rfl⟩ := hs
 obtain ⟨i, hi, hf⟩ := Option.bind_eq_some_iff.1 hf
 obtain ⟨m, hm, hmf⟩ := Option.map_eq_some_iff.1 hf
 simp only [Prod.mk.injEq] at hmf
 obtain ⟨h1, h2⟩ := hmf
 have hw : ∀ (s1 s2 : String), (Builtin.ssaWrapNilChk_ #[118] 118 #[.pointer (some ⟨Wb, 0, none⟩), strVal s1, strVal s2]).run Tryz.prog w = .ok (.pointer (some ⟨Wb, 0, none⟩)) w := fun _ _ => rfl
 have hp : m.path = #[] := by cases hh : m.path; rw [hh] at h1; simp at h1; rw [h1]
 unfold method
 simp [go_sem, typeInfo, hi, hm, hp, h2, follow, receiverAt, hc, Place.get, hw]
theorem vis_len (n Wb : Nat) (a : Option Addr) (m c : Nat) (w : World) (hc : w.cell? ⟨Wb, 0, none⟩ = some (.slice a m c)) : (method (n + 1) 118 (.pointer (some ⟨Wb, 0, none⟩)) "Len").run Tryz.prog w = .ok (132, .slice a m c) w :=
 vis_find "Len" _ n Wb _ w (by kernel_rfl) hc ⟨a, m, c, rfl⟩
theorem vis_less (n Wb : Nat) (a : Option Addr) (m c : Nat) (w : World) (hc : w.cell? ⟨Wb, 0, none⟩ = some (.slice a m c)) : (method (n + 1) 118 (.pointer (some ⟨Wb, 0, none⟩)) "Less").run Tryz.prog w = .ok (133, .slice a m c) w :=
 vis_find "Less" _ n Wb _ w (by kernel_rfl) hc ⟨a, m, c, rfl⟩
theorem vis_swap (n Wb : Nat) (a : Option Addr) (m c : Nat) (w : World) (hc : w.cell? ⟨Wb, 0, none⟩ = some (.slice a m c)) : (method (n + 1) 118 (.pointer (some ⟨Wb, 0, none⟩)) "Swap").run Tryz.prog w = .ok (134, .slice a m c) w :=
 vis_find "Swap" _ n Wb _ w (by kernel_rfl) hc ⟨a, m, c, rfl⟩
theorem cellsV_set : ∀ (L : List Vis) (i : Nat) (z : Vis), cellsV (L.set i z) = ((cellsV L).set (i * 2) z.u).set (i * 2 + 1) (.int .i64 z.set)
 | [], i, z => by simp [cellsV]
 | x :: L, 0, z => by simp [cellsV]
 | x :: L, i + 1, z => by
  have e : (i + 1) * 2 = i * 2 + 1 + 1 := by omega
  simp only [List.set_cons_succ, cellsV, e, cellsV_set L i z]
abbrev RowV (w : World) (base g cap : Nat) (L : List Vis) : Prop := w.ownsRow base 95 2 (.slice (some ⟨g, 0, none⟩) L.length cap) L.length (cellsV L)
theorem RowV.at {w : World} {base g cap : Nat} {L : List Vis} (h : RowV w base g cap L) {j : Nat} (hj : j < L.length) : w.cell? ⟨g, j * 2, none⟩ = some (L.getD j vis0).u ∧ w.cell? ⟨g, j * 2 + 1, none⟩ = some (.int .i64 (L.getD j vis0).set) := by
 obtain ⟨a, b⟩ := cellsV_get L j hj
 rw [h.cellAt (j * 2) (by omega), h.cellAt (j * 2 + 1) (by omega)]
 exact ⟨a, b⟩
theorem RowV.le {w : World} {base g cap : Nat} {L : List Vis} (h : RowV w base g cap L) : L.length ≤ cap ∧ cap ≤ maxLen ∧ base ≤ g ∧ g < w.heap.size := by
 rcases h.2 with ⟨h, _⟩ | ⟨g', cap', cur, h1, h2, h3, h4, h5, _⟩
 · cases h
 · cases h1
   exact ⟨h4, h5, h2, (Array.getElem?_eq_some_iff.1 h3).1⟩
theorem visSwap (L : List Vis) (base cap g i j : Nat) (w : World) (hi : i < L.length) (hj : j < L.length) (hrow : RowV w base g cap L) (hsl : ∀ x ∈ L, ∃ o m c, x.u = .slice o m c) :
 Calls Tryz.prog 134 #[.slice (some ⟨g, 0, none⟩) L.length cap, .int .i64 i, .int .i64 j] w fun e w' => (∃ v, e = .returned v) ∧ RowV w' base g cap (swp L i j) ∧ w.grownBy w' (some g) := by
 have hle := hrow.le
 have hn : L.length ≤ 9223372036854775807 := by have := hle.1; have := hle.2.1; unfold maxLen at this; omega
 obtain ⟨ha, ha'⟩ := hrow.at hi
 obtain ⟨hb, hb'⟩ := hrow.at hj
 have h1 := hrow.stored (i * 2) (L.getD j vis0).u
 have h2 := h1.1.stored (i * 2 + 1) (.int .i64 (L.getD j vis0).set)
 have h3 := h2.1.stored (j * 2) (L.getD i vis0).u
 have h4 := h3.1.stored (j * 2 + 1) (.int .i64 (L.getD i vis0).set)
 have hg4 := grown_trans (grown_trans (grown_trans h1.2 h2.2) h3.2) h4.2
 have h4' := h4.1
 rw [← cellsV_set, ← cellsV_set] at h4'
 obtain ⟨z1, k1⟩ := own_cell h2.1 (j * 2) (by omega)
 obtain ⟨z2, k2⟩ := own_cell h2.1 (j * 2 + 1) (by omega)
 have f0 := hrow.frozenAt (i * 2)
 have f1 := hrow.frozenAt (i * 2 + 1)
 have f2 := hrow.frozenAt (j * 2)
 have f3 := hrow.frozenAt (j * 2 + 1)
 have hx4 : (((((w.setCell ⟨g, i * 2, none⟩ (L.getD j vis0).u).setCell ⟨g, i * 2 + 1, none⟩ (.int .i64 (L.getD j vis0).set)).setCell ⟨g, j * 2, none⟩ (L.getD i vis0).u).setCell ⟨g, j * 2 + 1, none⟩ (.int .i64 (L.getD i vis0).set)).ownsRow base 95 2 (.slice (some ⟨g, 0, none⟩) (swp L i j).length cap) (swp L i j).length (cellsV (swp L i j))) := by
  rw [swp_length]
  exact h4'
 have HX : Hid _ := hx4
 clear hx4
 have HG : Hid _ := hg4
 obtain ⟨o1, m1, c1, e1⟩ := hsl (L.getD i vis0) (mem_getD.2 ⟨i, hi, rfl⟩)
 obtain ⟨o2, m2, c2, e2⟩ := hsl (L.getD j vis0) (mem_getD.2 ⟨j, hj, rfl⟩)
 clear h1 h2 h3 h4 h4' hg4 hrow hsl
 rw [e1] at ha HX HG
 rw [e2] at hb k1 k2 HX HG
 clear e1 e2
 generalize (L.getD i vis0).set = x at *
 generalize (L.getD j vis0).set = y at *
 generalize hn' : L.length = n at *
 have hi' : (i : Int) < (n : Int) := by omega
 have hj' : (j : Int) < (n : Int) := by omega
 have hi0 : (0 : Int) ≤ (i : Int) := by omega
 have hj0 : (0 : Int) ≤ (j : Int) := by omega
 clear hn'
 go_enter Tryz.func134, Tryz.ntmps134
 go_wp2_with fail
 go_region
 go_wp2
 go_end0
 exact ⟨⟨_, rfl⟩, HX.out, grown_trans HG.out (grown_of_below (Below.drew (Below.refl _ _)) _)⟩
end Go.Proofs.YtdkdhjhhbkcciaaGreat
