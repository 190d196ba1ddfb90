/-
  Put together out of: ListsLaw, MarkSS, SortG.
-/
import Derived.Test.YtmloeldgeegddaaG13CloneI
import Derived.Deep.RegionHeld3
import Derived.Deep.DrawnRows
import Derived.Test.YtmloeldgeegddaaSortI
/-
  laws.eqInt64SS: two lists of lists that are alike.
-/
namespace Go.Proofs.Ytmloeldgeegddaa
open Go.RowKit
set_option linter.unusedVariables false
set_option maxHeartbeats 1000000
attribute [local go_sem ↓] Go.wp_at_zero Go.wp_at_succ

/-- The slice v holds slices that hold the lists xss. -/
def ReadsSS (w : World) (v : Value) (xss : List (List Int)) : Prop :=
  ∃ ao cap, v = .slice ao xss.length cap ∧ ∀ j xs, xss[j]? = some xs → ∃ g off u, ao = some ⟨g, off, none⟩ ∧ w.cell? ⟨g, off + j, none⟩ = some u ∧ Reads w u (ints xs)

theorem readsSS_below {w w' : World} {v : Value} {xss : List (List Int)} (h : ReadsSS w v xss) (hb : Below w.heap.size w w') : ReadsSS w' v xss := by
  obtain ⟨ao, cap, rfl, hc⟩ := h
  refine ⟨ao, cap, rfl, fun j xs hx => ?_⟩
  obtain ⟨g, off, u, hg, hcell, hr⟩ := hc j xs hx
  exact ⟨g, off, u, hg, (hb.cell (World.block_lt_of_cell? w _ hcell)).trans hcell, reads_below hr hb⟩

theorem OwnSS.reads {w : World} {base : Nat} {v : Value} {us : List Value} {xss : List (List Int)} (h : OwnSS w base v us xss) : ReadsSS w v xss := by
  have hl := h.len
  rcases h.row.2 with ⟨rfl, hn⟩ | ⟨g, cap, cur, rfl, _⟩
  · exact ⟨none, 0, by rw [hn], fun j xs hx => by rw [List.eq_nil_of_length_eq_zero hn] at hx; simp at hx⟩
  · refine ⟨some ⟨g, 0, none⟩, cap, rfl, fun j xs hx => ?_⟩
    have hj : j < xss.length := (List.getElem?_eq_some_iff.1 hx).1
    obtain ⟨u, hu, hc, ho⟩ := h.at hj
    have e : xss[j] = xs := (List.getElem?_eq_some_iff.1 hx).2
    exact ⟨g, 0, u, rfl, by rw [Nat.zero_add]; exact hc, by rw [← e]; exact reads_own ho⟩


end Go.Proofs.Ytmloeldgeegddaa

/-
  laws.markInt64SS, laws.heldInt64SS: lists of lists whose rows are all apart.
-/
namespace Go.Proofs.Ytmloeldgeegddaa
open Go.RowKit
set_option linter.unusedVariables false
set_option maxHeartbeats 1000000

/-- How many numbers there are in all lists. -/
def tot : List (List Int) → Nat
  | [] => 0
  | xs :: xss => xs.length + tot xss

theorem tot_append : ∀ (a b : List (List Int)), tot (a ++ b) = tot a + tot b
  | [], b => by simp [tot]
  | x :: a, b => by simp [tot, tot_append a b]; omega

theorem tot_take (xss : List (List Int)) (j : Nat) (h : j < xss.length) : tot (xss.take (j + 1)) = tot (xss.take j) + xss[j].length := by
  rw [List.take_succ_eq_append_getElem h, tot_append]
  simp [tot]

theorem tot_le : ∀ (xss : List (List Int)), (∀ xs ∈ xss, xs.length ≤ 1000) → tot xss ≤ 1000 * xss.length
  | [], _ => by simp [tot]
  | x :: xss, h => by
    have h1 := tot_le xss (fun y hy => h y (by simp [hy]))
    have h2 := h x (by simp)
    simp only [tot, List.length_cons]
    omega

/-- No two rows are one. -/
def ApartSS (us : List Value) : Prop := ∀ (i j : Nat) (a b : Value) (k : Nat), i ≠ j → us[i]? = some a → us[j]? = some b → a.ownBlock = some k → b.ownBlock ≠ some k

/-- The rows of the first m lists bear their marks, the others hold what they held. -/
structure MarkedSS (base : Nat) (us : List Value) (xss : List (List Int)) (k : Int) (m : Nat) (w : World) : Prop where
  done : ∀ (j : Nat) (u : Value) (hj : j < xss.length), j < m → us[j]? = some u → w.ownsRow base 2 1 u xss[j].length (markI (k + tot (xss.take j)) xss[j].length)
  todo : ∀ (j : Nat) (u : Value) (hj : j < xss.length), m ≤ j → us[j]? = some u → w.ownsRow base 2 1 u xss[j].length (ints xss[j])



end Go.Proofs.Ytmloeldgeegddaa

/-
  slices.SortFunc over lists of numbers by their first, of at most four: what the insertion does.
-/
namespace Go.Proofs.Ytmloeldgeegddaa
open Go.RowKit
set_option linter.unusedVariables false
set_option maxHeartbeats 4000000
set_option maxRecDepth 20000

/-- A list as it lies in memory, and what it holds. -/
abbrev LV := Value × List Nat
abbrev lv0 : LV := (.slice none 0 0, [])
def ltL (a b : LV) : Bool := ltG a.2 b.2

theorem swp1_get {α : Type} {d : α} {xs : List α} {j : Nat} (hj : j + 1 < xs.length) (i : Nat) : (swp1 d xs j)[i]? = xs[if i = j then j + 1 else if i = j + 1 then j else i]? := by
  unfold swp1
  by_cases h : i = j
  · subst h
    rw [if_pos rfl, List.getElem?_set_self (by rw [List.length_set]; omega)]
    simp [List.getD, hj]
  · rw [if_neg h, List.getElem?_set_ne (fun e => h e.symm)]
    by_cases h2 : i = j + 1
    · subst h2
      rw [if_pos rfl, List.getElem?_set_self hj]
      simp [List.getD, (by omega : j < xs.length)]
    · rw [if_neg h2, List.getElem?_set_ne (fun e => h2 e.symm)]

theorem swp1_length {α : Type} (d : α) (xs : List α) (j : Nat) : (swp1 d xs j).length = xs.length := by unfold swp1; simp

theorem map_getD {α β : Type} (f : α → β) (d : α) (xs : List α) (j : Nat) : (xs.map f).getD j (f d) = f (xs.getD j d) := by
  simp only [List.getD_eq_getElem?_getD, List.getElem?_map]
  cases xs[j]? <;> rfl

theorem swp1_map {α β : Type} (f : α → β) (d : α) (xs : List α) (j : Nat) : (swp1 d xs j).map f = swp1 (f d) (xs.map f) j := by
  unfold swp1
  rw [List.map_set, List.map_set, map_getD, map_getD]

theorem sink_map {α β : Type} {lt : α → α → Bool} {lt' : β → β → Bool} (f : α → β) (d : α) (h : ∀ a b, lt a b = lt' (f a) (f b)) : ∀ (j : Nat) (xs : List α), (sink lt d j xs).map f = sink lt' (f d) j (xs.map f)
  | 0, xs => rfl
  | j + 1, xs => by
    have e : lt (xs.getD (j + 1) d) (xs.getD j d) = lt' ((xs.map f).getD (j + 1) (f d)) ((xs.map f).getD j (f d)) := by rw [map_getD, map_getD]; exact h _ _
    cases hb : lt (xs.getD (j + 1) d) (xs.getD j d)
    · rw [sink_not hb, sink_not (e ▸ hb)]
    · rw [sink_lt hb, sink_lt (e ▸ hb), sink_map f d h j, swp1_map]

theorem isrtU_map {α β : Type} {lt : α → α → Bool} {lt' : β → β → Bool} (f : α → β) (d : α) (h : ∀ a b, lt a b = lt' (f a) (f b)) : ∀ (k : Nat) (xs : List α), (isrtU lt d k xs).map f = isrtU lt' (f d) k (xs.map f)
  | 0, xs => rfl
  | k + 1, xs => by
    show (sink lt d (k + 1) (isrtU lt d k xs)).map f = sink lt' (f d) (k + 1) (isrtU lt' (f d) k (xs.map f))
    rw [sink_map f d h, isrtU_map f d h k]

theorem isrt_map {α β : Type} {lt : α → α → Bool} {lt' : β → β → Bool} (f : α → β) (d : α) (h : ∀ a b, lt a b = lt' (f a) (f b)) (xs : List α) : (isrt lt d xs).map f = isrt lt' (f d) (xs.map f) := by
  unfold isrt
  rw [isrtU_map f d h, List.length_map]

/-- A row of lists, all its own, no two of them one. -/
structure GRow (w : World) (base g N cap : Nat) (L : List LV) : Prop where
  row : w.ownsRow base 30 1 (.slice (some ⟨g, 0, none⟩) N cap) N (L.map Prod.fst)
  each : ∀ x ∈ L, x.2 ≠ [] ∧ w.ownsRow base 2 1 x.1 x.2.length (nats x.2)
  ap : ApartSS (L.map Prod.fst)

theorem GRow.len {w : World} {base g N cap : Nat} {L : List LV} (h : GRow w base g N cap L) : L.length = N := by
  have := h.row.1
  simpa using this

theorem GRow.below {w w' : World} {base g N cap : Nat} {L : List LV} (h : GRow w base g N cap L) (hb : Below w.heap.size w w') : GRow w' base g N cap L :=
  ⟨own_kept h.row hb, fun x hx => ⟨(h.each x hx).1, own_kept (h.each x hx).2 hb⟩, h.ap⟩

theorem mem_getD' {α : Type} {d : α} {xs : List α} {j : Nat} (h : j < xs.length) : xs.getD j d ∈ xs := by
  simp only [List.getD_eq_getElem?_getD, List.getElem?_eq_getElem h, Option.getD_some]
  exact List.getElem_mem h

theorem getD_some' {α : Type} {d : α} {xs : List α} {j : Nat} (h : j < xs.length) : xs[j]? = some (xs.getD j d) := by
  simp [List.getD_eq_getElem?_getD, h]

theorem GRow.cell {w : World} {base g N cap : Nat} {L : List LV} (h : GRow w base g N cap L) {j : Nat} (hj : j < N) : w.cell? ⟨g, j, none⟩ = some (L.getD j lv0).1 ∧ w.frozen? ⟨g, j, none⟩ = false := by
  refine ⟨?_, h.row.frozenAt j⟩
  rw [h.row.cellAt j (by omega), List.getElem?_map, getD_some' (by rw [h.len]; exact hj)]
  rfl

theorem swap_inj {i i' j : Nat} (e : (if i = j then j + 1 else if i = j + 1 then j else i) = (if i' = j then j + 1 else if i' = j + 1 then j else i')) : i = i' := by
  by_cases a : i = j
  · rw [if_pos a] at e
    by_cases c : i' = j
    · omega
    · rw [if_neg c] at e
      by_cases d : i' = j + 1
      · rw [if_pos d] at e; omega
      · rw [if_neg d] at e; omega
  · rw [if_neg a] at e
    by_cases c : i' = j
    · rw [if_pos c] at e
      by_cases b : i = j + 1
      · rw [if_pos b] at e; omega
      · rw [if_neg b] at e; omega
    · rw [if_neg c] at e
      by_cases b : i = j + 1
      · rw [if_pos b] at e
        by_cases d : i' = j + 1
        · omega
        · rw [if_neg d] at e; omega
      · rw [if_neg b] at e
        by_cases d : i' = j + 1
        · rw [if_pos d] at e; omega
        · rw [if_neg d] at e; exact e

/-- Two neighbours change places. -/
theorem GRow.swap {w : World} {base g N cap : Nat} {L : List LV} (h : GRow w base g N cap L) {j : Nat} (hj : j + 1 < N) :
    GRow ((w.setCell ⟨g, j + 1, none⟩ (L.getD j lv0).1).setCell ⟨g, j, none⟩ (L.getD (j + 1) lv0).1) base g N cap (swp1 lv0 L j) ∧ w.grownBy ((w.setCell ⟨g, j + 1, none⟩ (L.getD j lv0).1).setCell ⟨g, j, none⟩ (L.getD (j + 1) lv0).1) (some g) := by
  have hg := grown_trans (grown_setCell1 w g (j + 1) (L.getD j lv0).1) (grown_setCell1 (w.setCell ⟨g, j + 1, none⟩ (L.getD j lv0).1) g j (L.getD (j + 1) lv0).1)
  have hl := h.len
  have hmem : ∀ x ∈ swp1 lv0 L j, x ∈ L := fun x hx => by
    obtain ⟨i, hi⟩ := List.getElem?_of_mem hx
    rw [swp1_get (by omega)] at hi
    exact List.mem_of_getElem? hi
  refine ⟨⟨?_, fun x hx => ⟨(h.each x (hmem x hx)).1, ?_⟩, ?_⟩, hg⟩
  · have o1 := own_put1 h.row (j := j + 1) hj (L.getD j lv0).1
    have o2 := own_put1 o1 (j := j) (by omega) (L.getD (j + 1) lv0).1
    have e : (swp1 lv0 L j).map Prod.fst = ((L.map Prod.fst).set (j + 1) (L.getD j lv0).1).set j (L.getD (j + 1) lv0).1 := by
      unfold swp1
      rw [List.map_set, List.map_set]
    rw [e]
    exact o2
  · have ho := (h.each x (hmem x hx)).2
    exact own_grown ho hg (fun k hk e => row_kind ho h.row (by decide) hk (by simp at e; subst e; rfl))
  · intro i i' a b k hne ha hb hk
    rw [List.getElem?_map, swp1_get (by omega), ← List.getElem?_map] at ha hb
    refine h.ap _ _ a b k ?_ ha hb hk
    exact fun e => hne (swap_inj e)

/-- How two numbers stand to each other. -/
def sgnN (x y : Nat) : Int := if x < y then -1 else if y < x then 1 else 0

theorem sgnN_lt (x y : Nat) : decide (sgnN x y < 0) = Nat.blt x y := by
  unfold sgnN
  rw [blt_lt]
  by_cases h : x < y
  · rw [if_pos h]; simp; omega
  · rw [if_neg h]
    by_cases h2 : y < x
    · rw [if_pos h2]; simp; omega
    · rw [if_neg h2]; simp; omega

theorem cmpN (x y : Nat) (w : World) : Calls Try.prog 83 #[.int .i64 (x : Int), .int .i64 (y : Int)] w fun e w' => e = .returned (.int .i64 (sgnN x y)) ∧ Below w.heap.size w w' := by
  have hn := notNaN
  unfold sgnN
  by_cases h1 : x < y
  · rw [if_pos h1]
    have h1' : (x : Int) < (y : Int) := by omega
    go_enter Try.func83, Try.ntmps83
    go_wp2_with (go_at_call 113; refine (hn _ _).mono ?_; rintro e w1 ⟨rfl, rfl⟩)
    go_ret
    exact ⟨rfl, Below.refl _ _⟩
  · rw [if_neg h1]
    have h1' : ¬ (x : Int) < (y : Int) := by omega
    by_cases h2 : y < x
    · rw [if_pos h2]
      have h2' : (y : Int) < (x : Int) := by omega
      go_enter Try.func83, Try.ntmps83
      go_wp2_with (go_at_call 113; refine (hn _ _).mono ?_; rintro e w1 ⟨rfl, rfl⟩)
      go_ret
      exact ⟨rfl, Below.refl _ _⟩
    · rw [if_neg h2]
      have h2' : ¬ (y : Int) < (x : Int) := by omega
      go_enter Try.func83, Try.ntmps83
      go_wp2_with (go_at_call 113; refine (hn _ _).mono ?_; rintro e w1 ⟨rfl, rfl⟩)
      go_ret
      exact ⟨rfl, Below.refl _ _⟩

theorem reads_hd {W : World} {u : Value} {a : List Nat} (ha : a ≠ []) (hu : Reads W u (nats a)) : ∃ g off n cap, u = .slice (some ⟨g, off, none⟩) n cap ∧ 0 < n ∧ W.cell? ⟨g, off, none⟩ = some (.int .i64 (hd a : Nat)) := by
  obtain ⟨ao, cap, rfl, hc⟩ := hu
  have hl : 0 < a.length := by cases a with | nil => exact absurd rfl ha | cons _ _ => simp
  obtain ⟨g, off, rfl, h0⟩ := hc 0 _ (nats_get hl)
  exact ⟨g, off, _, cap, rfl, by rw [nats_length]; exact hl, h0⟩

theorem circlesCmp (a b : List Nat) (u v : Value) (W : World) (ha : a ≠ []) (hb : b ≠ []) (hu : Reads W u (nats a)) (hv : Reads W v (nats b)) :
    Calls Try.prog 82 #[u, v] W fun e w' => e = .returned (.int .i64 (sgnN (hd a) (hd b))) ∧ Below W.heap.size W w' := by
  obtain ⟨g, off, n, cap, rfl, hn, c0⟩ := reads_hd ha hu
  obtain ⟨g', off', n', cap', rfl, hn', c1⟩ := reads_hd hb hv
  have c0 := cell_regrown c0
  have c1 := cell_regrown c1
  have he : ∀ d os, _ := fun d os => Calls.regrown_of (w := W) (d := d) (os := os) (cmpN (hd a) (hd b) _)
  have hni : (0 : Int) < (n : Int) := by omega
  have hni' : (0 : Int) < (n' : Int) := by omega
  clear hu hv
  generalize sgnN (hd a) (hd b) = z at *
  generalize hd a = x at *
  generalize hd b = y at *
  go_enter Try.func82, Try.ntmps82
  go_wp2
  refine wp_region_quiet_below (by kernel_rfl) (by kernel_rfl) ?_
  repeat (go_big_quiet_step (exact he _ _))
  refine wpQuiet_nil ?_
  intro _ hw'
  obtain ⟨⟨dq, osq⟩, hw''⟩ := hw'
  subst hw''
  have BW := below_regrown W dq osq
  go_wp2
  go_ret
  exact ⟨rfl, BW⟩

end Go.Proofs.Ytmloeldgeegddaa
