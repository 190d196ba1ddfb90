/-
  Put together out of: CircLaw, DrawKit.
-/
import Derived.Test.YtmloeldgeegddaaOrderW
import Derived.Test.YtmloeldgeegddaaG30CirclesBoth
import Derived.Test.YtmloeldgeegddaaG32Draw
import Derived.Test.YtmloeldgeegddaaG33FnProgM
import Derived.Test.YtmloeldgeegddaaG00IntS
/-
  FnCircles: its mathematics.
-/
namespace Go.Proofs.Ytmloeldgeegddaa
open Go.RowKit
set_option linter.unusedVariables false

theorem any_is (xs : List Int) (x : Int) : (xs.any (fun z => decide (z = x)) = true) ↔ x ∈ xs := by
  rw [List.any_eq_true]
  constructor
  · rintro ⟨y, hy, e⟩
    rw [decide_eq_true_eq] at e
    rw [← e]; exact hy
  · intro h; exact ⟨x, h, by simp⟩
theorem any_not (xs : List Int) (x : Int) : (xs.any (fun z => decide (z = x)) = false) ↔ x ∉ xs := by
  rw [← any_is, Bool.not_eq_true]

def castL (g : List Nat) : List Int := g.map (fun x : Nat => (x : Int))
theorem mem_castL {g : List Nat} {a : Nat} : (a : Int) ∈ castL g ↔ a ∈ g := by
  unfold castL
  rw [List.mem_map]
  constructor
  · rintro ⟨b, hb, e⟩
    have : b = a := by omega
    rw [← this]; exact hb
  · intro h; exact ⟨a, h, rfl⟩
theorem in_castL {g : List Nat} {x : Int} (h : x ∈ castL g) : ∃ a : Nat, x = a ∧ a ∈ g := by
  unfold castL at h
  rw [List.mem_map] at h
  obtain ⟨a, h1, h2⟩ := h
  exact ⟨a, h2.symm, h1⟩
theorem castLL_flat (c : List (List Nat)) : (castLL c).flatten = castL c.flatten := by
  unfold castLL castL
  rw [List.map_flatten]
theorem castLL_take (c : List (List Nat)) (i : Nat) : (castLL c).take i = castLL (c.take i) := by
  unfold castLL
  rw [List.map_take]
theorem castLL_at {c : List (List Nat)} {i : Nat} {xs : List Int} (h : (castLL c)[i]? = some xs) : ∃ g, c[i]? = some g ∧ xs = castL g := by
  unfold castLL at h
  rw [List.getElem?_map] at h
  cases e : c[i]? with
  | none => rw [e] at h; cases h
  | some g => rw [e] at h; simp at h; exact ⟨g, rfl, h.symm⟩
theorem castLL_mem {c : List (List Nat)} {xs : List Int} (h : xs ∈ castLL c) : ∃ g ∈ c, xs = castL g := by
  unfold castLL at h
  rw [List.mem_map] at h
  obtain ⟨g, h1, h2⟩ := h
  exact ⟨g, h1, h2.symm⟩

theorem once_at : ∀ (xs seen : List Nat), onceB xs seen = true → ∀ (j a : Nat), xs[j]? = some a → a ∉ seen ++ xs.take j
  | [], _, _, j, a, h => by simp at h
  | x :: xs, seen, ho, 0, a, h => by
    simp at h
    subst h
    unfold onceB at ho
    simp only [Bool.and_eq_true, Bool.not_eq_true'] at ho
    intro hm
    simp at hm
    rw [← hasN_mem, ho.1] at hm
    cases hm
  | x :: xs, seen, ho, j + 1, a, h => by
    unfold onceB at ho
    simp only [Bool.and_eq_true] at ho
    have := once_at xs (seen ++ [x]) ho.2 j a (by simpa using h)
    simpa using this
theorem flat_at {c : List (List Nat)} {i k a : Nat} {g : List Nat} (hi : c[i]? = some g) (hk : g[k]? = some a) : c.flatten[(c.take i).flatten.length + k]? = some a ∧ c.flatten.take ((c.take i).flatten.length + k) = (c.take i).flatten ++ g.take k := by
  obtain ⟨hil, hge⟩ := List.getElem?_eq_some_iff.1 hi
  obtain ⟨hkl, hae⟩ := List.getElem?_eq_some_iff.1 hk
  have e : c.flatten = (c.take i).flatten ++ (g ++ (c.drop (i + 1)).flatten) := by
    have h1 : c = c.take i ++ g :: c.drop (i + 1) := by
      have h3 := List.take_append_drop i c
      rw [List.drop_eq_getElem_cons hil, hge] at h3
      exact h3.symm
    have h2 : c.flatten = (c.take i ++ g :: c.drop (i + 1)).flatten := by rw [← h1]
    rw [h2, List.flatten_append, List.flatten_cons]
  rw [e]
  constructor
  · rw [List.getElem?_append_right (by omega), Nat.add_sub_cancel_left, List.getElem?_append_left hkl]
    exact hk
  · rw [List.take_length_add_append, List.take_append_of_le_length (by omega)]
theorem behind_at {C : Nat → List Nat} : ∀ (o : List (List Nat)) (done : List Nat), behindB C o done = true → ∀ (i : Nat) (g : List Nat), o[i]? = some g → ∀ k ∈ g, ∀ y ∈ C k, y ∈ done ++ (o.take (i + 1)).flatten
  | [], _, _, i, g, h => by simp at h
  | g0 :: o, done, hb, 0, g, h => by
    simp at h
    subst h
    unfold behindB at hb
    simp only [Bool.and_eq_true, List.all_eq_true] at hb
    intro k hk y hy
    have := hasN_mem.1 (hb.1 k hk y hy)
    simpa using this
  | g0 :: o, done, hb, i + 1, g, h => by
    unfold behindB at hb
    simp only [Bool.and_eq_true] at hb
    intro k hk y hy
    have := behind_at o (done ++ g0) hb.2 i g (by simpa using h) k hk y hy
    simpa using this

/-- What the law meets where there are circles. -/
structure CirF (ps : List (List Stm)) (A O : List (List Int)) (r : Nat → Nat → Bool) : Prop where
  ok : programOk ps = true
  lenO : O.length = A.length
  four : ps.length ≤ 4
  reach : ∀ xs ∈ A, ∀ x ∈ xs, ∀ y ∈ xs, ∀ R, ReachA ps x R → R.any (fun z => decide (z = y)) = true
  once : ∀ i xs k x, A[i]? = some xs → xs[k]? = some x → ((A.take i).flatten ++ xs.take k).any (fun z => decide (z = x)) = false
  recu : ∀ xs ∈ A, 1 < xs.length → ∀ x ∈ xs, recAns ps r x = true
  behind : ∀ i xs, O[i]? = some xs → ∀ x ∈ xs, ∀ y ∈ callsAns ps x, ((O.take (i + 1)).flatten).any (fun z => decide (z = y)) = true
  cn : A.flatten.length = ps.length
  on : O.flatten.length = ps.length

theorem circ_small (n : Nat) (r : Nat → Nat → Bool) : ∀ (l : List Nat) (acc : List (List Nat)), (∀ g ∈ acc, ∀ x ∈ g, x < n) → ∀ g ∈ l.foldl (stepS n r) acc, ∀ x ∈ g, x < n
  | [], acc, h => h
  | i :: l, acc, h => by
    refine circ_small n r l _ ?_
    intro g hg x hx
    unfold stepS at hg
    cases hb : Nat.beq (hd (grp n r i)) i with
    | false => rw [hb] at hg; exact h g hg x hx
    | true =>
      rw [hb] at hg
      simp only [cond_true, List.mem_append, List.mem_singleton] at hg
      rcases hg with hg | rfl
      · exact h g hg x hx
      · unfold grp at hx
        exact List.mem_range.1 (List.mem_filter.1 hx).1

theorem circles_asked (ps : List (List Stm)) : ∃ (c o : List (List Nat)) (r : Nat → Nat → Bool), CircA ps c ∧ OrdA ps o ∧ RelA ps r ∧ ((castLL c).length = 0 → programOk ps = false ∧ (castLL o).length = 0) ∧ (0 < (castLL c).length → CirF ps (castLL c) (castLL o) r) := by
  cases hok : programOk ps with
  | false => exact ⟨[], [], fun _ _ => false, ⟨by simp [hok], fun _ => rfl⟩, ⟨by simp [hok], fun _ => rfl⟩, by simp [RelA, hok], fun _ => ⟨rfl, rfl⟩, fun h => by simp [castLL] at h⟩
  | true =>
    obtain ⟨r, c, o, hG⟩ := groups_of hok
    obtain ⟨h4, h1, _⟩ := programOk_len hok
    refine ⟨c, o, r, ⟨fun _ => ⟨r, o, hG⟩, by simp [hok]⟩, ⟨fun _ => ⟨r, c, hG⟩, by simp [hok]⟩, fun _ => ⟨c, o, hG⟩, fun h0 => ?_, fun _ => ?_⟩
    · have hc : c = [] := by simpa [castLL] using h0
      have := hG.asked.cn
      rw [hc] at this
      simp at this
      omega
    · have hA := hG.asked
      have hsm : ∀ g ∈ c, ∀ x ∈ g, x < ps.length := by
        rw [← hG.circ]
        exact circ_small ps.length r _ [] (by simp)
      have hasb : ∀ {a : Nat}, a < ps.length → hasB ps (a : Int) = true := fun {a} ha => by unfold hasB wiB; rw [hok]; simp; omega
      refine ⟨hok, by simp [castLL, hA.len], h4, ?_, ?_, ?_, ?_, ?_, ?_⟩
      · intro xs hxs x hx y hy R hR
        obtain ⟨g, hg, rfl⟩ := castLL_mem hxs
        obtain ⟨a, rfl, ha⟩ := in_castL hx
        obtain ⟨b, rfl, hb⟩ := in_castL hy
        have hr : r a b = true := List.all_eq_true.1 (List.all_eq_true.1 (List.all_eq_true.1 hA.all g hg) a ha) b hb
        have hI := hR.1 (hasb (hsm g hg a ha))
        rw [any_is]
        exact (hI.2 _).2 ⟨b, rfl, (hG.rel a b (hsm g hg a ha)).1 hr⟩
      · intro i xs k x hi hk
        obtain ⟨g, hg, rfl⟩ := castLL_at hi
        have hk' : ∃ a, g[k]? = some a ∧ x = (a : Int) := by
          unfold castL at hk
          rw [List.getElem?_map] at hk
          cases e : g[k]? with
          | none => rw [e] at hk; cases hk
          | some a => rw [e] at hk; simp at hk; exact ⟨a, rfl, hk.symm⟩
        obtain ⟨a, ha, rfl⟩ := hk'
        obtain ⟨f1, f2⟩ := flat_at hg ha
        have := once_at c.flatten [] hA.once _ a f1
        rw [f2] at this
        rw [any_not]
        intro hm
        apply this
        rw [castLL_take, castLL_flat] at hm
        have e : castL (List.flatten (c.take i)) ++ List.take k (castL g) = castL ((c.take i).flatten ++ g.take k) := by
          unfold castL
          rw [List.map_append, List.map_take]
        rw [e] at hm
        simpa using mem_castL.1 hm
      · intro xs hxs hl x hx
        obtain ⟨g, hg, rfl⟩ := castLL_mem hxs
        obtain ⟨a, rfl, ha⟩ := in_castL hx
        have hrc := List.all_eq_true.1 hA.recu g hg
        have hgl : ¬ Nat.ble g.length 1 = true := by
          simp [castL] at hl
          rw [Nat.ble_eq]
          omega
        simp only [Bool.or_eq_true] at hrc
        have h2 := List.all_eq_true.1 (hrc.resolve_left hgl) a ha
        obtain ⟨y, hy, hry⟩ := List.any_eq_true.1 h2
        unfold recAns
        rw [hasb (hsm g hg a ha)]
        simp only [Bool.true_and, Int.toNat_natCast]
        refine List.any_eq_true.2 ⟨y, ?_, hry⟩
        unfold NS noSelf at hy
        exact (List.mem_filter.1 hy).1
      · intro i xs hi x hx y hy
        obtain ⟨g, hg, rfl⟩ := castLL_at hi
        obtain ⟨a, rfl, ha⟩ := in_castL hx
        rw [any_is, castLL_take, castLL_flat]
        by_cases hap : a < ps.length
        · rw [callsAns_callG hok hap, callG_NC hok a] at hy
          obtain ⟨b, rfl, hb⟩ := in_castL hy
          rw [mem_castL]
          by_cases e : b = a
          · subst e
            have hgm : g ∈ o.take (i + 1) := by
              refine List.mem_of_getElem? (i := i) ?_
              rw [List.getElem?_take_of_lt (by omega)]
              exact hg
            exact List.mem_flatten.2 ⟨g, hgm, ha⟩
          · have hbs : b ∈ NS ps a := by
              unfold NS noSelf
              refine List.mem_filter.2 ⟨hb, ?_⟩
              have h9 : Nat.beq b a = false := by
                cases hq : Nat.beq b a with
                | false => rfl
                | true => exact absurd (Nat.eq_of_beq_eq_true hq) e
              rw [h9]; rfl
            have := behind_at o [] hA.behind i g hg a ha b hbs
            simpa using this
        · have : hasB ps (a : Int) = false := by
            unfold hasB wiB
            rw [hok]
            simp
            omega
          unfold callsAns at hy
          rw [this] at hy
          simp at hy
      · rw [castLL_flat]
        unfold castL
        rw [List.length_map, hA.cn]
      · rw [castLL_flat]
        unfold castL
        rw [List.length_map, hA.on]

theorem reach_rises {ps : List (List Stm)} {i : Int} {A : List Int} (h : ReachA ps i A) : Rises A := by
  cases hb : hasB ps i with
  | false => rw [h.2 hb]; exact rises_of (by simp)
  | true => exact rises_of (h.1 hb).1

end Go.Proofs.Ytmloeldgeegddaa

/-
  Small laws over cursors and worlds that grow, for the draws of programs.
-/
namespace Go.Proofs.Ytmloeldgeegddaa
open Go.RowKit
set_option linter.unusedVariables false

theorem curLt {w : World} {g : Nat} {bs : List Int} (h : Cur w g bs) : g < w.heap.size := by
  obtain ⟨ao, cap, i, h, hh, _⟩ := h
  exact (Array.getElem?_eq_some_iff.1 hh).1

theorem curAlloc {w : World} {g : Nat} {bs : List Int} (h : Cur w g bs) (o : Obj) : Cur (w.alloc o) g bs := cur_below h (Below.alloc (Below.refl _ _) (Nat.le_refl _) o)

theorem grownAlloc {a w : World} {row : Option Nat} (h : a.grownBy w row) (o : Obj) : a.grownBy (w.alloc o) row := grown_trans h (World.grownBy_alloc w o row)

/-- A store into a block that was not there. -/
theorem grownSet {a w : World} {row : Option Nat} (h : a.grownBy w row) {b o : Nat} (hb : a.heap.size ≤ b) (u : Value) : a.grownBy (w.setCell ⟨b, o, none⟩ u) row :=
  ⟨h.os, h.tape, h.output, by simpa [World.setCell] using h.size, fun k hk hr => (Below.heap_setCell _ _ _ _ (by simp; omega)).trans (h.block k hk hr)⟩

theorem blockGrown {wr wr' : World} {g b : Nat} {o : Obj} (h : wr.heap[b]? = some o) (hg : wr.grownBy wr' (some g)) (hb : g < b) : wr'.heap[b]? = some o := by
  rw [hg.block b (Array.getElem?_eq_some_iff.1 h).1 (by simp; omega)]; exact h

theorem curSet {w : World} {g : Nat} {bs : List Int} (h : Cur w g bs) {b o : Nat} (hb : g < b) (u : Value) : Cur (w.setCell ⟨b, o, none⟩ u) g bs :=
  cur_grown h (grown_setCell w b o u) (by simp; omega)

theorem threeCells {w : World} {b : Nat} {x0 x1 x2 : Value} {T : TypeId} (h : w.heap[b]? = some (.cells #[x0, x1, x2] T (0, 0))) :
    w.cell? ⟨b, 0, none⟩ = some x0 ∧ w.cell? ⟨b, 1, none⟩ = some x1 ∧ w.cell? ⟨b, 2, none⟩ = some x2 ∧
      w.frozen? ⟨b, 0, none⟩ = false ∧ w.frozen? ⟨b, 1, none⟩ = false ∧ w.frozen? ⟨b, 2, none⟩ = false := by
  refine ⟨?_, ?_, ?_, ?_, ?_, ?_⟩ <;> simp [World.cell?, World.frozen?, h]

theorem threeSet {w : World} {b : Nat} {p0 p1 p2 : Value} {t : TypeId} (h : w.heap[b]? = some (.cells #[p0, p1, p2] t (0, 0))) (x0 x1 x2 : Value) :
    (((w.setCell ⟨b, 0, none⟩ x0).setCell ⟨b, 1, none⟩ x1).setCell ⟨b, 2, none⟩ x2).heap[b]? = some (.cells #[x0, x1, x2] t (0, 0)) := by
  have h1 := heap_setCell_same w b 0 _ t x0 h
  have h2 := heap_setCell_same _ b 1 _ t x1 h1
  have h3 := heap_setCell_same _ b 2 _ t x2 h2
  simpa using h3

end Go.Proofs.Ytmloeldgeegddaa
