/-
  Put together out of: Lists, ListsLaw.
-/
import Derived.Test.YtnjbihfceckpfaaPut
import Derived.Maps.AppendAt
import Derived.Deep.RegionHeld3
import Derived.Deep.DrawnRows
/-
  Slices of slices of numbers that the call has made.
-/
namespace Go.Proofs.Ytnjbihfceckpfaa
open Go.RowKit
set_option linter.unusedVariables false
set_option maxHeartbeats 1000000

theorem own_same {w w' : World} {base : Nat} {e : TypeId} {s : Nat} {v : Value} {n : Nat} {xs : List Value} (h : w.ownsRow base e s v n xs) (he : ∀ k, v.ownBlock = some k → w'.heap[k]? = w.heap[k]?) : w'.ownsRow base e s v n xs := by
  refine ⟨h.1, ?_⟩
  rcases h.2 with hn | ⟨g, cap, cur, rfl, hbg, hg, r⟩
  · exact .inl hn
  · exact .inr ⟨g, cap, cur, rfl, hbg, (he g rfl).trans hg, r⟩

/-- v holds the slices us, which hold the lists xss; all the call's own, from block base on. -/
structure OwnSS (w : World) (base : Nat) (v : Value) (us : List Value) (xss : List (List Int)) : Prop where
  row : w.ownsRow base 26 1 v xss.length us
  each : ∀ (j : Nat) (u : Value) (xs : List Int), us[j]? = some u → xss[j]? = some xs → w.ownsRow base 2 1 u xs.length (ints xs)

theorem OwnSS.len {w : World} {base : Nat} {v : Value} {us : List Value} {xss : List (List Int)} (h : OwnSS w base v us xss) : us.length = xss.length := by
  have := h.row.1
  omega

theorem OwnSS.inner {w : World} {base : Nat} {v : Value} {us : List Value} {xss : List (List Int)} (h : OwnSS w base v us xss) {u : Value} (hu : u ∈ us) : ∃ xs ∈ xss, w.ownsRow base 2 1 u xs.length (ints xs) := by
  obtain ⟨j, hj⟩ := List.getElem?_of_mem hu
  have hjl : j < xss.length := by rw [← h.len]; exact (List.getElem?_eq_some_iff.1 hj).1
  exact ⟨xss[j], List.getElem_mem hjl, h.each j u xss[j] hj (by simp [hjl])⟩

theorem OwnSS.same {w w' : World} {base : Nat} {v : Value} {us : List Value} {xss : List (List Int)} (h : OwnSS w base v us xss) (h1 : ∀ k, v.ownBlock = some k → w'.heap[k]? = w.heap[k]?) (h2 : ∀ u ∈ us, ∀ k, u.ownBlock = some k → w'.heap[k]? = w.heap[k]?) : OwnSS w' base v us xss :=
  ⟨own_same h.row h1, fun j u xs hj hx => own_same (h.each j u xs hj hx) (h2 u (List.mem_of_getElem? hj))⟩

theorem OwnSS.ltI {w : World} {base : Nat} {v : Value} {us : List Value} {xss : List (List Int)} (h : OwnSS w base v us xss) {u : Value} (hu : u ∈ us) {k : Nat} (hk : u.ownBlock = some k) : base ≤ k ∧ k < w.heap.size := by
  obtain ⟨xs, _, ho⟩ := h.inner hu
  exact ho.lt k hk

theorem OwnSS.below {w w' : World} {base : Nat} {v : Value} {us : List Value} {xss : List (List Int)} (h : OwnSS w base v us xss) (hb : Below w.heap.size w w') : OwnSS w' base v us xss :=
  h.same (fun k hk => hb.block k (h.row.lt k hk).2) (fun u hu k hk => hb.block k (h.ltI hu hk).2)

theorem OwnSS.mono {w : World} {base base' : Nat} {v : Value} {us : List Value} {xss : List (List Int)} (h : OwnSS w base v us xss) (hb : base' ≤ base) : OwnSS w base' v us xss :=
  ⟨own_mono h.row hb, fun j u xs hj hx => own_mono (h.each j u xs hj hx) hb⟩

/-- A row of another kind is another block. -/
theorem row_kind {w : World} {base base' : Nat} {e e' : TypeId} {s s' n n' : Nat} {v v' : Value} {xs xs' : List Value} (h : w.ownsRow base e s v n xs) (h' : w.ownsRow base' e' s' v' n' xs') (hne : e ≠ e') {k : Nat} (hk : v.ownBlock = some k) : v'.ownBlock ≠ some k := by
  intro hk'
  rcases h.2 with ⟨rfl, _⟩ | ⟨g, cap, cur, rfl, _, hg, _⟩
  · simp [Value.ownBlock] at hk
  rcases h'.2 with ⟨rfl, _⟩ | ⟨g', cap', cur', rfl, _, hg', _⟩
  · simp [Value.ownBlock] at hk'
  simp [Value.ownBlock] at hk hk'
  subst hk
  subst hk'
  rw [hg] at hg'
  simp at hg'
  exact hne hg'.2

/-- One list more. -/
theorem OwnSS.appended {w w' : World} {base : Nat} {v v' u : Value} {us : List Value} {xss : List (List Int)} {xs : List Int} (h : OwnSS w base v us xss) (hu : w.ownsRow base 2 1 u xs.length (ints xs))
    (hr : w'.ownsRow base 26 1 v' (xss.length + 1) (us ++ [u])) (hg : w.grownBy w' v.ownBlock) : OwnSS w' base v' (us ++ [u]) (xss ++ [xs]) := by
  refine ⟨by simpa using hr, fun j x ys hj hx => ?_⟩
  have keep : ∀ (x : Value) (ys : List Int), w.ownsRow base 2 1 x ys.length (ints ys) → w'.ownsRow base 2 1 x ys.length (ints ys) := fun x ys ho =>
    own_same ho (fun k hk => hg.block k (ho.lt k hk).2 (fun e => row_kind ho h.row (by decide) hk e.symm))
  have hl := h.len
  by_cases hjl : j < us.length
  · rw [List.getElem?_append_left hjl] at hj
    rw [List.getElem?_append_left (by omega)] at hx
    exact keep x ys (h.each j x ys hj hx)
  · rw [List.getElem?_append_right (by omega)] at hj
    rw [List.getElem?_append_right (by omega)] at hx
    have : j - us.length = 0 := by
      have := (List.getElem?_eq_some_iff.1 hj).1
      simp at this; omega
    rw [this] at hj
    rw [← hl, this] at hx
    simp at hj hx
    subst hj hx
    exact keep u xs hu

/-- A change elsewhere: of a row of slices that is another one. -/
theorem OwnSS.other {w w' : World} {base : Nat} {v : Value} {us : List Value} {xss : List (List Int)} {base2 : Nat} {v2 : Value} {n2 : Nat} {us2 : List Value} (h : OwnSS w base v us xss) (h2 : w.ownsRow base2 26 1 v2 n2 us2) (hg : w.grownBy w' v2.ownBlock) (hne : ∀ k, v.ownBlock = some k → v2.ownBlock ≠ some k) : OwnSS w' base v us xss :=
  h.same (fun k hk => hg.block k (h.row.lt k hk).2 (fun e => hne k hk e.symm)) (fun u hu k hk => by
    obtain ⟨xs, _, ho⟩ := h.inner hu
    exact hg.block k (ho.lt k hk).2 (fun e => row_kind ho h2 (by decide) hk e.symm))

theorem infoSlice : (Try.prog.info? 26).map (fun i => (i.zero, i.size, i.bytes)) = some (some (.slice none 0 0), 1, 24) := by kernel_rfl

theorem made0S (w : World) : OwnSS (w.alloc (.cells #[] 26)) w.heap.size (.slice (some ⟨w.heap.size, 0, none⟩) 0 0) [] [] :=
  ⟨World.ownsRow_made w #[] 0 (Nat.le_refl _) (by decide) (by simp), fun j u xs hj _ => by simp at hj⟩

theorem nilS (w : World) (base : Nat) : OwnSS w base (.slice none 0 0) [] [] := ⟨⟨by simp, .inl ⟨rfl, rfl⟩⟩, fun j u xs hj _ => by simp at hj⟩

/-- The cell of a list in its row. -/
theorem OwnSS.at {w : World} {base g cap : Nat} {us : List Value} {xss : List (List Int)} (h : OwnSS w base (.slice (some ⟨g, 0, none⟩) xss.length cap) us xss) {j : Nat} (hj : j < xss.length) : ∃ u, us[j]? = some u ∧ w.cell? ⟨g, j, none⟩ = some u ∧ w.ownsRow base 2 1 u xss[j].length (ints xss[j]) := by
  have hl := h.len
  refine ⟨us[j]'(by omega), by simp [hl, hj], ?_, h.each j _ _ (by simp [hl, hj]) (by simp [hj])⟩
  rw [h.row.cellAt j (by omega)]
  simp [hl, hj]

end Go.Proofs.Ytnjbihfceckpfaa

/-
  laws.eqInt64SS: two lists of lists that are alike.
-/
namespace Go.Proofs.Ytnjbihfceckpfaa
open Go.RowKit
set_option linter.unusedVariables false
set_option maxHeartbeats 1000000
attribute [local go_sem ↓] Go.wp_at_zero Go.wp_at_succ

/-- The slice v holds slices that hold the lists xss. -/
def ReadsSS (w : World) (v : Value) (xss : List (List Int)) : Prop :=
  ∃ ao cap, v = .slice ao xss.length cap ∧ ∀ j xs, xss[j]? = some xs → ∃ g off u, ao = some ⟨g, off, none⟩ ∧ w.cell? ⟨g, off + j, none⟩ = some u ∧ Reads w u (ints xs)

theorem readsSS_below {w w' : World} {v : Value} {xss : List (List Int)} (h : ReadsSS w v xss) (hb : Below w.heap.size w w') : ReadsSS w' v xss := by
  obtain ⟨ao, cap, rfl, hc⟩ := h
  refine ⟨ao, cap, rfl, fun j xs hx => ?_⟩
  obtain ⟨g, off, u, hg, hcell, hr⟩ := hc j xs hx
  exact ⟨g, off, u, hg, (hb.cell (World.block_lt_of_cell? w _ hcell)).trans hcell, reads_below hr hb⟩

theorem OwnSS.reads {w : World} {base : Nat} {v : Value} {us : List Value} {xss : List (List Int)} (h : OwnSS w base v us xss) : ReadsSS w v xss := by
  have hl := h.len
  rcases h.row.2 with ⟨rfl, hn⟩ | ⟨g, cap, cur, rfl, _⟩
  · exact ⟨none, 0, by rw [hn], fun j xs hx => by rw [List.eq_nil_of_length_eq_zero hn] at hx; simp at hx⟩
  · refine ⟨some ⟨g, 0, none⟩, cap, rfl, fun j xs hx => ?_⟩
    have hj : j < xss.length := (List.getElem?_eq_some_iff.1 hx).1
    obtain ⟨u, hu, hc, ho⟩ := h.at hj
    have e : xss[j] = xs := (List.getElem?_eq_some_iff.1 hx).2
    exact ⟨g, 0, u, rfl, by rw [Nat.zero_add]; exact hc, by rw [← e]; exact reads_own ho⟩

theorem eqInt64SS (xss : List (List Int)) (v u : Value) (w : World) (hl : xss.length ≤ maxLen) (hx : ∀ xs ∈ xss, xs.length ≤ maxLen) (hv : ReadsSS w v xss) (hu : ReadsSS w u xss) :
    Calls Try.prog 20 #[v, u] w fun e w' => e = .returned (.bool true) ∧ Below w.heap.size w w' := by
  unfold maxLen at hl
  obtain ⟨ao, cap, rfl, hc⟩ := hv
  obtain ⟨bo, cap', rfl, hd⟩ := hu
  go_enter Try.func20, Try.ntmps20
  go_wp2
  go_loopw [5] (fun i wr => ∃ k : Nat, k ≤ xss.length ∧ i = .int .i64 k ∧ Below w.heap.size w wr) (fun i _ => xss.length - (intOf i).toNat)
  case atStart => exact ⟨0, Nat.zero_le _, rfl, Below.refl _ _⟩
  case round =>
    obtain ⟨k, hk, rfl, hb⟩ := hrel
    by_cases hlt : k < xss.length
    · obtain ⟨g, off, p, rfl, p0, rp⟩ := hc k xss[k] (by simp [hlt])
      obtain ⟨g', off', q, rfl, q0, rq⟩ := hd k xss[k] (by simp [hlt])
      have hxl := hx xss[k] (List.getElem_mem hlt)
      have pB := World.block_lt_of_cell? w _ p0
      have qB := World.block_lt_of_cell? w _ q0
      have sz := hb.size
      have p1 := (hb.cell pB).trans p0
      have q1 := (hb.cell qB).trans q0
      have pB' : g < wr.heap.size := by simp at pB; omega
      have qB' : g' < wr.heap.size := by simp at qB; omega
      have hlt' : (k : Int) < (xss.length : Int) := by omega
      have hk0 : (0 : Int) ≤ (k : Int) := by omega
      have he : ∀ W, Below wr.heap.size wr W → _ := fun W hW => eqInt64S xss[k] p q W hxl (reads_below (reads_below rp hb) hW) (reads_below (reads_below rq hb) hW)
      obtain ⟨pa, pn, pc, rfl⟩ : ∃ a n c, p = .slice a n c := by obtain ⟨a, c, rfl, _⟩ := rp; exact ⟨_, _, _, rfl⟩
      obtain ⟨qa, qn, qc, rfl⟩ : ∃ a n c, q = .slice a n c := by obtain ⟨a, c, rfl, _⟩ := rq; exact ⟨_, _, _, rfl⟩
      clear hc hd rp rq p0 q0
      go_wp2_with fail
      go_region_held3 (fun w' => w'.cell? ⟨g, off + k, none⟩ = some (.slice pa pn pc) ∧ w'.cell? ⟨g', off' + k, none⟩ = some (.slice qa qn qc)) (first | exact ⟨p1, q1⟩ | exact ⟨(hc4 _ _ pB').trans p1, (hc4 _ _ qB').trans q1⟩) (first
        | (go_at_call 13; refine (he _ (by go_grown)).mono ?_; rintro e w4 ⟨rfl, b4⟩; have M4 : Below wr.heap.size wr w4 := Below.trans (by go_grown) b4; obtain ⟨hc4, hf4⟩ := bcell M4))
      all_goals
        go_wp2
        go_roundw
        case rel => exact ⟨k + 1, by omega, by go_num, hb.trans (M4.mono sz)⟩
        case measure => simp [intOf]; omega
    · go_wp2
      go_ret
      exact ⟨rfl, hb⟩

end Go.Proofs.Ytnjbihfceckpfaa
