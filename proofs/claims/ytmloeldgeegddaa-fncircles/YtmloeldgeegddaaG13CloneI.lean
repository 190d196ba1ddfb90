/-
  Put together out of: Lists, CloneI.
-/
import Derived.Test.YtmloeldgeegddaaPut
import Derived.Maps.AppendAt
import Derived.ArgAppend
/-
  Slices of slices of numbers that the call has made.
-/
namespace Go.Proofs.Ytmloeldgeegddaa
open Go.RowKit
set_option linter.unusedVariables false
set_option maxHeartbeats 1000000

theorem own_same {w w' : World} {base : Nat} {e : TypeId} {s : Nat} {v : Value} {n : Nat} {xs : List Value} (h : w.ownsRow base e s v n xs) (he : ∀ k, v.ownBlock = some k → w'.heap[k]? = w.heap[k]?) : w'.ownsRow base e s v n xs := by
  refine ⟨h.1, ?_⟩
  rcases h.2 with hn | ⟨g, cap, cur, rfl, hbg, hg, r⟩
  · exact .inl hn
  · exact .inr ⟨g, cap, cur, rfl, hbg, (he g rfl).trans hg, r⟩

/-- v holds the slices us, which hold the lists xss; all the call's own, from block base on. -/
structure OwnSS (w : World) (base : Nat) (v : Value) (us : List Value) (xss : List (List Int)) : Prop where
  row : w.ownsRow base 30 1 v xss.length us
  each : ∀ (j : Nat) (u : Value) (xs : List Int), us[j]? = some u → xss[j]? = some xs → w.ownsRow base 2 1 u xs.length (ints xs)

theorem OwnSS.len {w : World} {base : Nat} {v : Value} {us : List Value} {xss : List (List Int)} (h : OwnSS w base v us xss) : us.length = xss.length := by
  have := h.row.1
  omega

theorem OwnSS.inner {w : World} {base : Nat} {v : Value} {us : List Value} {xss : List (List Int)} (h : OwnSS w base v us xss) {u : Value} (hu : u ∈ us) : ∃ xs ∈ xss, w.ownsRow base 2 1 u xs.length (ints xs) := by
  obtain ⟨j, hj⟩ := List.getElem?_of_mem hu
  have hjl : j < xss.length := by rw [← h.len]; exact (List.getElem?_eq_some_iff.1 hj).1
  exact ⟨xss[j], List.getElem_mem hjl, h.each j u xss[j] hj (by simp [hjl])⟩

theorem OwnSS.same {w w' : World} {base : Nat} {v : Value} {us : List Value} {xss : List (List Int)} (h : OwnSS w base v us xss) (h1 : ∀ k, v.ownBlock = some k → w'.heap[k]? = w.heap[k]?) (h2 : ∀ u ∈ us, ∀ k, u.ownBlock = some k → w'.heap[k]? = w.heap[k]?) : OwnSS w' base v us xss :=
  ⟨own_same h.row h1, fun j u xs hj hx => own_same (h.each j u xs hj hx) (h2 u (List.mem_of_getElem? hj))⟩

theorem OwnSS.ltI {w : World} {base : Nat} {v : Value} {us : List Value} {xss : List (List Int)} (h : OwnSS w base v us xss) {u : Value} (hu : u ∈ us) {k : Nat} (hk : u.ownBlock = some k) : base ≤ k ∧ k < w.heap.size := by
  obtain ⟨xs, _, ho⟩ := h.inner hu
  exact ho.lt k hk

theorem OwnSS.below {w w' : World} {base : Nat} {v : Value} {us : List Value} {xss : List (List Int)} (h : OwnSS w base v us xss) (hb : Below w.heap.size w w') : OwnSS w' base v us xss :=
  h.same (fun k hk => hb.block k (h.row.lt k hk).2) (fun u hu k hk => hb.block k (h.ltI hu hk).2)

theorem OwnSS.mono {w : World} {base base' : Nat} {v : Value} {us : List Value} {xss : List (List Int)} (h : OwnSS w base v us xss) (hb : base' ≤ base) : OwnSS w base' v us xss :=
  ⟨own_mono h.row hb, fun j u xs hj hx => own_mono (h.each j u xs hj hx) hb⟩

/-- A row of another kind is another block. -/
theorem row_kind {w : World} {base base' : Nat} {e e' : TypeId} {s s' n n' : Nat} {v v' : Value} {xs xs' : List Value} (h : w.ownsRow base e s v n xs) (h' : w.ownsRow base' e' s' v' n' xs') (hne : e ≠ e') {k : Nat} (hk : v.ownBlock = some k) : v'.ownBlock ≠ some k := by
  intro hk'
  rcases h.2 with ⟨rfl, _⟩ | ⟨g, cap, cur, rfl, _, hg, _⟩
  · simp [Value.ownBlock] at hk
  rcases h'.2 with ⟨rfl, _⟩ | ⟨g', cap', cur', rfl, _, hg', _⟩
  · simp [Value.ownBlock] at hk'
  simp [Value.ownBlock] at hk hk'
  subst hk
  subst hk'
  rw [hg] at hg'
  simp at hg'
  exact hne hg'.2

/-- One list more. -/
theorem OwnSS.appended {w w' : World} {base : Nat} {v v' u : Value} {us : List Value} {xss : List (List Int)} {xs : List Int} (h : OwnSS w base v us xss) (hu : w.ownsRow base 2 1 u xs.length (ints xs))
    (hr : w'.ownsRow base 30 1 v' (xss.length + 1) (us ++ [u])) (hg : w.grownBy w' v.ownBlock) : OwnSS w' base v' (us ++ [u]) (xss ++ [xs]) := by
  refine ⟨by simpa using hr, fun j x ys hj hx => ?_⟩
  have keep : ∀ (x : Value) (ys : List Int), w.ownsRow base 2 1 x ys.length (ints ys) → w'.ownsRow base 2 1 x ys.length (ints ys) := fun x ys ho =>
    own_same ho (fun k hk => hg.block k (ho.lt k hk).2 (fun e => row_kind ho h.row (by decide) hk e.symm))
  have hl := h.len
  by_cases hjl : j < us.length
  · rw [List.getElem?_append_left hjl] at hj
    rw [List.getElem?_append_left (by omega)] at hx
    exact keep x ys (h.each j x ys hj hx)
  · rw [List.getElem?_append_right (by omega)] at hj
    rw [List.getElem?_append_right (by omega)] at hx
    have : j - us.length = 0 := by
      have := (List.getElem?_eq_some_iff.1 hj).1
      simp at this; omega
    rw [this] at hj
    rw [← hl, this] at hx
    simp at hj hx
    subst hj hx
    exact keep u xs hu

/-- A change elsewhere: of a row of slices that is another one. -/
theorem OwnSS.other {w w' : World} {base : Nat} {v : Value} {us : List Value} {xss : List (List Int)} {base2 : Nat} {v2 : Value} {n2 : Nat} {us2 : List Value} (h : OwnSS w base v us xss) (h2 : w.ownsRow base2 30 1 v2 n2 us2) (hg : w.grownBy w' v2.ownBlock) (hne : ∀ k, v.ownBlock = some k → v2.ownBlock ≠ some k) : OwnSS w' base v us xss :=
  h.same (fun k hk => hg.block k (h.row.lt k hk).2 (fun e => hne k hk e.symm)) (fun u hu k hk => by
    obtain ⟨xs, _, ho⟩ := h.inner hu
    exact hg.block k (ho.lt k hk).2 (fun e => row_kind ho h2 (by decide) hk e.symm))

theorem infoSlice : (Try.prog.info? 30).map (fun i => (i.zero, i.size, i.bytes)) = some (some (.slice none 0 0), 1, 24) := by kernel_rfl

theorem made0S (w : World) : OwnSS (w.alloc (.cells #[] 30)) w.heap.size (.slice (some ⟨w.heap.size, 0, none⟩) 0 0) [] [] :=
  ⟨World.ownsRow_made w #[] 0 (Nat.le_refl _) (by decide) (by simp), fun j u xs hj _ => by simp at hj⟩

theorem nilS (w : World) (base : Nat) : OwnSS w base (.slice none 0 0) [] [] := ⟨⟨by simp, .inl ⟨rfl, rfl⟩⟩, fun j u xs hj _ => by simp at hj⟩

/-- The cell of a list in its row. -/
theorem OwnSS.at {w : World} {base g cap : Nat} {us : List Value} {xss : List (List Int)} (h : OwnSS w base (.slice (some ⟨g, 0, none⟩) xss.length cap) us xss) {j : Nat} (hj : j < xss.length) : ∃ u, us[j]? = some u ∧ w.cell? ⟨g, j, none⟩ = some u ∧ w.ownsRow base 2 1 u xss[j].length (ints xss[j]) := by
  have hl := h.len
  refine ⟨us[j]'(by omega), by simp [hl, hj], ?_, h.each j _ _ (by simp [hl, hj]) (by simp [hj])⟩
  rw [h.row.cellAt j (by omega)]
  simp [hl, hj]

end Go.Proofs.Ytmloeldgeegddaa

/-
  slices.Clone over int64, of a list that is not empty.
-/
namespace Go.Proofs.Ytmloeldgeegddaa
open Go.RowKit
set_option linter.unusedVariables false
set_option maxHeartbeats 1000000
set_option maxRecDepth 20000

theorem sliceClone (xs : List Int) (v : Value) (w : World) (h0 : 0 < xs.length) (hl : xs.length ≤ 1000000) (hv : Reads w v (ints xs)) :
    Calls Try.prog 109 #[v] w fun e w' => ∃ g cap, e = .returned (.slice (some ⟨g, 0, none⟩) xs.length cap) ∧ w'.ownsRow w.heap.size 2 1 (.slice (some ⟨g, 0, none⟩) xs.length cap) xs.length (ints xs) ∧ Below w.heap.size w w' := by
  obtain ⟨i0, hi, hz0, hz1, hz2⟩ := info_parts infoInt
  obtain ⟨ao, cap, rfl, hc⟩ := hv
  rw [ints_length]
  obtain ⟨g, off, rfl, _⟩ := hc 0 (.int .i64 xs[0]) (by simp [ints, h0])
  have hcs : Hid (∀ j u, (ints xs)[j]? = some u → (w.alloc (.cells #[] 2)).cell? ((⟨g, off, none⟩ : Addr).add j) = some u) := by
    intro j u hu
    obtain ⟨g', off', e, hcell⟩ := hc j u hu
    simp only [Option.some.injEq, Addr.mk.injEq, and_true] at e
    obtain ⟨rfl, rfl⟩ := e
    rw [Addr.add_lit]
    exact (Below.cell (Below.alloc (Below.refl _ w) (Nat.le_refl _) _) (World.block_lt_of_cell? w _ hcell)).trans hcell
  have heq : ∀ (W : World) (A : Addr) (n c : Nat), (binOp .eql 30 (.slice (some A) n c) (.slice none 0 0)).run Try.prog W = .ok (.bool false) W := fun _ _ _ _ => rfl
  have m0 := made0 w
  have B0 : Below w.heap.size w (w.alloc (.cells #[] 2)) := by go_grown
  clear hc
  go_enter Try.func109, Try.ntmps109
  go_wp2_with (first
    | (at_builtin; refine wpList_append_own _ rfl (.tmp 5) (.tmp 6) 30 rfl w.heap.size 2 i0 (.int .i64 0) 1 8 Try.underlying30 hi hz0 hz1 hz2 rfl (by decide) _ 0 [] rfl m0 ⟨g, off, none⟩ xs.length _ (ints xs) rfl (by simp [ints_length]) hcs.out (ints_oneCell xs) (by unfold maxLen; omega) (by omega) (by simp) ?_; intro v2 w2 own2 grow2 _)
    | go_in)
  have L2 : Below w.heap.size w w2 := below_app B0 grow2 (fun q hq => Nat.le_of_eq (Option.some.inj (show some w.heap.size = some q from hq)))
  have own3 : w2.ownsRow w.heap.size 2 1 v2 xs.length (ints xs) := by simpa using own2
  rcases own3.2 with ⟨_, hn⟩ | ⟨g2, cap2, cur2, rfl, _⟩
  · omega
  go_ret
  exact ⟨g2, cap2, rfl, own3, L2⟩

/-- Lists of numbers as Go's. -/
def castLL (c : List (List Nat)) : List (List Int) := c.map (fun g => g.map (fun x : Nat => (x : Int)))

end Go.Proofs.Ytmloeldgeegddaa
