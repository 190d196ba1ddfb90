/-
  Put together out of: Lists, ListsLaw, WaysSt, CloneI.
-/
import Derived.Test.YtebadimjpbhagaaPut
import Derived.Maps.AppendAt
import Derived.Deep.RegionHeld3
import Derived.Deep.DrawnRows
import Derived.Test.YtebadimjpbhagaaG14WaysM
import Derived.Deep.AppendLies
import Derived.ArgAppend
/-
  Slices of slices of numbers that the call has made.
-/
namespace Go.Proofs.Ytebadimjpbhagaa
open Go.RowKit
set_option linter.unusedVariables false
set_option maxHeartbeats 1000000

theorem own_same {w w' : World} {base : Nat} {e : TypeId} {s : Nat} {v : Value} {n : Nat} {xs : List Value} (h : w.ownsRow base e s v n xs) (he : ∀ k, v.ownBlock = some k → w'.heap[k]? = w.heap[k]?) : w'.ownsRow base e s v n xs := by
  refine ⟨h.1, ?_⟩
  rcases h.2 with hn | ⟨g, cap, cur, rfl, hbg, hg, r⟩
  · exact .inl hn
  · exact .inr ⟨g, cap, cur, rfl, hbg, (he g rfl).trans hg, r⟩

/-- v holds the slices us, which hold the lists xss; all the call's own, from block base on. -/
structure OwnSS (w : World) (base : Nat) (v : Value) (us : List Value) (xss : List (List Int)) : Prop where
  row : w.ownsRow base 29 1 v xss.length us
  each : ∀ (j : Nat) (u : Value) (xs : List Int), us[j]? = some u → xss[j]? = some xs → w.ownsRow base 2 1 u xs.length (ints xs)

theorem OwnSS.len {w : World} {base : Nat} {v : Value} {us : List Value} {xss : List (List Int)} (h : OwnSS w base v us xss) : us.length = xss.length := by
  have := h.row.1
  omega

theorem OwnSS.inner {w : World} {base : Nat} {v : Value} {us : List Value} {xss : List (List Int)} (h : OwnSS w base v us xss) {u : Value} (hu : u ∈ us) : ∃ xs ∈ xss, w.ownsRow base 2 1 u xs.length (ints xs) := by
  obtain ⟨j, hj⟩ := List.getElem?_of_mem hu
  have hjl : j < xss.length := by rw [← h.len]; exact (List.getElem?_eq_some_iff.1 hj).1
  exact ⟨xss[j], List.getElem_mem hjl, h.each j u xss[j] hj (by simp [hjl])⟩

theorem OwnSS.same {w w' : World} {base : Nat} {v : Value} {us : List Value} {xss : List (List Int)} (h : OwnSS w base v us xss) (h1 : ∀ k, v.ownBlock = some k → w'.heap[k]? = w.heap[k]?) (h2 : ∀ u ∈ us, ∀ k, u.ownBlock = some k → w'.heap[k]? = w.heap[k]?) : OwnSS w' base v us xss :=
  ⟨own_same h.row h1, fun j u xs hj hx => own_same (h.each j u xs hj hx) (h2 u (List.mem_of_getElem? hj))⟩

theorem OwnSS.ltI {w : World} {base : Nat} {v : Value} {us : List Value} {xss : List (List Int)} (h : OwnSS w base v us xss) {u : Value} (hu : u ∈ us) {k : Nat} (hk : u.ownBlock = some k) : base ≤ k ∧ k < w.heap.size := by
  obtain ⟨xs, _, ho⟩ := h.inner hu
  exact ho.lt k hk

theorem OwnSS.below {w w' : World} {base : Nat} {v : Value} {us : List Value} {xss : List (List Int)} (h : OwnSS w base v us xss) (hb : Below w.heap.size w w') : OwnSS w' base v us xss :=
  h.same (fun k hk => hb.block k (h.row.lt k hk).2) (fun u hu k hk => hb.block k (h.ltI hu hk).2)

theorem OwnSS.mono {w : World} {base base' : Nat} {v : Value} {us : List Value} {xss : List (List Int)} (h : OwnSS w base v us xss) (hb : base' ≤ base) : OwnSS w base' v us xss :=
  ⟨own_mono h.row hb, fun j u xs hj hx => own_mono (h.each j u xs hj hx) hb⟩

/-- A row of another kind is another block. -/
theorem row_kind {w : World} {base base' : Nat} {e e' : TypeId} {s s' n n' : Nat} {v v' : Value} {xs xs' : List Value} (h : w.ownsRow base e s v n xs) (h' : w.ownsRow base' e' s' v' n' xs') (hne : e ≠ e') {k : Nat} (hk : v.ownBlock = some k) : v'.ownBlock ≠ some k := by
  intro hk'
  rcases h.2 with ⟨rfl, _⟩ | ⟨g, cap, cur, rfl, _, hg, _⟩
  · simp [Value.ownBlock] at hk
  rcases h'.2 with ⟨rfl, _⟩ | ⟨g', cap', cur', rfl, _, hg', _⟩
  · simp [Value.ownBlock] at hk'
  simp [Value.ownBlock] at hk hk'
  subst hk
  subst hk'
  rw [hg] at hg'
  simp at hg'
  exact hne hg'.2

/-- One list more. -/
theorem OwnSS.appended {w w' : World} {base : Nat} {v v' u : Value} {us : List Value} {xss : List (List Int)} {xs : List Int} (h : OwnSS w base v us xss) (hu : w.ownsRow base 2 1 u xs.length (ints xs))
    (hr : w'.ownsRow base 29 1 v' (xss.length + 1) (us ++ [u])) (hg : w.grownBy w' v.ownBlock) : OwnSS w' base v' (us ++ [u]) (xss ++ [xs]) := by
  refine ⟨by simpa using hr, fun j x ys hj hx => ?_⟩
  have keep : ∀ (x : Value) (ys : List Int), w.ownsRow base 2 1 x ys.length (ints ys) → w'.ownsRow base 2 1 x ys.length (ints ys) := fun x ys ho =>
    own_same ho (fun k hk => hg.block k (ho.lt k hk).2 (fun e => row_kind ho h.row (by decide) hk e.symm))
  have hl := h.len
  by_cases hjl : j < us.length
  · rw [List.getElem?_append_left hjl] at hj
    rw [List.getElem?_append_left (by omega)] at hx
    exact keep x ys (h.each j x ys hj hx)
  · rw [List.getElem?_append_right (by omega)] at hj
    rw [List.getElem?_append_right (by omega)] at hx
    have : j - us.length = 0 := by
      have := (List.getElem?_eq_some_iff.1 hj).1
      simp at this; omega
    rw [this] at hj
    rw [← hl, this] at hx
    simp at hj hx
    subst hj hx
    exact keep u xs hu

/-- A change elsewhere: of a row of slices that is another one. -/
theorem OwnSS.other {w w' : World} {base : Nat} {v : Value} {us : List Value} {xss : List (List Int)} {base2 : Nat} {v2 : Value} {n2 : Nat} {us2 : List Value} (h : OwnSS w base v us xss) (h2 : w.ownsRow base2 29 1 v2 n2 us2) (hg : w.grownBy w' v2.ownBlock) (hne : ∀ k, v.ownBlock = some k → v2.ownBlock ≠ some k) : OwnSS w' base v us xss :=
  h.same (fun k hk => hg.block k (h.row.lt k hk).2 (fun e => hne k hk e.symm)) (fun u hu k hk => by
    obtain ⟨xs, _, ho⟩ := h.inner hu
    exact hg.block k (ho.lt k hk).2 (fun e => row_kind ho h2 (by decide) hk e.symm))

theorem infoSlice : (Try.prog.info? 29).map (fun i => (i.zero, i.size, i.bytes)) = some (some (.slice none 0 0), 1, 24) := by kernel_rfl

theorem made0S (w : World) : OwnSS (w.alloc (.cells #[] 29)) w.heap.size (.slice (some ⟨w.heap.size, 0, none⟩) 0 0) [] [] :=
  ⟨World.ownsRow_made w #[] 0 (Nat.le_refl _) (by decide) (by simp), fun j u xs hj _ => by simp at hj⟩

theorem nilS (w : World) (base : Nat) : OwnSS w base (.slice none 0 0) [] [] := ⟨⟨by simp, .inl ⟨rfl, rfl⟩⟩, fun j u xs hj _ => by simp at hj⟩

/-- The cell of a list in its row. -/
theorem OwnSS.at {w : World} {base g cap : Nat} {us : List Value} {xss : List (List Int)} (h : OwnSS w base (.slice (some ⟨g, 0, none⟩) xss.length cap) us xss) {j : Nat} (hj : j < xss.length) : ∃ u, us[j]? = some u ∧ w.cell? ⟨g, j, none⟩ = some u ∧ w.ownsRow base 2 1 u xss[j].length (ints xss[j]) := by
  have hl := h.len
  refine ⟨us[j]'(by omega), by simp [hl, hj], ?_, h.each j _ _ (by simp [hl, hj]) (by simp [hj])⟩
  rw [h.row.cellAt j (by omega)]
  simp [hl, hj]

end Go.Proofs.Ytebadimjpbhagaa

/-
  laws.eqInt64SS: two lists of lists that are alike.
-/
namespace Go.Proofs.Ytebadimjpbhagaa
open Go.RowKit
set_option linter.unusedVariables false
set_option maxHeartbeats 1000000
attribute [local go_sem ↓] Go.wp_at_zero Go.wp_at_succ

/-- The slice v holds slices that hold the lists xss. -/
def ReadsSS (w : World) (v : Value) (xss : List (List Int)) : Prop :=
  ∃ ao cap, v = .slice ao xss.length cap ∧ ∀ j xs, xss[j]? = some xs → ∃ g off u, ao = some ⟨g, off, none⟩ ∧ w.cell? ⟨g, off + j, none⟩ = some u ∧ Reads w u (ints xs)

theorem readsSS_below {w w' : World} {v : Value} {xss : List (List Int)} (h : ReadsSS w v xss) (hb : Below w.heap.size w w') : ReadsSS w' v xss := by
  obtain ⟨ao, cap, rfl, hc⟩ := h
  refine ⟨ao, cap, rfl, fun j xs hx => ?_⟩
  obtain ⟨g, off, u, hg, hcell, hr⟩ := hc j xs hx
  exact ⟨g, off, u, hg, (hb.cell (World.block_lt_of_cell? w _ hcell)).trans hcell, reads_below hr hb⟩

theorem OwnSS.reads {w : World} {base : Nat} {v : Value} {us : List Value} {xss : List (List Int)} (h : OwnSS w base v us xss) : ReadsSS w v xss := by
  have hl := h.len
  rcases h.row.2 with ⟨rfl, hn⟩ | ⟨g, cap, cur, rfl, _⟩
  · exact ⟨none, 0, by rw [hn], fun j xs hx => by rw [List.eq_nil_of_length_eq_zero hn] at hx; simp at hx⟩
  · refine ⟨some ⟨g, 0, none⟩, cap, rfl, fun j xs hx => ?_⟩
    have hj : j < xss.length := (List.getElem?_eq_some_iff.1 hx).1
    obtain ⟨u, hu, hc, ho⟩ := h.at hj
    have e : xss[j] = xs := (List.getElem?_eq_some_iff.1 hx).2
    exact ⟨g, 0, u, rfl, by rw [Nat.zero_add]; exact hc, by rw [← e]; exact reads_own ho⟩


end Go.Proofs.Ytebadimjpbhagaa

/-
  What the search for ways has in hand: three lists of lists, apart.
-/
namespace Go.Proofs.Ytebadimjpbhagaa
open Go.RowKit
set_option linter.unusedVariables false
set_option maxHeartbeats 1000000

theorem cell_alloc_kept {w : World} {a : Addr} {x : Value} (o : Obj) (h : w.cell? a = some x) : (w.alloc o).cell? a = some x := by
  rw [World.cell?_alloc_lt _ _ _ (World.block_lt_of_cell? w _ h)]; exact h

theorem news1 {w : World} {b : Nat} {x : Value} (h : w.cell? ⟨b, 0, none⟩ = some x) : ∀ j u, [x][j]? = some u → w.cell? ((⟨b, 0, none⟩ : Addr).add j) = some u := fun j u hu => by
  cases j with
  | zero =>
    simp at hu
    subst hu
    have e : (⟨b, 0, none⟩ : Addr).add 0 = ⟨b, 0, none⟩ := by unfold Addr.add; split <;> simp_all
    rw [e]
    exact h
  | succ j => simp at hu

theorem row_kept {base base' : Nat} {ov lv : Value} {us : List Value} {n : Nat} {W w' : World} {xs : List Value} {m : Nat} (hl : W.ownsRow base' 2 1 lv n xs) (ho : W.ownsRow base 29 1 ov m us) (hg : W.grownBy w' ov.ownBlock) : w'.ownsRow base' 2 1 lv n xs :=
  own_same hl (fun k hk => hg.block k (hl.lt k hk).2 (fun e => row_kind hl ho (by decide) hk e.symm))

structure WSt (v : Value) (w : World) (ov : Value) (us : List Value) (xss : List (List Int)) (nv : Value) (ns : List Value) (yss : List (List Int)) (rv : Value) (vs : List Value) (zss : List (List Int)) (wr : World) : Prop where
  o : OwnSS wr (w.heap.size + 1) ov us xss
  n : OwnSS wr (w.heap.size + 1) nv ns yss
  r : OwnSS wr (w.heap.size + 1) rv vs zss
  on : ∀ k, ov.ownBlock = some k → nv.ownBlock ≠ some k
  or : ∀ k, ov.ownBlock = some k → rv.ownBlock ≠ some k
  nr : ∀ k, nv.ownBlock = some k → rv.ownBlock ≠ some k
  bl : Below w.heap.size w wr
  p : wr.heap[w.heap.size]? = some (.cells #[v] 26 (0, 0))

section
variable {v : Value} {w : World} {ov : Value} {us : List Value} {xss : List (List Int)} {nv : Value} {ns : List Value} {yss : List (List Int)} {rv : Value} {vs : List Value} {zss : List (List Int)} {wr wr' : World}

theorem WSt.below (h : WSt v w ov us xss nv ns yss rv vs zss wr) (hb : Below wr.heap.size wr wr') : WSt v w ov us xss nv ns yss rv vs zss wr' where
  o := h.o.below hb
  n := h.n.below hb
  r := h.r.below hb
  on := h.on
  or := h.or
  nr := h.nr
  bl := h.bl.trans (hb.mono h.bl.size)
  p := (hb.block _ (Array.getElem?_eq_some_iff.1 h.p).1).trans h.p

theorem WSt.plt (h : WSt v w ov us xss nv ns yss rv vs zss wr) : w.heap.size + 1 ≤ wr.heap.size := (Array.getElem?_eq_some_iff.1 h.p).1

theorem WSt.appO {u : Value} {xs : List Int} {g n cap : Nat} (h : WSt v w ov us xss nv ns yss rv vs zss wr) (hu : wr.ownsRow (w.heap.size + 1) 2 1 u xs.length (ints xs))
    (hr : wr'.ownsRow (w.heap.size + 1) 29 1 (.slice (some ⟨g, 0, none⟩) n cap) (xss.length + 1) (us ++ [u])) (hg : wr.grownBy wr' ov.ownBlock) (hat : ov.ownBlock = some g ∨ g = wr.heap.size) :
    WSt v w (.slice (some ⟨g, 0, none⟩) n cap) (us ++ [u]) (xss ++ [xs]) nv ns yss rv vs zss wr' where
  o := h.o.appended hu hr hg
  n := h.n.other h.o.row hg (fun k hk e => h.on k e hk)
  r := h.r.other h.o.row hg (fun k hk e => h.or k e hk)
  on := fun k hk e => by
    simp [Value.ownBlock] at hk
    subst hk
    rcases hat with h1 | h1
    · exact h.on g h1 e
    · have := (h.n.row.lt g e).2; omega
  or := fun k hk e => by
    simp [Value.ownBlock] at hk
    subst hk
    rcases hat with h1 | h1
    · exact h.or g h1 e
    · have := (h.r.row.lt g e).2; omega
  nr := h.nr
  bl := h.bl.grown hg h.bl.size (fun k e => by have := (h.o.row.lt k e).1; omega)
  p := (hg.block _ (Array.getElem?_eq_some_iff.1 h.p).1 (fun e => by have := (h.o.row.lt _ e.symm).1; omega)).trans h.p

theorem WSt.appN {u : Value} {xs : List Int} {g n cap : Nat} (h : WSt v w ov us xss nv ns yss rv vs zss wr) (hu : wr.ownsRow (w.heap.size + 1) 2 1 u xs.length (ints xs))
    (hr : wr'.ownsRow (w.heap.size + 1) 29 1 (.slice (some ⟨g, 0, none⟩) n cap) (yss.length + 1) (ns ++ [u])) (hg : wr.grownBy wr' nv.ownBlock) (hat : nv.ownBlock = some g ∨ g = wr.heap.size) :
    WSt v w ov us xss (.slice (some ⟨g, 0, none⟩) n cap) (ns ++ [u]) (yss ++ [xs]) rv vs zss wr' where
  n := h.n.appended hu hr hg
  o := h.o.other h.n.row hg (fun k hk e => h.on k hk e)
  r := h.r.other h.n.row hg (fun k hk e => h.nr k e hk)
  on := fun k hk e => by
    simp [Value.ownBlock] at e
    subst e
    rcases hat with h1 | h1
    · exact h.on _ hk h1
    · have := (h.o.row.lt _ hk).2; omega
  nr := fun k hk e => by
    simp [Value.ownBlock] at hk
    subst hk
    rcases hat with h1 | h1
    · exact h.nr g h1 e
    · have := (h.r.row.lt g e).2; omega
  or := h.or
  bl := h.bl.grown hg h.bl.size (fun k e => by have := (h.n.row.lt k e).1; omega)
  p := (hg.block _ (Array.getElem?_eq_some_iff.1 h.p).1 (fun e => by have := (h.n.row.lt _ e.symm).1; omega)).trans h.p

/-- A row of numbers that is none of the lists' own stays where an inner append writes another row of numbers. -/
theorem WSt.inner {gv : Value} {n : Nat} {xs : List Value} (h : WSt v w ov us xss nv ns yss rv vs zss wr) (hg : wr.grownBy wr' gv.ownBlock)
    (ho : ∀ k, gv.ownBlock = some k → ov.ownBlock ≠ some k ∧ nv.ownBlock ≠ some k ∧ rv.ownBlock ≠ some k ∧ (∀ u ∈ us, u.ownBlock ≠ some k) ∧ (∀ u ∈ ns, u.ownBlock ≠ some k) ∧ (∀ u ∈ vs, u.ownBlock ≠ some k) ∧ w.heap.size < k) : WSt v w ov us xss nv ns yss rv vs zss wr' where
  o := h.o.same (fun k hk => hg.block k (h.o.row.lt k hk).2 (fun e => (ho k e.symm).1 hk)) (fun u hu k hk => hg.block k (h.o.ltI hu hk).2 (fun e => (ho k e.symm).2.2.2.1 u hu hk))
  n := h.n.same (fun k hk => hg.block k (h.n.row.lt k hk).2 (fun e => (ho k e.symm).2.1 hk)) (fun u hu k hk => hg.block k (h.n.ltI hu hk).2 (fun e => (ho k e.symm).2.2.2.2.1 u hu hk))
  r := h.r.same (fun k hk => hg.block k (h.r.row.lt k hk).2 (fun e => (ho k e.symm).2.2.1 hk)) (fun u hu k hk => hg.block k (h.r.ltI hu hk).2 (fun e => (ho k e.symm).2.2.2.2.2.1 u hu hk))
  on := h.on
  or := h.or
  nr := h.nr
  bl := h.bl.grown hg h.bl.size (fun k e => by have := (ho k e).2.2.2.2.2.2; omega)
  p := (hg.block _ (Array.getElem?_eq_some_iff.1 h.p).1 (fun e => by have := (ho _ e.symm).2.2.2.2.2.2; omega)).trans h.p

/-- A block that was not there is none of theirs. -/
theorem WSt.fresh (h : WSt v w ov us xss nv ns yss rv vs zss wr) (k : Nat) (hk : wr.heap.size ≤ k) : ov.ownBlock ≠ some k ∧ nv.ownBlock ≠ some k ∧ rv.ownBlock ≠ some k ∧ (∀ u ∈ us, u.ownBlock ≠ some k) ∧ (∀ u ∈ ns, u.ownBlock ≠ some k) ∧ (∀ u ∈ vs, u.ownBlock ≠ some k) ∧ w.heap.size < k :=
  ⟨fun e => by have := (h.o.row.lt k e).2; omega, fun e => by have := (h.n.row.lt k e).2; omega, fun e => by have := (h.r.row.lt k e).2; omega, fun u hu e => by have := (h.o.ltI hu e).2; omega, fun u hu e => by have := (h.n.ltI hu e).2; omega, fun u hu e => by have := (h.r.ltI hu e).2; omega, by have := h.plt; omega⟩

end

end Go.Proofs.Ytebadimjpbhagaa

/-
  slices.Clone over int64, of a list that is not empty.
-/
namespace Go.Proofs.Ytebadimjpbhagaa
open Go.RowKit
set_option linter.unusedVariables false
set_option maxHeartbeats 1000000
set_option maxRecDepth 20000

theorem sliceClone (xs : List Int) (v : Value) (w : World) (h0 : 0 < xs.length) (hl : xs.length ≤ 1000000) (hv : Reads w v (ints xs)) :
    Calls Try.prog 98 #[v] w fun e w' => ∃ g cap, e = .returned (.slice (some ⟨g, 0, none⟩) xs.length cap) ∧ w'.ownsRow w.heap.size 2 1 (.slice (some ⟨g, 0, none⟩) xs.length cap) xs.length (ints xs) ∧ Below w.heap.size w w' := by
  obtain ⟨i0, hi, hz0, hz1, hz2⟩ := info_parts infoInt
  obtain ⟨ao, cap, rfl, hc⟩ := hv
  rw [ints_length]
  obtain ⟨g, off, rfl, _⟩ := hc 0 (.int .i64 xs[0]) (by simp [ints, h0])
  have hcs : Hid (∀ j u, (ints xs)[j]? = some u → (w.alloc (.cells #[] 2)).cell? ((⟨g, off, none⟩ : Addr).add j) = some u) := by
    intro j u hu
    obtain ⟨g', off', e, hcell⟩ := hc j u hu
    simp only [Option.some.injEq, Addr.mk.injEq, and_true] at e
    obtain ⟨rfl, rfl⟩ := e
    rw [Addr.add_lit]
    exact (Below.cell (Below.alloc (Below.refl _ w) (Nat.le_refl _) _) (World.block_lt_of_cell? w _ hcell)).trans hcell
  have heq : ∀ (W : World) (A : Addr) (n c : Nat), (binOp .eql 29 (.slice (some A) n c) (.slice none 0 0)).run Try.prog W = .ok (.bool false) W := fun _ _ _ _ => rfl
  have m0 := made0 w
  have B0 : Below w.heap.size w (w.alloc (.cells #[] 2)) := by go_grown
  clear hc
  go_enter Try.func98, Try.ntmps98
  go_wp2_with (first
    | (at_builtin; refine wpList_append_own _ rfl (.tmp 5) (.tmp 6) 29 rfl w.heap.size 2 i0 (.int .i64 0) 1 8 Try.underlying29 hi hz0 hz1 hz2 rfl (by decide) _ 0 [] rfl m0 ⟨g, off, none⟩ xs.length _ (ints xs) rfl (by simp [ints_length]) hcs.out (ints_oneCell xs) (by unfold maxLen; omega) (by omega) (by simp) ?_; intro v2 w2 own2 grow2 _)
    | go_in)
  have L2 : Below w.heap.size w w2 := below_app B0 grow2 (fun q hq => Nat.le_of_eq (Option.some.inj (show some w.heap.size = some q from hq)))
  have own3 : w2.ownsRow w.heap.size 2 1 v2 xs.length (ints xs) := by simpa using own2
  rcases own3.2 with ⟨_, hn⟩ | ⟨g2, cap2, cur2, rfl, _⟩
  · omega
  go_ret
  exact ⟨g2, cap2, rfl, own3, L2⟩

/-- Lists of numbers as Go's. -/
def castLL (c : List (List Nat)) : List (List Int) := c.map (fun g => g.map (fun x : Nat => (x : Int)))

end Go.Proofs.Ytebadimjpbhagaa
