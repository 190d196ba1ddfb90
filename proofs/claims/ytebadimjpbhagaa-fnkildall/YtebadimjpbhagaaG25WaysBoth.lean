/-
  Put together out of: MarkSS, ImplWays2, ImplWays3, MarkedB, WaysBoth.
-/
import Derived.Test.YtebadimjpbhagaaG21CloneI
import Derived.Test.YtebadimjpbhagaaG22RegionInvIn
import Derived.Test.YtebadimjpbhagaaSpecWays
/-
  laws.markInt64SS, laws.heldInt64SS: lists of lists whose rows are all apart.
-/
namespace Go.Proofs.Ytebadimjpbhagaa
open Go.RowKit
set_option linter.unusedVariables false
set_option maxHeartbeats 1000000

/-- How many numbers there are in all lists. -/
def tot : List (List Int) → Nat
  | [] => 0
  | xs :: xss => xs.length + tot xss

theorem tot_append : ∀ (a b : List (List Int)), tot (a ++ b) = tot a + tot b
  | [], b => by simp [tot]
  | x :: a, b => by simp [tot, tot_append a b]; omega

theorem tot_take (xss : List (List Int)) (j : Nat) (h : j < xss.length) : tot (xss.take (j + 1)) = tot (xss.take j) + xss[j].length := by
  rw [List.take_succ_eq_append_getElem h, tot_append]
  simp [tot]

theorem tot_le : ∀ (xss : List (List Int)), (∀ xs ∈ xss, xs.length ≤ 1000) → tot xss ≤ 1000 * xss.length
  | [], _ => by simp [tot]
  | x :: xss, h => by
    have h1 := tot_le xss (fun y hy => h y (by simp [hy]))
    have h2 := h x (by simp)
    simp only [tot, List.length_cons]
    omega

/-- No two rows are one. -/
def ApartSS (us : List Value) : Prop := ∀ (i j : Nat) (a b : Value) (k : Nat), i ≠ j → us[i]? = some a → us[j]? = some b → a.ownBlock = some k → b.ownBlock ≠ some k

/-- The rows of the first m lists bear their marks, the others hold what they held. -/
structure MarkedSS (base : Nat) (us : List Value) (xss : List (List Int)) (k : Int) (m : Nat) (w : World) : Prop where
  done : ∀ (j : Nat) (u : Value) (hj : j < xss.length), j < m → us[j]? = some u → w.ownsRow base 2 1 u xss[j].length (markI (k + tot (xss.take j)) xss[j].length)
  todo : ∀ (j : Nat) (u : Value) (hj : j < xss.length), m ≤ j → us[j]? = some u → w.ownsRow base 2 1 u xss[j].length (ints xss[j])



end Go.Proofs.Ytebadimjpbhagaa

/-
  impl.Ways.
-/
namespace Go.Proofs.Ytebadimjpbhagaa
open Go.RowKit Go.Shelf
set_option linter.unusedVariables false
set_option linter.unusedSimpArgs false
set_option maxHeartbeats 4000000
set_option maxRecDepth 20000
attribute [local go_sem] Oper.semAt_some

theorem allTo_filter (ss : List Stm) (i : Int) : ∀ M, (allTo ss M).filter (fun way => decide (lastI way = i)) = waysTo ss i M
  | 0 => rfl
  | k + 1 => by rw [allTo, waysTo, List.filter_append, allTo_filter ss i k]

/-- The ways so far that come to i. -/
def wfl (i : Int) (pre : List (Value × List Int)) : List (List Int) := (pre.map (·.2)).filter (fun way => decide (lastI way = i))

theorem wfl_snoc (i : Int) (pre : List (Value × List Int)) (x : Value × List Int) : wfl i (pre ++ [x]) = wfl i pre ++ (if lastI x.2 = i then [x.2] else []) := by
  unfold wfl
  rw [List.map_append, List.filter_append]
  congr 1
  by_cases h : lastI x.2 = i <;> simp [h]

/-- What has come so far is laid down. -/
structure VSt (i : Int) (w : World) (Bw Bt : Nat) (pre : List (Value × List Int)) (f : Nat → Prop) (W : World) : Prop where
  st : ∃ ov us, W.heap[Bw]? = some (.cells #[ov] 35 (0, 0)) ∧ OwnSS W w.heap.size ov us (wfl i pre) ∧ ApartSS us ∧ (∀ k, ov.ownBlock = some k → f k) ∧ (∀ u ∈ us, ∀ k, u.ownBlock = some k → f k)
  at' : W.heap[Bt]? = some (.cells #[.int .i64 i] 2 (0, 0))
  foot : f Bw
  footT : f Bt
  below : Below w.heap.size w W

theorem own_cells {w : World} {base : Nat} {e : TypeId} {s : Nat} {v : Value} {n : Nat} {xs : List Value} (h : w.ownsRow base e s v n xs) {k : Nat} (hk : v.ownBlock = some k) : ∃ cur, w.heap[k]? = some (.cells cur e (0, 0)) := by
  rcases h.2 with ⟨rfl, _⟩ | ⟨g, cap, cur, rfl, _, hg, _⟩
  · simp [Value.ownBlock] at hk
  · simp [Value.ownBlock] at hk
    subst hk
    exact ⟨cur, hg⟩

theorem vst_own (i : Int) (w : World) (Bw Bt B : Nat) (hBw : Bw < B) (hBt : Bt < B) (hB : w.heap.size ≤ B) : FootOwn B (VSt i w Bw Bt) := by
  rintro s f A A' row ⟨⟨ov, us, h1, h2, h3, h4, h5⟩, ha, hf, hft, hb⟩ hg hr
  have keep : ∀ k, f k → (∃ cur t fz, A.heap[k]? = some (.cells cur t fz)) → A'.heap[k]? = A.heap[k]? := by
    rintro k hfk ⟨cur, t, fz, hk⟩
    refine hg.block k (Array.getElem?_eq_some_iff.1 hk).1 (fun e => ?_)
    rcases (hr k e.symm).2 with h | ⟨o, ho, hc⟩
    · exact h hfk
    · rw [hk] at ho
      simp at ho
      rw [← ho] at hc
      simp [Obj.isCells] at hc
  refine ⟨⟨ov, us, (keep Bw hf ⟨_, _, _, h1⟩).trans h1, h2.same (fun k hk => ?_) (fun u hu k hk => ?_), h3, h4, h5⟩, (keep Bt hft ⟨_, _, _, ha⟩).trans ha, hf, hft, hb.grown hg hb.size (fun k e => Nat.le_trans hB (hr k e).1)⟩
  · obtain ⟨cur, hc⟩ := own_cells h2.row hk
    exact keep k (h4 k hk) ⟨cur, _, _, hc⟩
  · obtain ⟨xs, _, ho⟩ := h2.inner hu
    obtain ⟨cur, hc⟩ := own_cells ho hk
    exact keep k (h5 u hu k hk) ⟨cur, _, _, hc⟩

theorem wg_put (x : Value × List Int) (f : Nat → Prop) (W : World) (l : Nat) (o o' : Obj) (h : WG x f W) (hl : W.heap[l]? = some o) (ho : o.isCells = false) : WG x f (W.putObj l o') := by
  obtain ⟨⟨ao, cap, h1, h2⟩, h3, h4, h5⟩ := h
  refine ⟨⟨ao, cap, h1, fun j y hy => ?_⟩, h3, h4, h5⟩
  obtain ⟨g, off, e, hc⟩ := h2 j y hy
  refine ⟨g, off, e, ?_⟩
  have hne : g ≠ l := by
    rintro rfl
    simp only [World.cell?, hl] at hc
    cases o <;> simp [Obj.isCells] at ho hc
  rw [World.cell?_of_block (World.putObj_heap_other hne)]
  exact hc

end Go.Proofs.Ytebadimjpbhagaa

/-
  impl.Ways: the two regions of its loop's body that draw their orders.
-/
namespace Go.Proofs.Ytebadimjpbhagaa
open Go.RowKit Go.Shelf
set_option linter.unusedVariables false
set_option linter.unusedSimpArgs false
set_option maxHeartbeats 4000000
set_option maxRecDepth 20000
attribute [local go_sem] Oper.semAt_some

def B6 (u : Value) (gc off q : Nat) (z i : Int) (l : Nat → Bool) (x25 x26 x27 x28 x29 x30 x31 x32 : Value) : Prop :=
  (l 0 = true → x25 = u) ∧ (l 1 = true → x26 = u) ∧ (l 2 = true → x27 = .int .i64 ((q : Int) + 1)) ∧ (l 3 = true → x28 = .int .i64 (q : Int)) ∧ (l 4 = true → x29 = .pointer (some ⟨gc, off + q, none⟩)) ∧ (l 5 = true → x30 = .int .i64 z) ∧ (l 6 = true → x31 = .int .i64 i) ∧ (l 7 = true → x32 = .bool (decide (z = i)))

def I6 (Bt Bw : Nat) (u : Value) (gc off q : Nat) (z i : Int) (W6 : World) (l : Nat → Bool) (a : Act) (wr : World) : Prop :=
  ∃ y0 y1 y2 y3 y5 y6 y9 y10 y11 y12 y13 y14 y15 y16 y17 y18 y19 y20 y21 y22 y23 y24 y33 y34 y35 y36 y37 y38 x25 x26 x27 x28 x29 x30 x31 x32 : Value, a = { tmps := List.toArray (y0 :: y1 :: y2 :: y3 :: .pointer (some ⟨Bt, 0, none⟩) :: y5 :: y6 :: .pointer (some ⟨Bw, 0, none⟩) :: u :: y9 :: y10 :: y11 :: y12 :: y13 :: y14 :: y15 :: y16 :: y17 :: y18 :: y19 :: y20 :: y21 :: y22 :: y23 :: y24 :: x25 :: x26 :: x27 :: x28 :: x29 :: x30 :: x31 :: x32 :: y33 :: y34 :: y35 :: y36 :: y37 :: y38 :: []), defers := [] } ∧ wr = W6 ∧ B6 u gc off q z i l x25 x26 x27 x28 x29 x30 x31 x32

def B7 (Bw : Nat) (u ov : Value) (us : List Value) (xss : List (List Int)) (way : List Int) (q base : Nat) (Ws : World) (l : Nat → Bool) (x33 x34 x35 x36 x37 : Value) (wr : World) : Prop :=
  (Ws.heap.size ≤ wr.heap.size ∧ wr.os = Ws.os ∧ wr.tape = Ws.tape ∧ wr.output = Ws.output) ∧
  (l 4 = false → Below Ws.heap.size Ws wr) ∧
  (l 4 = true → ∀ r, r < Ws.heap.size → r ≠ Bw → ov.ownBlock ≠ some r → wr.heap[r]? = Ws.heap[r]?) ∧
  (l 5 = false → wr.heap[Bw]? = some (.cells #[ov] 35 (0, 0))) ∧
  (l 5 = true → l 4 = true) ∧
  (l 4 = true → l 2 = true) ∧
  (l 4 = true → l 3 = true) ∧
  (l 3 = true → l 2 = true) ∧
  (l 4 = true → l 0 = true) ∧
  (l 0 = true → x33 = ov) ∧
  (l 1 = true → x34 = u) ∧
  (l 2 = true → ∃ g1 c1, x35 = .slice (some ⟨g1, 0, none⟩) (q + 1) c1 ∧ Ws.heap.size ≤ g1 ∧ (l 4 = false → wr.ownsRow base 2 1 x35 (q + 1) (ints way))) ∧
  (l 3 = true → ∃ b, x36 = .slice (some ⟨b, 0, none⟩) 1 1 ∧ (l 4 = false → wr.heap[b]? = some (.cells #[x35] 29 (0, 0)))) ∧
  (l 4 = true → ∃ g1 c1 g3 c3, x37 = .slice (some ⟨g3, 0, none⟩) (xss.length + 1) c3 ∧ OwnSS wr base x37 (us ++ [.slice (some ⟨g1, 0, none⟩) (q + 1) c1]) (xss ++ [way]) ∧ Ws.heap.size ≤ g1 ∧ (ov.ownBlock = some g3 ∨ Ws.heap.size ≤ g3)) ∧
  (l 5 = true → wr.heap[Bw]? = some (.cells #[x37] 35 (0, 0)))

def I7 (Bt : Nat) (Bw : Nat) (u ov : Value) (us : List Value) (xss : List (List Int)) (way : List Int) (q base : Nat) (Ws : World) (l : Nat → Bool) (a : Act) (wr : World) : Prop :=
  ∃ y0 y1 y2 y3 y5 y6 y9 y10 y11 y12 y13 y14 y15 y16 y17 y18 y19 y20 y21 y22 y23 y24 y25 y26 y27 y28 y29 y30 y31 y32 y38 x33 x34 x35 x36 x37 : Value, a = { tmps := List.toArray (y0 :: y1 :: y2 :: y3 :: .pointer (some ⟨Bt, 0, none⟩) :: y5 :: y6 :: .pointer (some ⟨Bw, 0, none⟩) :: u :: y9 :: y10 :: y11 :: y12 :: y13 :: y14 :: y15 :: y16 :: y17 :: y18 :: y19 :: y20 :: y21 :: y22 :: y23 :: y24 :: y25 :: y26 :: y27 :: y28 :: y29 :: y30 :: y31 :: y32 :: x33 :: x34 :: x35 :: x36 :: x37 :: y38 :: []), defers := [] } ∧ B7 Bw u ov us xss way q base Ws l x33 x34 x35 x36 x37 wr

theorem grown_setCell8 (w : World) (b o : Nat) (v : Value) : w.grownBy (w.setCell ⟨b, o, none⟩ v) (some b) :=
  ⟨rfl, rfl, rfl, by simp [World.setCell], fun k _ hk => Below.heap_setCell w ⟨b, o, none⟩ v k (fun e => hk (by rw [e]))⟩

theorem apart_more {us : List Value} {u : Value} {B : Nat} (h : ApartSS us) (hb : ∀ a ∈ us, ∀ k, a.ownBlock = some k → k < B) (hu : ∀ k, u.ownBlock = some k → B ≤ k) : ApartSS (us ++ [u]) := by
  intro x y a b k hxy ha hb' hk hk'
  have cs : ∀ (j : Nat) (c : Value), (us ++ [u])[j]? = some c → us[j]? = some c ∨ (j = us.length ∧ c = u) := fun j c hc => by
    rcases Nat.lt_or_ge j us.length with hj | hj
    · rw [List.getElem?_append_left hj] at hc; exact .inl hc
    · rw [List.getElem?_append_right hj] at hc
      rcases Nat.eq_zero_or_pos (j - us.length) with h0 | h0
      · rw [h0] at hc; simp at hc; exact .inr ⟨by omega, hc.symm⟩
      · rw [List.getElem?_eq_none (by simp; omega)] at hc; cases hc
  rcases cs x a ha with h1 | ⟨h1, rfl⟩
  · rcases cs y b hb' with h2 | ⟨h2, rfl⟩
    · exact h x y a b k hxy h1 h2 hk hk'
    · have := hb a (List.mem_of_getElem? h1) k hk
      have := hu k hk'
      omega
  · rcases cs y b hb' with h2 | ⟨h2, rfl⟩
    · have := hb b (List.mem_of_getElem? h2) k hk'
      have := hu k hk
      omega
    · omega

end Go.Proofs.Ytebadimjpbhagaa

/-
  Marked lists of lists stay as they are where nothing old has turned.
-/
namespace Go.Proofs.Ytebadimjpbhagaa
open Go.RowKit

theorem MarkedSS.below {base : Nat} {us : List Value} {xss : List (List Int)} {k : Int} {m : Nat} {w w' : World} (h : MarkedSS base us xss k m w) (hb : Below w.heap.size w w') : MarkedSS base us xss k m w' :=
  ⟨fun j u hj hm hu => own_kept (h.done j u hj hm hu) hb, fun j u hj hm hu => own_kept (h.todo j u hj hm hu) hb⟩

end Go.Proofs.Ytebadimjpbhagaa

/-
  Ways, both sides.
-/
namespace Go.Proofs.Ytebadimjpbhagaa

theorem waysTo_mem {ss : List Stm} (hp : procOk ss = true) (i : Int) : ∀ (M : Nat) (xs : List Int), xs ∈ waysTo ss i M → xs.length ≤ M
  | 0, xs, h => by simp [waysTo] at h
  | M + 1, xs, h => by
    rw [waysTo, List.mem_append] at h
    rcases h with h | h
    · have := waysTo_mem hp i M xs h; omega
    · have := (levs_mem hp M xs (List.mem_filter.1 h).1).1
      omega

theorem waysTo_size (ss : List Stm) (i : Int) (M : Nat) (hM : M ≤ 9) : (waysTo ss i M).length ≤ 512 * M := by
  rw [← allTo_filter]
  exact Nat.le_trans (List.length_filter_le _ _) (allTo_len ss M hM)

theorem waysAns_length (ss : List Stm) (i most : Int) : (waysAns ss i most).length ≤ 5000 := by
  unfold waysAns
  split
  · rename_i h
    simp [inB] at h
    have := waysTo_size ss i most.toNat (by omega)
    omega
  · simp

theorem waysAns_each {ss : List Stm} {i most : Int} {xs : List Int} (h : xs ∈ waysAns ss i most) : xs.length ≤ 10 := by
  unfold waysAns at h
  split at h
  · rename_i hh
    simp [inB] at hh
    have hok : procOk ss = true := by
      cases hp : procOk ss
      · simp [hasS, hp] at hh
      · rfl
    have := waysTo_mem hok i most.toNat xs h
    omega
  · simp at h

end Go.Proofs.Ytebadimjpbhagaa
