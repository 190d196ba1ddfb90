/-
  Lines whose head may be cut off, as they lie in memory; markInt64S, markInt64SS, heldInt64SS over them.
-/
import Derived.Test.YtggglcjdnllnjaaGreatDoorQueM
namespace Go.Proofs.YtggglcjdnllnjaaGreatDoor
open Go.RowKit
set_option linter.unusedVariables false
set_option linter.unusedSimpArgs false
set_option maxHeartbeats 4000000
set_option maxRecDepth 20000

/-- u is nothing, or a part of a row of numbers from block base on: it holds xs. -/
def RowO (w : World) (base : Nat) (u : Value) (xs : List Value) : Prop :=
  (u = .slice none 0 0 ∧ xs = []) ∨ ∃ g off cap cur, u = .slice (some ⟨g, off, none⟩) xs.length cap ∧ base ≤ g ∧ w.heap[g]? = some (.cells cur 2 (0, 0)) ∧ off + xs.length ≤ cur.size ∧ (cur.toList.drop off).take xs.length = xs

theorem RowO.of_own {w : World} {base n : Nat} {u : Value} {xs : List Value} (h : w.ownsRow base 2 1 u n xs) : RowO w base u xs := by
  have hl := h.1
  simp only [Nat.mul_one] at hl
  rcases h.2 with ⟨rfl, hn⟩ | ⟨g, cap, cur, rfl, hbg, hg, h1, h2, h3, h4⟩
  · exact .inl ⟨rfl, List.eq_nil_of_length_eq_zero (by omega)⟩
  · simp only [Nat.mul_one] at h3 h4
    exact .inr ⟨g, 0, cap, cur, by rw [hl], hbg, hg, by omega, by rw [List.drop_zero, hl]; exact h4⟩

theorem RowO.lt {w : World} {base : Nat} {u : Value} {xs : List Value} (h : RowO w base u xs) : ∀ k, u.ownBlock = some k → base ≤ k ∧ k < w.heap.size := by
  intro k hk
  rcases h with ⟨rfl, _⟩ | ⟨g, off, cap, cur, rfl, hb, hg, _⟩
  · simp [Value.ownBlock] at hk
  · simp [Value.ownBlock] at hk
    subst hk
    exact ⟨hb, (Array.getElem?_eq_some_iff.1 hg).1⟩

theorem RowO.same {w w' : World} {base : Nat} {u : Value} {xs : List Value} (h : RowO w base u xs) (he : ∀ k, u.ownBlock = some k → w'.heap[k]? = w.heap[k]?) : RowO w' base u xs := by
  rcases h with h | ⟨g, off, cap, cur, rfl, hb, hg, r⟩
  · exact .inl h
  · exact .inr ⟨g, off, cap, cur, rfl, hb, (he g rfl).trans hg, r⟩

theorem RowO.below {w w' : World} {base : Nat} {u : Value} {xs : List Value} (h : RowO w base u xs) (hb : Below w.heap.size w w') : RowO w' base u xs := h.same (fun k hk => hb.block k (h.lt k hk).2)

theorem RowO.mono {w : World} {base base' : Nat} {u : Value} {xs : List Value} (h : RowO w base u xs) (hb : base' ≤ base) : RowO w base' u xs := by
  rcases h with h | ⟨g, off, cap, cur, rfl, hbg, r⟩
  · exact .inl h
  · exact .inr ⟨g, off, cap, cur, rfl, Nat.le_trans hb hbg, r⟩

theorem RowO.reads {w : World} {base : Nat} {u : Value} {xs : List Value} (h : RowO w base u xs) : Reads w u xs := by
  rcases h with ⟨rfl, rfl⟩ | ⟨g, off, cap, cur, rfl, hb, hg, hs, ht⟩
  · exact ⟨none, 0, rfl, fun j x hx => by simp at hx⟩
  · refine ⟨some ⟨g, off, none⟩, cap, rfl, fun j x hx => ⟨g, off, rfl, ?_⟩⟩
    rw [← ht, List.getElem?_take] at hx
    split at hx
    · rw [List.getElem?_drop] at hx
      rw [cell_of_row w g (off + j) cur _ (0, 0) hg]
      simpa using hx
    · cases hx

/-- A row of numbers is no row of slices. -/
theorem rowO_kind {w : World} {base base' : Nat} {s n : Nat} {u v : Value} {xs us : List Value} (h : RowO w base u xs) (h' : w.ownsRow base' 74 s v n us) {k : Nat} (hk : u.ownBlock = some k) : v.ownBlock ≠ some k := by
  intro hk'
  rcases h with ⟨rfl, _⟩ | ⟨g, off, cap, cur, rfl, _, hg, _⟩
  · simp [Value.ownBlock] at hk
  rcases h'.2 with ⟨rfl, _⟩ | ⟨g', cap', cur', rfl, _, hg', _⟩
  · simp [Value.ownBlock] at hk'
  simp [Value.ownBlock] at hk hk'
  subst hk
  subst hk'
  rw [hg] at hg'
  simp at hg'

theorem row_frozen {w : World} {g : Nat} {cur : Array Value} {t : TypeId} (h : w.heap[g]? = some (.cells cur t (0, 0))) (o : Nat) : w.frozen? ⟨g, o, none⟩ = false := by
  simp [World.frozen?, h]

theorem markInt64SO (xs : List Value) (v : Value) (base : Nat) (k : Int) (w : World) (hl : xs.length ≤ 4398046511104) (h1 : 1 ≤ k) (h2 : k ≤ 4398046511104) (hv : RowO w base v xs) :
    Calls Tryz.prog 62 #[v, .int .i64 k] w fun e w' => e = .returned (.int .i64 (k + xs.length)) ∧ RowO w' base v (markI k xs.length) ∧ Below base w w' ∧ w.grownBy w' v.ownBlock := by
  rcases hv with ⟨rfl, hx⟩ | ⟨g, off, cap, cur, rfl, hbg, hg, hsz, htk⟩
  · subst hx
    go_enter Tryz.func62, Tryz.ntmps62
    go_wp2
    refine wp_loop_rounds 1 ?_
    rw [rounds_succ]
    go_wp2
    go_ret
    exact ⟨ret_int (by simp), .inl ⟨rfl, rfl⟩, Below.refl _ _, World.grownBy.refl _ _⟩
  · have ml := markI_length xs.length k
    have hgl := (Array.getElem?_eq_some_iff.1 hg).1
    clear htk
    generalize xs.length = n at *
    go_enter Tryz.func62, Tryz.ntmps62
    go_wp2
    go_loopw [1, 5] (fun q i wr => ∃ j : Nat, j ≤ n ∧ i = .int .i64 j ∧ q = .int .i64 (k + j) ∧ (∃ c2 : Array Value, wr.heap[g]? = some (.cells c2 2 (0, 0)) ∧ c2.size = cur.size ∧ ∀ m, m < j → c2[off + m]? = some (.int .i64 (k + m))) ∧ Below base w wr ∧ w.grownBy wr (some g)) (fun _ i _ => n - (intOf i).toNat)
    case atStart => exact ⟨0, Nat.zero_le _, rfl, by simp, ⟨cur, hg, rfl, fun m h => by omega⟩, Below.refl _ _, World.grownBy.refl _ _⟩
    case round =>
      obtain ⟨j, hj, rfl, rfl, ⟨c2, hg2, hs2, hc2⟩, hb, hgr⟩ := hrel
      by_cases hlt : j < n
      · have hlt' : (j : Int) < (n : Int) := by omega
        have hfr := row_frozen hg2 (off + j)
        obtain ⟨x, hcl⟩ : ∃ x, wr.cell? ⟨g, off + j, none⟩ = some x := ⟨c2[off + j]'(by omega), by rw [cell_of_row wr g (off + j) c2 _ (0, 0) hg2]; simp⟩
        have hst := heap_setCell_same wr g (off + j) c2 _ (.int .i64 (k + j)) hg2
        have HST : Hid (∃ c3 : Array Value, (wr.setCell ⟨g, off + j, none⟩ (.int .i64 (k + j))).heap[g]? = some (.cells c3 2 (0, 0)) ∧ c3.size = cur.size ∧ ∀ m, m < j + 1 → c3[off + m]? = some (.int .i64 (k + m))) := by
          refine ⟨_, hst, by simpa using hs2, fun m hm => ?_⟩
          by_cases hmj : m = j
          · subst hmj
            rw [Array.getElem?_setIfInBounds, if_pos rfl, if_pos (by omega)]
          · rw [Array.getElem?_setIfInBounds, if_neg (by omega)]
            exact hc2 m (by omega)
        have HGS : Hid (wr.grownBy (wr.setCell ⟨g, off + j, none⟩ (.int .i64 (k + j))) (some g)) := ⟨rfl, rfl, rfl, by simp [World.setCell], fun b hb' hne => Below.heap_setCell _ _ _ _ (fun e => hne (by rw [e]))⟩
        clear hst hc2 hg2 hs2 ml
        go_wp2
        go_roundw
        case rel => exact ⟨j + 1, by omega, by go_num, by go_num, HST.out, hb.setCell hbg _, grown_trans hgr HGS.out⟩
        case measure => simp [intOf]; omega
      · have hjj : j = n := by omega
        subst hjj
        have HRO : Hid (RowO wr base (.slice (some ⟨g, off, none⟩) j cap) (markI k j)) := by
          refine .inr ⟨g, off, cap, c2, by rw [ml], hbg, hg2, by omega, ?_⟩
          apply List.ext_getElem?
          intro m
          rw [ml, List.getElem?_take]
          split
          · rename_i hm
            rw [List.getElem?_drop, markI_get _ _ _ hm]
            have := hc2 m hm
            simpa using this
          · rw [List.getElem?_eq_none (by rw [ml]; omega)]
        clear hc2
        go_wp2
        go_ret
        exact ⟨rfl, HRO.out, hb, hgr⟩

/-- v holds the Lines us, which hold the lists X; all the call's own, from block base on; heads may be cut off. -/
structure OwnQ (w : World) (base : Nat) (v : Value) (us : List Value) (X : List (List Int)) : Prop where
  row : w.ownsRow base 74 1 v X.length us
  each : ∀ (j : Nat) (u : Value) (xs : List Int), us[j]? = some u → X[j]? = some xs → RowO w base u (ints xs)

theorem OwnQ.of_own {w : World} {base : Nat} {v : Value} {us : List Value} {X : List (List Int)} (h : OwnSS w base v us X) : OwnQ w base v us X := ⟨h.row, fun j u xs hj hx => RowO.of_own (h.each j u xs hj hx)⟩

theorem OwnQ.len {w : World} {base : Nat} {v : Value} {us : List Value} {X : List (List Int)} (h : OwnQ w base v us X) : us.length = X.length := by
  have := h.row.1
  omega

theorem OwnQ.inner {w : World} {base : Nat} {v : Value} {us : List Value} {X : List (List Int)} (h : OwnQ w base v us X) {u : Value} (hu : u ∈ us) : ∃ xs ∈ X, RowO w base u (ints xs) := by
  obtain ⟨j, hj⟩ := List.getElem?_of_mem hu
  have hjl : j < X.length := by rw [← h.len]; exact (List.getElem?_eq_some_iff.1 hj).1
  exact ⟨X[j], List.getElem_mem hjl, h.each j u X[j] hj (by simp [hjl])⟩

theorem OwnQ.ltI {w : World} {base : Nat} {v : Value} {us : List Value} {X : List (List Int)} (h : OwnQ w base v us X) {u : Value} (hu : u ∈ us) {k : Nat} (hk : u.ownBlock = some k) : base ≤ k ∧ k < w.heap.size := by
  obtain ⟨xs, _, ho⟩ := h.inner hu
  exact ho.lt k hk

theorem OwnQ.same {w w' : World} {base : Nat} {v : Value} {us : List Value} {X : List (List Int)} (h : OwnQ w base v us X) (h1 : ∀ k, v.ownBlock = some k → w'.heap[k]? = w.heap[k]?) (h2 : ∀ u ∈ us, ∀ k, u.ownBlock = some k → w'.heap[k]? = w.heap[k]?) : OwnQ w' base v us X :=
  ⟨own_same h.row h1, fun j u xs hj hx => (h.each j u xs hj hx).same (h2 u (List.mem_of_getElem? hj))⟩

theorem OwnQ.below {w w' : World} {base : Nat} {v : Value} {us : List Value} {X : List (List Int)} (h : OwnQ w base v us X) (hb : Below w.heap.size w w') : OwnQ w' base v us X :=
  h.same (fun k hk => hb.block k (h.row.lt k hk).2) (fun u hu k hk => hb.block k (h.ltI hu hk).2)

theorem OwnQ.mono {w : World} {base base' : Nat} {v : Value} {us : List Value} {X : List (List Int)} (h : OwnQ w base v us X) (hb : base' ≤ base) : OwnQ w base' v us X :=
  ⟨own_mono h.row hb, fun j u xs hj hx => (h.each j u xs hj hx).mono hb⟩

theorem OwnQ.set {w : World} {base b o : Nat} {x v : Value} {us : List Value} {X : List (List Int)} (h : OwnQ w base v us X) (hb : b < base) : OwnQ (w.setCell ⟨b, o, none⟩ x) base v us X :=
  h.same (fun k hk => Below.heap_setCell _ _ _ _ (by have := (h.row.lt k hk).1; simp; omega)) (fun u hu k hk => Below.heap_setCell _ _ _ _ (by have := (h.ltI hu hk).1; simp; omega))

theorem OwnQ.reads {w : World} {base : Nat} {v : Value} {us : List Value} {X : List (List Int)} (h : OwnQ w base v us X) : ReadsSS w v X := by
  have hl := h.len
  rcases h.row.2 with ⟨rfl, hn⟩ | ⟨g, cap, cur, rfl, _⟩
  · exact ⟨none, 0, by rw [hn], fun j xs hx => by rw [List.eq_nil_of_length_eq_zero hn] at hx; simp at hx⟩
  · refine ⟨some ⟨g, 0, none⟩, cap, rfl, fun j xs hx => ?_⟩
    have hj : j < X.length := (List.getElem?_eq_some_iff.1 hx).1
    have hju : us[j]? = some (us[j]'(by omega)) := by simp [hl, hj]
    refine ⟨g, 0, us[j]'(by omega), rfl, ?_, (h.each j _ xs hju hx).reads⟩
    rw [Nat.zero_add, h.row.cellAt j (by omega)]
    exact hju

/-- The rows of the first m lists bear their marks, the others hold what they held. -/
structure MarkedQ (base : Nat) (us : List Value) (X : List (List Int)) (k : Int) (m : Nat) (w : World) : Prop where
  done : ∀ (j : Nat) (u : Value) (hj : j < X.length), j < m → us[j]? = some u → RowO w base u (markI (k + tot (X.take j)) X[j].length)
  todo : ∀ (j : Nat) (u : Value) (hj : j < X.length), m ≤ j → us[j]? = some u → RowO w base u (ints X[j])

theorem MarkedQ.below {base : Nat} {us : List Value} {X : List (List Int)} {k : Int} {m : Nat} {w w' : World} (h : MarkedQ base us X k m w) (hb : Below w.heap.size w w') : MarkedQ base us X k m w' :=
  ⟨fun j u hj hm hu => (h.done j u hj hm hu).below hb, fun j u hj hm hu => (h.todo j u hj hm hu).below hb⟩

theorem tot_take_le (X : List (List Int)) (j : Nat) : tot (X.take j) ≤ tot X := by
  have := tot_append (X.take j) (X.drop j)
  rw [List.take_append_drop] at this
  omega

/-- Nothing from top on has turned. -/
def Above (top : Nat) (w w' : World) : Prop := w.heap.size ≤ w'.heap.size ∧ ∀ b, top ≤ b → b < w.heap.size → w'.heap[b]? = w.heap[b]?

theorem Above.refl (top : Nat) (w : World) : Above top w w := ⟨Nat.le_refl _, fun _ _ _ => rfl⟩

theorem markQ (X : List (List Int)) (v : Value) (us : List Value) (base top : Nat) (k : Int) (w : World) (h1 : 1 ≤ k) (hl : X.length ≤ 1048576) (h2 : k + tot X ≤ 4398046511104) (hbase : base ≤ w.heap.size)
    (hv : OwnQ w base v us X) (ha : ApartSS us) (ht : ∀ u ∈ us, ∀ b, u.ownBlock = some b → b < top) :
    Calls Tryz.prog 43 #[v, .int .i64 k] w fun e w' => e = .returned (.int .i64 (k + tot X)) ∧ w'.ownsRow base 74 1 v X.length us ∧ MarkedQ base us X k X.length w' ∧ Below base w w' ∧ Above top w w' := by
  have hlu := hv.len
  rcases hv.row.2 with ⟨rfl, hn⟩ | ⟨g, cap, cur, rfl, hbg, _⟩
  · have hxx : X = [] := List.eq_nil_of_length_eq_zero hn
    subst hxx
    go_enter Tryz.func43, Tryz.ntmps43
    go_wp2
    refine wp_loop_rounds 1 ?_
    rw [rounds_succ]
    go_wp2
    go_ret
    exact ⟨ret_int (by simp [tot]), hv.row, ⟨fun j u hj => by simp at hj, fun j u hj => by simp at hj⟩, Below.refl _ _, Above.refl _ _⟩
  · go_enter Tryz.func43, Tryz.ntmps43
    go_wp2
    go_loopw [1, 5] (fun q i wr => ∃ j : Nat, j ≤ X.length ∧ i = .int .i64 j ∧ q = .int .i64 (k + tot (X.take j)) ∧ wr.ownsRow base 74 1 (.slice (some ⟨g, 0, none⟩) X.length cap) X.length us ∧ MarkedQ base us X k j wr ∧ Below base w wr ∧ Above top w wr) (fun _ i _ => X.length - (intOf i).toNat)
    case atStart => exact ⟨0, Nat.zero_le _, rfl, by simp [tot], hv.row, ⟨fun j u hj h => by omega, fun j u hj _ hu => hv.each j u _ hu (by simp [hj])⟩, Below.refl _ _, Above.refl _ _⟩
    case round =>
      obtain ⟨j, hj, rfl, rfl, hrow, hM, hb, hab⟩ := hrel
      by_cases hlt : j < X.length
      · have hlt' : (j : Int) < (X.length : Int) := by omega
        have hju : us[j]? = some (us[j]'(by omega)) := by simp [hlu, hlt]
        have hcell : wr.cell? ⟨g, j, none⟩ = some (us[j]'(by omega)) := by rw [hrow.cellAt j (by omega)]; exact hju
        have hown := hM.todo j _ hlt (Nat.le_refl _) hju
        have htk := tot_take X j hlt
        have htl := tot_take_le X (j + 1)
        have htt : tot (X.take j) ≤ tot X := tot_take_le X j
        have hmk := markInt64SO (ints X[j]) (us[j]'(by omega)) base (k + tot (X.take j)) wr (by rw [ints_length]; omega) (by omega) (by omega) hown
        rw [ints_length] at hmk
        have HM : Hid _ := hM
        have HJ : Hid _ := hju
        clear hM
        have hset : ∀ (w' : World), wr.grownBy w' (us[j]'(by omega)).ownBlock → RowO w' base (us[j]'(by omega)) (markI (k + tot (X.take j)) X[j].length) →
            w'.ownsRow base 74 1 (.slice (some ⟨g, 0, none⟩) X.length cap) X.length us ∧ MarkedQ base us X k (j + 1) w' ∧ Above top w w' := by
          intro w' hg ho
          refine ⟨own_same hrow (fun q hq => hg.block q (hrow.lt q hq).2 (fun e => rowO_kind hown hrow e.symm hq)), ⟨fun i u hi him hu => ?_, fun i u hi him hu => ?_⟩, Nat.le_trans hab.1 hg.size, fun b h1 h2 => ?_⟩
          · by_cases hij : i = j
            · subst hij
              rw [HJ.out] at hu
              obtain rfl := Option.some.inj hu
              exact ho
            · have h3 := HM.out.done i u hi (by omega) hu
              exact h3.same (fun q hq => hg.block q (h3.lt q hq).2 (fun e => ha i j u _ q hij hu HJ.out hq e.symm))
          · have h3 := HM.out.todo i u hi (by omega) hu
            exact h3.same (fun q hq => hg.block q (h3.lt q hq).2 (fun e => ha i j u _ q (by omega) hu HJ.out hq e.symm))
          · exact (hg.block b (Nat.lt_of_lt_of_le h2 hab.1) (fun e => by have := ht _ (List.mem_of_getElem? HJ.out) b e.symm; omega)).trans (hab.2 b h1 h2)
        have HSET : Hid _ := hset
        clear hset hju hown
        generalize us[j]'(by omega) = u at *
        generalize markI (k + tot (X.take j)) X[j].length = ms at *
        have HTK : Hid _ := htk
        have hb1 : k + (tot (X.take j) : Int) + (X[j].length : Int) ≤ 4398046511104 := by omega
        clear htk htl
        generalize X[j].length = xl at *
        generalize tot (X.take j) = tj at *
        go_wp2_with fail
        go_at_call 62
        refine hmk.mono ?_
        rintro e w2 ⟨rfl, o2, b2, g2⟩
        clear hmk
        obtain ⟨hrow2, hM2, hA2⟩ := HSET.out w2 g2 o2
        go_wp2
        go_roundw
        case rel => exact ⟨j + 1, by omega, by go_num, by rw [HTK.out]; go_num, hrow2, hM2, hb.trans (b2.mono (by omega)), hA2⟩
        case measure => simp [intOf]; omega
      · obtain rfl : j = X.length := by omega
        go_wp2
        go_ret
        exact ⟨by rw [List.take_length]; rfl, hrow, hM, hb, hab⟩

theorem heldQ (X : List (List Int)) (v : Value) (us : List Value) (base : Nat) (k : Int) (w : World) (h1 : 1 ≤ k) (hl : X.length ≤ 1048576) (h2 : k + tot X ≤ 1099511627776)
    (hrow : w.ownsRow base 74 1 v X.length us) (hM : MarkedQ base us X k X.length w) :
    Calls Tryz.prog 46 #[v, .int .i64 k] w fun e w' => e = .returned (.int .i64 (k + tot X)) ∧ Below w.heap.size w w' := by
  have hlu : us.length = X.length := by have := hrow.1; omega
  rcases hrow.2 with ⟨rfl, hn⟩ | ⟨g, cap, cur, rfl, hbg, _⟩
  · have hxx : X = [] := List.eq_nil_of_length_eq_zero hn
    subst hxx
    go_enter Tryz.func46, Tryz.ntmps46
    go_wp2
    refine wp_loop_rounds 1 ?_
    rw [rounds_succ]
    go_wp2
    go_ret
    exact ⟨ret_int (by simp [tot]), Below.refl _ _⟩
  · go_enter Tryz.func46, Tryz.ntmps46
    go_wp2
    go_loopw [1, 5] (fun q i wr => ∃ j : Nat, j ≤ X.length ∧ i = .int .i64 j ∧ q = .int .i64 (k + tot (X.take j)) ∧ Below w.heap.size w wr) (fun _ i _ => X.length - (intOf i).toNat)
    case atStart => exact ⟨0, Nat.zero_le _, rfl, by simp [tot], Below.refl _ _⟩
    case round =>
      obtain ⟨j, hj, rfl, rfl, hb⟩ := hrel
      by_cases hlt : j < X.length
      · have hlt' : (j : Int) < (X.length : Int) := by omega
        have hju : us[j]? = some (us[j]'(by omega)) := by simp [hlu, hlt]
        have hr' := own_kept hrow hb
        have hcell : wr.cell? ⟨g, j, none⟩ = some (us[j]'(by omega)) := by rw [hr'.cellAt j (by omega)]; exact hju
        have hown := (hM.done j _ hlt hlt hju).below hb
        have htk := tot_take X j hlt
        have htl := tot_take_le X (j + 1)
        have hmk := heldInt64S X[j].length (us[j]'(by omega)) (k + tot (X.take j)) wr (by omega) (by omega) (by omega) hown.reads
        clear hju hown
        generalize us[j]'(by omega) = u at *
        have HTK : Hid _ := htk
        have hb1 : k + (tot (X.take j) : Int) + (X[j].length : Int) ≤ 1099511627776 := by omega
        clear htk htl
        generalize X[j].length = xl at *
        generalize tot (X.take j) = tj at *
        have hneg : decide (k + (tj : Int) + (xl : Int) < 0) = false := by simp; omega
        go_wp2_with fail
        go_at_call 64
        refine hmk.mono ?_
        rintro e w2 ⟨rfl, b2⟩
        clear hmk
        go_wp2
        go_roundw
        case rel => exact ⟨j + 1, by omega, by go_num, by rw [HTK.out]; go_num, hb.trans (b2.mono hb.size)⟩
        case measure => simp [intOf]; omega
      · obtain rfl : j = X.length := by omega
        go_wp2
        go_ret
        exact ⟨by rw [List.take_length]; rfl, hb⟩

end Go.Proofs.YtggglcjdnllnjaaGreatDoor
