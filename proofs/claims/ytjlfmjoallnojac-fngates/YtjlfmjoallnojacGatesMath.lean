/-
  Chapter 5, mathematics of FnGates: each gate is on each way, one that is none has a way beside it; the gate of one has all its others.
-/
import Derived.Test.YtjlfmjoallnojacGateM
import Derived.Test.YtjlfmjoallnojacSpecWays
namespace Go.Proofs.Ytjlfmjoallnojac
open Go.RowKit
set_option linter.unusedVariables false
set_option maxHeartbeats 1000000

theorem lastI_snocG (way : List Int) (y : Int) : lastI (way ++ [y]) = y := lastI_snoc way y

/-- A way without d comes to its end without d. -/
theorem levs_avoid {ss : List Stm} (hp : procOk ss = true) {d : Int} : ∀ (k : Nat) (way : List Int), way ∈ levs ss k → d ∉ way → ∃ j : Nat, lastI way = (j : Int) ∧ rk ss d k j
  | 0, way, h, hd => by
    simp [levs] at h
    subst h
    simp at hd
    exact ⟨0, rfl, fun e => hd (by rw [← e]; rfl), rfl⟩
  | k + 1, way, h, hd => by
    simp only [levs, List.mem_flatMap, grow1, List.mem_map] at h
    obtain ⟨w0, h0, y, hy, rfl⟩ := h
    simp only [List.mem_append, List.mem_singleton, not_or] at hd
    obtain ⟨j, hj, hr⟩ := levs_avoid hp k w0 h0 hd.1
    rw [hj, Int.toNat_natCast] at hy
    obtain ⟨i, rfl, hi⟩ := nx_in hp (rk_in hp hr) y hy
    exact ⟨i, lastI_snoc _ _, fun e => hd.2 e.symm, j, hr, hy⟩

/-- Where one comes to without wo there is a way without wo. -/
theorem rk_levs {ss : List Stm} {wo : Int} : ∀ (k i : Nat), rk ss wo k i → ∃ way ∈ levs ss k, lastI way = (i : Int) ∧ wo ∉ way
  | 0, i, h => by
    obtain ⟨h1, rfl⟩ := h
    exact ⟨[0], by simp [levs], rfl, by simp; intro e; exact h1 (by rw [e]; rfl)⟩
  | k + 1, i, h => by
    obtain ⟨h1, j, hj, hm⟩ := h
    obtain ⟨w0, h0, hl, hn⟩ := rk_levs k j hj
    refine ⟨w0 ++ [(i : Int)], ?_, lastI_snoc _ _, ?_⟩
    · simp only [levs, List.mem_flatMap, grow1, List.mem_map]
      exact ⟨w0, h0, (i : Int), by rw [hl, Int.toNat_natCast]; exact hm, rfl⟩
    · simp only [List.mem_append, List.mem_singleton, not_or]
      exact ⟨hn, fun e => h1 e.symm⟩

theorem waysTo_inG {ss : List Stm} {i : Int} : ∀ {M : Nat} {way : List Int}, way ∈ waysTo ss i M → ∃ k, k < M ∧ way ∈ levs ss k ∧ lastI way = i
  | 0, way, h => by simp [waysTo] at h
  | M + 1, way, h => by
    simp only [waysTo, List.mem_append, List.mem_filter, decide_eq_true_eq] at h
    rcases h with h | ⟨h1, h2⟩
    · obtain ⟨k, hk, h⟩ := waysTo_inG h
      exact ⟨k, by omega, h⟩
    · exact ⟨M, by omega, h1, h2⟩

theorem waysTo_hasG {ss : List Stm} {i : Int} : ∀ {M k : Nat} {way : List Int}, k < M → way ∈ levs ss k → lastI way = i → way ∈ waysTo ss i M
  | 0, k, way, h, _, _ => by omega
  | M + 1, k, way, h, h1, h2 => by
    simp only [waysTo, List.mem_append, List.mem_filter, decide_eq_true_eq]
    by_cases hk : k = M
    · subst hk
      exact .inr ⟨h1, h2⟩
    · exact .inl (waysTo_hasG (by omega) h1 h2)

theorem near_belowG {ss : List Stm} {wo : Int} : ∀ (k i : Nat), rk ss wo k i → (∀ k', k' < k → ¬ rk ss wo k' i) → ∀ m, m ≤ k → ∃ j, rk ss wo m j ∧ ∀ k', k' < m → ¬ rk ss wo k' j
  | 0, i, h, hn, m, hm => ⟨i, by obtain rfl : m = 0 := by omega
                                 exact h, fun k' hk => by omega⟩
  | k + 1, i, h, hn, m, hm => by
    by_cases e : m = k + 1
    · subst e
      exact ⟨i, h, hn⟩
    · obtain ⟨h1, j, hj, hmem⟩ := h
      exact near_belowG k j hj (fun k' hk hr => hn (k' + 1) (by omega) ⟨h1, j, hr, hmem⟩) m (by omega)

theorem pigeonG : ∀ (n : Nat) (f : Nat → Nat), (∀ m, m ≤ n → f m < n) → (∀ a b, a < b → b ≤ n → f a ≠ f b) → False := by
  intro n f h1 h2
  have hnd : ((List.range (n + 1)).map f).Pairwise (· ≠ ·) := by
    rw [List.pairwise_map]
    refine List.Pairwise.imp_of_mem (R := (· < ·)) (fun {a b} ha hb hab => ?_) List.pairwise_lt_range
    exact h2 a b hab (by have := List.mem_range.1 hb; omega)
  have hsub : ∀ x ∈ (List.range (n + 1)).map f, x ∈ List.range n := fun x hx => by
    obtain ⟨m, hm, rfl⟩ := List.mem_map.1 hx
    exact List.mem_range.2 (h1 m (by have := List.mem_range.1 hm; omega))
  have := List.Nodup.length_le_of_subset (α := Nat) (l₁ := (List.range (n + 1)).map f) (l₂ := List.range n) hnd hsub
  simp at this
  omega

theorem near_fewG {ss : List Stm} (hp : procOk ss = true) {wo : Int} {k i : Nat} (h : rk ss wo k i) (hn : ∀ k', k' < k → ¬ rk ss wo k' i) : k < ss.length := by
  refine Classical.byContradiction (fun hk => ?_)
  have hex := near_belowG k i h hn
  let f : Nat → Nat := fun m => if hm : m ≤ k then Classical.choose (hex m hm) else 0
  have hf : ∀ m (hm : m ≤ k), rk ss wo m (f m) ∧ ∀ k', k' < m → ¬ rk ss wo k' (f m) := fun m hm => by
    have := Classical.choose_spec (hex m hm)
    simp only [f, dif_pos hm]
    exact this
  refine pigeonG ss.length f (fun m hm => rk_in hp (hf m (by omega)).1) (fun a b hab hb e => ?_)
  exact (hf b (by omega)).2 a hab (e ▸ (hf a (by omega)).1)

theorem rk_nearestG {ss : List Stm} {wo : Int} {i : Nat} (h : Rch ss wo i) : ∃ k, rk ss wo k i ∧ ∀ k', k' < k → ¬ rk ss wo k' i := by
  obtain ⟨k, hk⟩ := h
  induction k using Nat.strongRecOn with
  | _ k ih =>
    by_cases hx : ∃ k', k' < k ∧ rk ss wo k' i
    · obtain ⟨k', h1, h2⟩ := hx
      exact ih k' h1 h2
    · exact ⟨k, hk, fun k' h1 h2 => hx ⟨k', h1, h2⟩⟩

theorem waysAns_partsG {ss : List Stm} {i most : Int} {way : List Int} (h : way ∈ waysAns ss i most) : procOk ss = true ∧ (∃ j : Nat, i = (j : Int) ∧ j < ss.length) ∧ way ∈ waysTo ss i most.toNat := by
  unfold waysAns at h
  split at h
  · rename_i hc
    simp only [Bool.and_eq_true] at hc
    obtain ⟨hp, j, hj⟩ := hasS_true hc.1
    exact ⟨hp, ⟨j, hj⟩, h⟩
  · simp at h

/-- Each gate is on each way. -/
theorem gate_on_way {ss : List Stm} {n most d : Int} {way : List Int} (hw : way ∈ waysAns ss n most) (hd : d ∈ gatesL ss n) : d ∈ way := by
  refine Classical.byContradiction (fun hn => ?_)
  obtain ⟨hp, _, hm⟩ := waysAns_partsG hw
  obtain ⟨k, _, hl, hi⟩ := waysTo_inG hm
  obtain ⟨j, hj, hr⟩ := levs_avoid hp k way hl hn
  obtain ⟨d', i, rfl, e, hD⟩ := gatesL_in hd
  obtain rfl : j = i := by omega
  exact hD.2.2 ⟨k, hr⟩

/-- One that is no gate has a way beside it. -/
theorem way_beside {ss : List Stm} {n : Int} (hp : procOk ss = true) (h7 : ss.length ≤ 7) (hg : gatesL ss n ≠ []) {k : Nat} (hk : k < ss.length) (hn : (k : Int) ∉ gatesL ss n) : ∃ way ∈ waysAns ss n 7, (k : Int) ∉ way := by
  obtain ⟨x, hx⟩ := List.exists_mem_of_ne_nil _ hg
  obtain ⟨d, i, rfl, rfl, hD⟩ := gatesL_in hx
  have hr : Rch ss k i := Classical.byContradiction (fun h => hn (mem_gatesL.2 ⟨hD.1, hk, h⟩))
  obtain ⟨m, hm, hmin⟩ := rk_nearestG hr
  have hlt := near_fewG hp hm hmin
  obtain ⟨way, hw, hl, hnk⟩ := rk_levs m i hm
  have hi := hD.1.lt hp
  have hh : hasS ss (i : Int) = true := by unfold hasS wiB; simp [hp, hi]
  refine ⟨way, ?_, hnk⟩
  unfold waysAns
  rw [if_pos (by simp [hh, inB])]
  exact waysTo_hasG (by show m < 7; omega) hw hl

theorem Dom.zeroOf {ss : List Stm} (hp : procOk ss = true) {i : Nat} (h : Rch ss (-1) i) : Dom ss 0 i := by
  refine ⟨h, (procOk_parts hp).1, ?_⟩
  rintro ⟨k, hk⟩
  have : ∀ (k j : Nat), ¬ rk ss ((0 : Nat) : Int) k j := by
    intro k
    induction k with
    | zero => intro j hj; exact hj.1 (by rw [hj.2])
    | succ k ih => intro j hj; obtain ⟨_, q, hq, _⟩ := hj; exact ih q hq
  exact this k i hk

theorem gates_ends {ss : List Stm} {n : Int} (hp : procOk ss = true) (hg : gatesL ss n ≠ []) : (0 : Int) ∈ gatesL ss n ∧ n ∈ gatesL ss n := by
  obtain ⟨x, hx⟩ := List.exists_mem_of_ne_nil _ hg
  obtain ⟨d, i, rfl, rfl, hD⟩ := gatesL_in hx
  exact ⟨mem_gatesL.2 (Dom.zeroOf hp hD.1), mem_gatesL.2 (Dom.self hp hD.1)⟩

/-- Of two gates of one the one is the other's. -/
theorem Dom.chain {ss : List Stm} {a b i : Nat} (ha : Dom ss a i) (hb : Dom ss b i) (hra : Rch ss (-1) a) (hrb : Rch ss (-1) b) (hne : a ≠ b) : Dom ss a b ∨ Dom ss b a := by
  refine Classical.byContradiction (fun hn => ?_)
  have h1 : Rch ss a b := Classical.byContradiction (fun h => hn (.inl ⟨hrb, ha.2.1, h⟩))
  have h2 : Rch ss b a := Classical.byContradiction (fun h => hn (.inr ⟨hra, hb.2.1, h⟩))
  have key : ∀ (k j : Nat), rk ss (-1) k j → Rch ss a j ∨ Rch ss b j := by
    intro k
    induction k with
    | zero =>
      rintro j ⟨_, rfl⟩
      by_cases h : a = 0
      · exact .inr ⟨0, by omega, rfl⟩
      · exact .inl ⟨0, by omega, rfl⟩
    | succ k ih =>
      rintro j ⟨_, q, hq, hm⟩
      by_cases hja : j = a
      · subst hja; exact .inr h2
      · by_cases hjb : j = b
        · subst hjb; exact .inl h1
        · rcases ih q hq with h | h
          · exact .inl (h.next hm (by omega))
          · exact .inr (h.next hm (by omega))
  obtain ⟨k, hk⟩ := ha.1
  rcases key k i hk with h | h
  · exact ha.2.2 h
  · exact hb.2.2 h

theorem Dom.nearer {ss : List Stm} {a : Nat} : ∀ (k b : Nat), Dom ss a b → a ≠ b → rk ss (-1) k b → ∃ k', k' < k ∧ rk ss (-1) k' a
  | 0, b, h, hne, hr => by
    obtain ⟨_, rfl⟩ := hr
    exact absurd h.zero hne
  | k + 1, b, h, hne, hr => by
    obtain ⟨_, j, hj, hm⟩ := hr
    have hd := h.back ⟨k, hj⟩ hm hne
    by_cases e : a = j
    · subst e
      exact ⟨k, by omega, hj⟩
    · obtain ⟨k', h1, h2⟩ := Dom.nearer k j hd e hj
      exact ⟨k', by omega, h2⟩

theorem Dom.anti {ss : List Stm} {a b : Nat} (h : Dom ss a b) (k : Dom ss b a) : a = b := by
  refine Classical.byContradiction (fun hne => ?_)
  have : ∀ m, ¬ rk ss (-1) m a := by
    intro m
    induction m using Nat.strongRecOn with
    | _ m ih =>
      intro hm
      obtain ⟨m1, h1, h2⟩ := Dom.nearer m a k (fun e => hne e.symm) hm
      obtain ⟨m2, h3, h4⟩ := Dom.nearer m1 b h hne h2
      exact ih m2 (by omega) h4
  obtain ⟨m, hm⟩ := k.1
  exact this m hm

theorem Dom.rch {ss : List Stm} (hp : procOk ss = true) {a b : Nat} (h : Dom ss a b) : Rch ss (-1) a := by
  by_cases e : a = b
  · subst e; exact h.1
  · obtain ⟨k, hk⟩ := h.1
    obtain ⟨k', _, h2⟩ := Dom.nearer k b h e hk
    exact ⟨k', h2⟩

theorem gatesL_nodup (ss : List Stm) (n : Int) : (gatesL ss n).Pairwise (· ≠ ·) := (gatesL_is ss n).1.imp (fun h => by omega)

theorem max_in {α : Type} (f : α → Nat) : ∀ (l : List α), l ≠ [] → ∃ d ∈ l, ∀ x ∈ l, f x ≤ f d
  | [], h => absurd rfl h
  | [a], _ => ⟨a, by simp, fun x hx => by simp at hx; subst hx; exact Nat.le_refl _⟩
  | a :: b :: l, _ => by
    obtain ⟨d, hd, hm⟩ := max_in f (b :: l) (by simp)
    by_cases h : f a ≤ f d
    · refine ⟨d, List.mem_cons_of_mem _ hd, fun x hx => ?_⟩
      rcases List.mem_cons.1 hx with rfl | hx
      · exact h
      · exact hm x hx
    · refine ⟨a, by simp, fun x hx => ?_⟩
      rcases List.mem_cons.1 hx with rfl | hx
      · exact Nat.le_refl _
      · have := hm x hx; omega

theorem gates_sub {ss : List Stm} {a b : Nat} (h : Dom ss a b) : ∀ x ∈ gatesL ss a, x ∈ gatesL ss b := fun x hx => by
  obtain ⟨c, a', rfl, e, hc⟩ := gatesL_in hx
  obtain rfl : a = a' := by omega
  exact mem_gatesL.2 (hc.trans h)

theorem gates_more {ss : List Stm} {a b : Nat} (h : Dom ss a b) (hne : a ≠ b) : (b : Int) ∉ gatesL ss a := fun hb => hne (h.anti (mem_gatesL.1 hb))

theorem gates_len {ss : List Stm} (hp : procOk ss = true) {a b : Nat} (h : Dom ss a b) (hne : a ≠ b) : (gatesL ss a).length + 1 ≤ (gatesL ss b).length := by
  have h1 : ((b : Int) :: gatesL ss a).Pairwise (· ≠ ·) := by
    rw [List.pairwise_cons]
    exact ⟨fun x hx e => gates_more h hne (e ▸ hx), gatesL_nodup ss a⟩
  have := List.Nodup.length_le_of_subset (α := Int) (l₁ := (b : Int) :: gatesL ss a) (l₂ := gatesL ss b) h1 (fun x hx => by
    rcases List.mem_cons.1 hx with rfl | hx
    · exact mem_gatesL.2 (Dom.self hp h.1)
    · exact gates_sub h x hx)
  simpa using this

/-- There is a gate that has all the others. -/
theorem gate_some {ss : List Stm} (hp : procOk ss = true) {i : Nat} (hr : Rch ss (-1) i) (h0 : i ≠ 0) : ∃ d ∈ gatesL ss i, goodGate ss i d = true := by
  obtain ⟨d, hd, hm⟩ := max_in (fun x : Int => (gatesL ss x).length) ((gatesL ss i).filter (fun x => decide (x ≠ (i : Int)))) (fun e => by
    have h1 : (0 : Int) ∈ (gatesL ss i).filter (fun x => decide (x ≠ (i : Int))) := by
      rw [List.mem_filter]
      exact ⟨mem_gatesL.2 (Dom.zeroOf hp hr), by simp; omega⟩
    rw [e] at h1
    simp at h1)
  rw [List.mem_filter] at hd
  obtain ⟨hd1, hd2⟩ := hd
  have hdn : d ≠ (i : Int) := by simpa using hd2
  refine ⟨d, hd1, (goodGate_iff _ _ _).2 ⟨hdn, fun x hx => ?_⟩⟩
  by_cases hxn : x = (i : Int)
  · exact .inl hxn
  · right
    obtain ⟨d', i', rfl, e, hD⟩ := gatesL_in hd1
    obtain rfl : i = i' := by omega
    obtain ⟨x', i'', rfl, e2, hX⟩ := gatesL_in hx
    obtain rfl : i = i'' := by omega
    by_cases hxd : x' = d'
    · subst hxd
      exact mem_gatesL.2 (Dom.self hp (hD.rch hp))
    · rcases hX.chain hD (hX.rch hp) (hD.rch hp) hxd with h | h
      · exact mem_gatesL.2 h
      · exfalso
        have h1 := gates_len hp h (fun e => hxd e.symm)
        have h2 := hm (x' : Int) (by rw [List.mem_filter]; exact ⟨hx, by simpa using hxn⟩)
        omega

/-- What Gate answers. -/
theorem gate_facts {ss : List Stm} {n : Int} (hh : hasS ss n = true) (hg : gatesL ss n ≠ []) :
    (n = 0 → gateAns ss n = -1) ∧ (n ≠ 0 → ∃ d : Nat, gateAns ss n = (d : Int) ∧ (d : Int) ≠ n ∧ (d : Int) ∈ gatesL ss n ∧ (gatesL ss (d : Int)).length + 1 = (gatesL ss n).length) := by
  obtain ⟨hp, i, rfl, hi⟩ := hasS_true hh
  obtain ⟨x, hx⟩ := List.exists_mem_of_ne_nil _ hg
  obtain ⟨_, i', _, e, hD⟩ := gatesL_in hx
  obtain rfl : i = i' := by omega
  have hr := hD.1
  unfold gateAns
  rw [if_pos hh]
  constructor
  · intro h0
    obtain rfl : i = 0 := by omega
    rw [find_none]
    · rfl
    · intro y hy
      obtain ⟨d, i2, rfl, e2, hd⟩ := gatesL_in hy
      obtain rfl : i2 = 0 := by omega
      have := hd.zero
      subst this
      cases h : goodGate ss ((0 : Nat) : Int) ((0 : Nat) : Int)
      · rfl
      · exact absurd rfl ((goodGate_iff _ _ _).1 h).1
  · intro h0
    obtain ⟨d0, hd0, hgd0⟩ := gate_some hp hr (by omega)
    cases hf : (gatesL ss (i : Int)).find? (goodGate ss i) with
    | none =>
      have := List.find?_eq_none.1 hf d0 hd0
      exact absurd hgd0 this
    | some d =>
      have hgd := List.find?_some hf
      have hdm := List.mem_of_find?_eq_some hf
      obtain ⟨hne, hall⟩ := (goodGate_iff _ _ _).1 hgd
      obtain ⟨d', i2, rfl, e2, hd⟩ := gatesL_in hdm
      obtain rfl : i = i2 := by omega
      refine ⟨d', rfl, hne, hdm, ?_⟩
      have h1 := gates_len hp hd (fun e => hne (by rw [e]))
      have h2 := List.Nodup.length_le_of_subset (α := Int) (l₁ := gatesL ss (i : Int)) (l₂ := (i : Int) :: gatesL ss (d' : Int)) (gatesL_nodup ss i) (fun x hx => by
        rcases hall x hx with h | h
        · rw [h]; simp
        · exact List.mem_cons_of_mem _ h)
      simp at h2
      omega

theorem gate_none {ss : List Stm} {n : Int} (hg : hasS ss n = true → gatesL ss n = []) : gateAns ss n = -1 := by
  unfold gateAns
  split
  · rename_i h
    rw [hg h]
    rfl
  · rfl

theorem none_reached {ss : List Stm} {n : Int} (hp : procOk ss = true) (hg : gatesL ss n = []) : ¬ ∃ i : Nat, n = (i : Int) ∧ Rch ss (-1) i := by
  rintro ⟨i, rfl, hr⟩
  have := mem_gatesL.2 (Dom.self hp hr)
  rw [hg] at this
  simp at this

end Go.Proofs.Ytjlfmjoallnojac
