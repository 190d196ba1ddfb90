/-
 Slices of slices of numbers that the call has made.
-/
import Derived.Test.YtdkdhjhhbkcciaaGreatG00Put
import Derived.Maps.AppendAt
namespace Go.Proofs.YtdkdhjhhbkcciaaGreat
open Go.RowKit
set_option linter.unusedVariables false
set_option maxHeartbeats 1000000
theorem own_same {w w' : World} {base : Nat} {e : TypeId} {s : Nat} {v : Value} {n : Nat} {xs : List Value} (h : w.ownsRow base e s v n xs) (he : ∀ k, v.ownBlock = some k → w'.heap[k]? = w.heap[k]?) : w'.ownsRow base e s v n xs := by
 refine ⟨h.1, ?_⟩
 rcases h.2 with hn | ⟨g, cap, cur, rfl, hbg, hg, r⟩
 · exact .inl hn
 · exact .inr ⟨g, cap, cur, rfl, hbg, (he g rfl).trans hg, r⟩
structure OwnSS (w : World) (base : Nat) (v : Value) (us : List Value) (xss : List (List Int)) : Prop where
 row : w.ownsRow base 39 1 v xss.length us
 each : ∀ (j : Nat) (u : Value) (xs : List Int), us[j]? = some u → xss[j]? = some xs → w.ownsRow base 2 1 u xs.length (ints xs)
theorem OwnSS.len {w : World} {base : Nat} {v : Value} {us : List Value} {xss : List (List Int)} (h : OwnSS w base v us xss) : us.length = xss.length := by
 have := h.row.1
 omega
theorem OwnSS.inner {w : World} {base : Nat} {v : Value} {us : List Value} {xss : List (List Int)} (h : OwnSS w base v us xss) {u : Value} (hu : u ∈ us) : ∃ xs ∈ xss, w.ownsRow base 2 1 u xs.length (ints xs) := by
 obtain ⟨j, hj⟩ := List.getElem?_of_mem hu
 have hjl : j < xss.length := by rw [← h.len]; exact (List.getElem?_eq_some_iff.1 hj).1
 exact ⟨xss[j], List.getElem_mem hjl, h.each j u xss[j] hj (by simp [hjl])⟩
theorem OwnSS.same {w w' : World} {base : Nat} {v : Value} {us : List Value} {xss : List (List Int)} (h : OwnSS w base v us xss) (h1 : ∀ k, v.ownBlock = some k → w'.heap[k]? = w.heap[k]?) (h2 : ∀ u ∈ us, ∀ k, u.ownBlock = some k → w'.heap[k]? = w.heap[k]?) : OwnSS w' base v us xss :=
 ⟨own_same h.row h1, fun j u xs hj hx => own_same (h.each j u xs hj hx) (h2 u (List.mem_of_getElem? hj))⟩
theorem OwnSS.ltI {w : World} {base : Nat} {v : Value} {us : List Value} {xss : List (List Int)} (h : OwnSS w base v us xss) {u : Value} (hu : u ∈ us) {k : Nat} (hk : u.ownBlock = some k) : base ≤ k ∧ k < w.heap.size := by
 obtain ⟨xs, _, ho⟩ := h.inner hu
 exact ho.lt k hk
theorem OwnSS.below {w w' : World} {base : Nat} {v : Value} {us : List Value} {xss : List (List Int)} (h : OwnSS w base v us xss) (hb : Below w.heap.size w w') : OwnSS w' base v us xss :=
 h.same (fun k hk => hb.block k (h.row.lt k hk).2) (fun u hu k hk => hb.block k (h.ltI hu hk).2)
theorem OwnSS.mono {w : World} {base base' : Nat} {v : Value} {us : List Value} {xss : List (List Int)} (h : OwnSS w base v us xss) (hb : base' ≤ base) : OwnSS w base' v us xss :=
 ⟨own_mono h.row hb, fun j u xs hj hx => own_mono (h.each j u xs hj hx) hb⟩
theorem row_kind {w : World} {base base' : Nat} {e e' : TypeId} {s s' n n' : Nat} {v v' : Value} {xs xs' : List Value} (h : w.ownsRow base e s v n xs) (h' : w.ownsRow base' e' s' v' n' xs') (hne : e ≠ e') {k : Nat} (hk : v.ownBlock = some k) : v'.ownBlock ≠ some k := by
 intro hk'
 rcases h.2 with ⟨rfl, _⟩ | ⟨g, cap, cur, rfl, _, hg, _⟩
 · simp [Value.ownBlock] at hk
 rcases h'.2 with ⟨rfl, _⟩ | ⟨g', cap', cur', rfl, _, hg', _⟩
 · simp [Value.ownBlock] at hk'
 simp [Value.ownBlock] at hk hk'
 subst hk
 subst hk'
 rw [hg] at hg'
 simp at hg'
 exact hne hg'.2
theorem OwnSS.appended {w w' : World} {base : Nat} {v v' u : Value} {us : List Value} {xss : List (List Int)} {xs : List Int} (h : OwnSS w base v us xss) (hu : w.ownsRow base 2 1 u xs.length (ints xs))
 (hr : w'.ownsRow base 39 1 v' (xss.length + 1) (us ++ [u])) (hg : w.grownBy w' v.ownBlock) : OwnSS w' base v' (us ++ [u]) (xss ++ [xs]) := by
 refine ⟨by simpa using hr, fun j x ys hj hx => ?_⟩
 have keep : ∀ (x : Value) (ys : List Int), w.ownsRow base 2 1 x ys.length (ints ys) → w'.ownsRow base 2 1 x ys.length (ints ys) := fun x ys ho =>
  own_same ho (fun k hk => hg.block k (ho.lt k hk).2 (fun e => row_kind ho h.row (by decide) hk e.symm))
 have hl := h.len
 by_cases hjl : j < us.length
 · rw [List.getElem?_append_left hjl] at hj
   rw [List.getElem?_append_left (by omega)] at hx
   exact keep x ys (h.each j x ys hj hx)
 · rw [List.getElem?_append_right (by omega)] at hj
   rw [List.getElem?_append_right (by omega)] at hx
   have : j - us.length = 0 := by
    have := (List.getElem?_eq_some_iff.1 hj).1
    simp at this; omega
   rw [this] at hj
   rw [← hl, this] at hx
   simp at hj hx
   subst hj hx
   exact keep u xs hu
theorem OwnSS.other {w w' : World} {base : Nat} {v : Value} {us : List Value} {xss : List (List Int)} {base2 : Nat} {v2 : Value} {n2 : Nat} {us2 : List Value} (h : OwnSS w base v us xss) (h2 : w.ownsRow base2 39 1 v2 n2 us2) (hg : w.grownBy w' v2.ownBlock) (hne : ∀ k, v.ownBlock = some k → v2.ownBlock ≠ some k) : OwnSS w' base v us xss :=
 h.same (fun k hk => hg.block k (h.row.lt k hk).2 (fun e => hne k hk e.symm)) (fun u hu k hk => by
  obtain ⟨xs, _, ho⟩ := h.inner hu
  exact hg.block k (ho.lt k hk).2 (fun e => row_kind ho h2 (by decide) hk e.symm))
theorem infoSlice : (Tryz.prog.info? 39).map (fun i => (i.zero, i.size, i.bytes)) = some (some (.slice none 0 0), 1, 24) := by kernel_rfl
theorem made0S (w : World) : OwnSS (w.alloc (.cells #[] 39)) w.heap.size (.slice (some ⟨w.heap.size, 0, none⟩) 0 0) [] [] :=
 ⟨World.ownsRow_made w #[] 0 (Nat.le_refl _) (by decide) (by simp), fun j u xs hj _ => by simp at hj⟩
theorem OwnSS.at {w : World} {base g cap : Nat} {us : List Value} {xss : List (List Int)} (h : OwnSS w base (.slice (some ⟨g, 0, none⟩) xss.length cap) us xss) {j : Nat} (hj : j < xss.length) : ∃ u, us[j]? = some u ∧ w.cell? ⟨g, j, none⟩ = some u ∧ w.ownsRow base 2 1 u xss[j].length (ints xss[j]) := by
 have hl := h.len
 refine ⟨us[j]'(by omega), by simp [hl, hj], ?_, h.each j _ _ (by simp [hl, hj]) (by simp [hj])⟩
 rw [h.row.cellAt j (by omega)]
 simp [hl, hj]
end Go.Proofs.YtdkdhjhhbkcciaaGreat
