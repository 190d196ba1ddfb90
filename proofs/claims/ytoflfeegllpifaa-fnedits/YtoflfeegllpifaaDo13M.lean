/-
  spec.l13Do: what it has in hand; append of any slice in a region that draws.
-/
import Derived.Test.YtoflfeegllpifaaSpecCp
import Derived.Deep.Upon
namespace Go.Proofs.Ytoflfeegllpifaa
open Go.RowKit
set_option linter.unusedVariables false
set_option linter.unusedSimpArgs false
set_option maxHeartbeats 4000000
set_option maxRecDepth 20000

section
variable {P : Program}

theorem wp_append_any {Q : Exit → Act → World → Prop} {o : Oper} {a : Act} {K : Act → World → Prop} (w : World) (s x : Operand) (t : TypeId)
    (ho : o.op = .call { callee := .builtin .append, args := #[s, x], argTypes := #[t, t] })
    (base : Nat) (e : TypeId) (i : TypeInfo) (z : Value) (size bytes : Nat) (ht : P.underlying t = some (.slice e)) (hi : P.info? e = some i) (hz : i.zero = some z)
    (hsize : i.size = size) (hby : i.bytes = bytes) (hzs : z.cells.size = size) (hsz : 0 < size)
    (v : Value) (n : Nat) (xs : List Value) (hs : a.eval s = v) (hown : w.ownsRow base e size v n xs)
    (xo : Option Addr) (m c : Nat) (news : List Value) (hx : a.eval x = .slice xo m c) (hl : news.length = m * size) (hnews : 0 < m → ∃ ad, xo = some ad ∧ ∀ j u, news[j]? = some u → w.cell? (ad.add j) = some u) (h1 : ∀ u ∈ news, u.oneCell' = true)
    (h63 : n + m ≤ maxLen) (hbytes : (n + m) * bytes ≤ 140737488355328) (hbase : base ≤ w.heap.size)
    (h : ∀ v' w', w'.ownsRow base e size v' (n + m) (xs ++ news) → w.grownBy w' v.ownBlock → (∀ k, v'.ownBlock = some k → v.ownBlock = some k ∨ w.heap.size ≤ k) → K (a.put o.dst v') w') : Oper.wp P o a w K Q := by
  by_cases hm : 0 < m
  · obtain ⟨ad, rfl, hc⟩ := hnews hm
    refine wp_append_lies w s x t ho base e i z size bytes ht hi hz hsize hby hzs hsz v n xs hs hown ad m c news hx hl hc h1 hm h63 hbytes hbase _ rfl ?_
    intro g cap w' h2 h3 h4 h5
    refine h _ w' h2 h3 (fun k hk => ?_)
    have hk : g = k := Option.some.inj hk
    subst hk
    rcases h4 with h4 | h4
    · exact .inl h4
    · exact .inr (by omega)
  · have hm0 : m = 0 := by omega
    subst hm0
    have hn0 : news = [] := List.eq_nil_of_length_eq_zero (by omega)
    subst hn0
    have hr : (Builtin.append_ #[t, t] o.type #[v, .slice xo 0 c]).run P w = .ok v w := by
      have hsrc : Src P i.size t (.slice xo 0 c) 0 [] w := by
        cases xo with
        | none => exact Src.ofNil w ht c
        | some ad => exact Src.ofSlice w ht ad 0 c [] (by simp) (by simp) (by simp)
      rcases hown.2 with ⟨rfl, hn⟩ | ⟨g, cap, cur, rfl, _, _, hnc, _⟩
      · exact run_append_nothing w t t o.type e i ht hi none 0 0 (Nat.le_refl _) _ hsrc
      · exact run_append_nothing w t t o.type e i ht hi _ n cap hnc _ hsrc
    unfold Oper.wp
    simp only [execOp, ho, resolve, invoke, builtin, Sem.run_bind, Sem.run_pure, Result.andThen_ok, List.map_toArray, List.map_cons, List.map_nil, hs, hx, hr]
    exact h v w (by simpa using hown) (World.grownBy.refl _ _) (fun k hk => .inl hk)

theorem step_append_any {ops : Array Oper} {Q : Exit → Act → World → Prop} {o : Oper} {a : Act} {K : Act → World → Prop} {E : Prop} (w : World) (hgd : o.guard = none) (s x : Operand) (t : TypeId)
    (ho : o.op = .call { callee := .builtin .append, args := #[s, x], argTypes := #[t, t] })
    (base : Nat) (e : TypeId) (i : TypeInfo) (z : Value) (size bytes : Nat) (ht : P.underlying t = some (.slice e)) (hi : P.info? e = some i) (hz : i.zero = some z)
    (hsize : i.size = size) (hby : i.bytes = bytes) (hzs : z.cells.size = size) (hsz : 0 < size)
    (v : Value) (n : Nat) (xs : List Value) (hs : a.eval s = v) (hown : w.ownsRow base e size v n xs)
    (xo : Option Addr) (m c : Nat) (news : List Value) (hx : a.eval x = .slice xo m c) (hl : news.length = m * size) (hnews : 0 < m → ∃ ad, xo = some ad ∧ ∀ j u, news[j]? = some u → w.cell? (ad.add j) = some u) (h1 : ∀ u ∈ news, u.oneCell' = true)
    (h63 : n + m ≤ maxLen) (hbytes : (n + m) * bytes ≤ 140737488355328) (hbase : base ≤ w.heap.size)
    (h : ∀ v' w', w'.ownsRow base e size v' (n + m) (xs ++ news) → w.grownBy w' v.ownBlock → (∀ k, v'.ownBlock = some k → v.ownBlock = some k ∨ w.heap.size ≤ k) → K (a.put o.dst v') w') :
    if Region.wanted o (yielded ops a.tmps) = true then Oper.wp P o a w K Q else E := by
  have hw : Region.wanted o (yielded ops a.tmps) = true := by simp [Region.wanted, hgd]
  rw [if_pos hw]
  exact wp_append_any w s x t ho base e i z size bytes ht hi hz hsize hby hzs hsz v n xs hs hown xo m c news hx hl hnews h1 h63 hbytes hbase h
end

/-- What l13Do has in hand. -/
structure Do13 (w : World) (base P G cap : Nat) (k pr a sk sx sy : Int) (us : List Value) (ps : List (List Stm)) (W : World) : Prop where
  edit : W.heap[w.heap.size]? = some (.cells #[.int .i64 k, .int .i64 pr, .int .i64 a, .int .i64 sk, .int .i64 sx, .int .i64 sy] 47 (0, 0))
  box : W.heap[P]? = some (.cells #[.slice (some ⟨G, 0, none⟩) ps.length cap] 26 (0, 0))
  own : Own13 W base (.slice (some ⟨G, 0, none⟩) ps.length cap) us ps
  below : Below base w W
  size : w.heap.size < W.heap.size

theorem Do13.drew {w : World} {base P G cap : Nat} {k pr a sk sx sy : Int} {us : List Value} {ps : List (List Stm)} {W : World} (h : Do13 w base P G cap k pr a sk sx sy us ps W) : Do13 w base P G cap k pr a sk sx sy us ps W.drew :=
  ⟨h.edit, h.box, h.own.kept (Below.drew (Below.refl _ _)), h.below.drew, h.size⟩

theorem Do13.cells {w : World} {base P G cap i : Nat} {k pr a sk sx sy : Int} {us : List Value} {ps : List (List Stm)} {W : World} {x : Value} (h : Do13 w base P G cap k pr a sk sx sy us ps W) (hx : us[i]? = some x) :
    W.cell? ⟨w.heap.size, 0, none⟩ = some (.int .i64 k) ∧ W.cell? ⟨w.heap.size, 1, none⟩ = some (.int .i64 pr) ∧ W.cell? ⟨w.heap.size, 2, none⟩ = some (.int .i64 a) ∧ W.cell? ⟨w.heap.size, 3, none⟩ = some (.int .i64 sk) ∧ W.cell? ⟨w.heap.size, 4, none⟩ = some (.int .i64 sx) ∧ W.cell? ⟨w.heap.size, 5, none⟩ = some (.int .i64 sy) ∧
      W.cell? ⟨P, 0, none⟩ = some (.slice (some ⟨G, 0, none⟩) ps.length cap) ∧ W.cell? ⟨G, i, none⟩ = some x ∧ W.frozen? ⟨G, i, none⟩ = false := by
  obtain ⟨h0, h1, h2⟩ := edit_cells0 h.edit
  obtain ⟨h3, h4, h5⟩ := edit_cells h.edit
  have hil : i < us.length := (List.getElem?_eq_some_iff.1 hx).1
  refine ⟨h0, h1, h2, h3, h4, h5, (one_cell h.box).1, ?_, h.own.row.frozenAt i⟩
  rw [h.own.row.cellAt i (by have := h.own.len; omega)]
  exact hx

/-- A row is another, in the same place. -/
theorem Own13.upd {W w' : World} {base i g m c : Nat} {v : Value} {us : List Value} {ps : List (List Stm)} {L : List Stm} (h : Own13 W base v us ps) (hi : i < ps.length) (hui : us[i]? = some (.slice (some ⟨g, 0, none⟩) m c)) (hg : W.grownBy w' (some g))
    (ho : w'.ownsRow base 37 3 (.slice (some ⟨g, 0, none⟩) m c) L.length (cells3 L)) : Own13 w' base v us (ps.set i L) := by
  obtain ⟨p, hp⟩ : ∃ p, ps[i]? = some p := ⟨ps[i], by simp [hi]⟩
  have hoi := h.each i _ p hui hp
  refine ⟨by rw [List.length_set]; exact own_grown h.row hg (fun k hk e => kind13 hoi h.row (by decide) k (by rw [← e]; rfl) hk), fun j u r h1 h2 => ?_, h.ap⟩
  by_cases e : i = j
  · subst e
    rw [hui] at h1
    rw [List.getElem?_set_self hi] at h2
    cases h1; cases h2
    exact ho
  · rw [List.getElem?_set_ne e] at h2
    have h3 := h.each j u r h1 h2
    exact own_grown h3 hg (fun k hk e' => h.ap j i u _ k (fun e2 => e e2.symm) h1 hui hk (by rw [← e']; rfl))

theorem Do13.upd {w : World} {base P G cap i g m c : Nat} {k pr a sk sx sy : Int} {us : List Value} {ps : List (List Stm)} {W w' : World} {L : List Stm} (h : Do13 w base P G cap k pr a sk sx sy us ps W) (hi : i < ps.length) (hui : us[i]? = some (.slice (some ⟨g, 0, none⟩) m c)) (hbase : base ≤ w.heap.size) (hgb : base ≤ g) (hg : W.grownBy w' (some g))
    (ho : w'.ownsRow base 37 3 (.slice (some ⟨g, 0, none⟩) m c) L.length (cells3 L)) : Do13 w base P G cap k pr a sk sx sy us (ps.set i L) w' := by
  have hl : (ps.set i L).length = ps.length := by simp
  obtain ⟨p, hp⟩ : ∃ p, ps[i]? = some p := ⟨ps[i], by simp [hi]⟩
  have hoi := h.own.each i _ p hui hp
  have ne : ∀ {b : Nat} {C : Array Value} {t : TypeId}, W.heap[b]? = some (.cells C t (0, 0)) → t ≠ 37 → b ≠ g := by
    intro b C t hb ht e
    subst e
    rcases hoi.2 with ⟨e, _⟩ | ⟨g', cap', cur, e, _, h4, _⟩
    · cases e
    · cases e
      rw [hb] at h4
      injection h4 with h4
      injection h4 with _ h4
      exact ht h4
  have h1 := ne h.edit (by decide)
  have h2 := ne h.box (by decide)
  refine ⟨(hg.block _ (Array.getElem?_eq_some_iff.1 h.edit).1 (fun e => h1 (Option.some.inj e))).trans h.edit, ?_, ?_, h.below.grown hg (Nat.le_trans hbase (Nat.le_of_lt h.size)) (fun q hq => by have := Option.some.inj hq; omega), Nat.lt_of_lt_of_le h.size hg.size⟩
  · rw [hl]; exact (hg.block _ (Array.getElem?_eq_some_iff.1 h.box).1 (fun e => h2 (Option.some.inj e))).trans h.box
  · rw [hl]; exact h.own.upd hi hui hg ho

end Go.Proofs.Ytoflfeegllpifaa
