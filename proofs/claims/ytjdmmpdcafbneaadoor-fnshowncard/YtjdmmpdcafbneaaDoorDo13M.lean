/-
  spec.l13Do: what it has in hand; append of any slice in a region that draws.
-/
import Derived.Test.YtjdmmpdcafbneaaDoorG25SpecCp
import Derived.Deep.Upon
namespace Go.Proofs.YtjdmmpdcafbneaaDoor
open Go.RowKit
set_option linter.unusedVariables false
set_option linter.unusedSimpArgs false
set_option maxHeartbeats 4000000
set_option maxRecDepth 20000

section
variable {P : Program}

theorem wp_append_any {Q : Exit → Act → World → Prop} {o : Oper} {a : Act} {K : Act → World → Prop} (w : World) (s x : Operand) (t : TypeId)
    (ho : o.op = .call { callee := .builtin .append, args := #[s, x], argTypes := #[t, t] })
    (base : Nat) (e : TypeId) (i : TypeInfo) (z : Value) (size bytes : Nat) (ht : P.underlying t = some (.slice e)) (hi : P.info? e = some i) (hz : i.zero = some z)
    (hsize : i.size = size) (hby : i.bytes = bytes) (hzs : z.cells.size = size) (hsz : 0 < size)
    (v : Value) (n : Nat) (xs : List Value) (hs : a.eval s = v) (hown : w.ownsRow base e size v n xs)
    (xo : Option Addr) (m c : Nat) (news : List Value) (hx : a.eval x = .slice xo m c) (hl : news.length = m * size) (hnews : 0 < m → ∃ ad, xo = some ad ∧ ∀ j u, news[j]? = some u → w.cell? (ad.add j) = some u) (h1 : ∀ u ∈ news, u.oneCell' = true)
    (h63 : n + m ≤ maxLen) (hbytes : (n + m) * bytes ≤ 140737488355328) (hbase : base ≤ w.heap.size)
    (h : ∀ v' w', w'.ownsRow base e size v' (n + m) (xs ++ news) → w.grownBy w' v.ownBlock → (∀ k, v'.ownBlock = some k → v.ownBlock = some k ∨ w.heap.size ≤ k) → K (a.put o.dst v') w') : Oper.wp P o a w K Q := by
  by_cases hm : 0 < m
  · obtain ⟨ad, rfl, hc⟩ := hnews hm
    refine wp_append_lies w s x t ho base e i z size bytes ht hi hz hsize hby hzs hsz v n xs hs hown ad m c news hx hl hc h1 hm h63 hbytes hbase _ rfl ?_
    intro g cap w' h2 h3 h4 h5
    refine h _ w' h2 h3 (fun k hk => ?_)
    have hk : g = k := Option.some.inj hk
    subst hk
    rcases h4 with h4 | h4
    · exact .inl h4
    · exact .inr (by omega)
  · have hm0 : m = 0 := by omega
    subst hm0
    have hn0 : news = [] := List.eq_nil_of_length_eq_zero (by omega)
    subst hn0
    have hr : (Builtin.append_ #[t, t] o.type #[v, .slice xo 0 c]).run P w = .ok v w := by
      have hsrc : Src P i.size t (.slice xo 0 c) 0 [] w := by
        cases xo with
        | none => exact Src.ofNil w ht c
        | some ad => exact Src.ofSlice w ht ad 0 c [] (by simp) (by simp) (by simp)
      rcases hown.2 with ⟨rfl, hn⟩ | ⟨g, cap, cur, rfl, _, _, hnc, _⟩
      · exact run_append_nothing w t t o.type e i ht hi none 0 0 (Nat.le_refl _) _ hsrc
      · exact run_append_nothing w t t o.type e i ht hi _ n cap hnc _ hsrc
    unfold Oper.wp
    simp only [execOp, ho, resolve, invoke, builtin, Sem.run_bind, Sem.run_pure, Result.andThen_ok, List.map_toArray, List.map_cons, List.map_nil, hs, hx, hr]
    exact h v w (by simpa using hown) (World.grownBy.refl _ _) (fun k hk => .inl hk)

theorem step_append_any {ops : Array Oper} {Q : Exit → Act → World → Prop} {o : Oper} {a : Act} {K : Act → World → Prop} {E : Prop} (w : World) (hgd : o.guard = none) (s x : Operand) (t : TypeId)
    (ho : o.op = .call { callee := .builtin .append, args := #[s, x], argTypes := #[t, t] })
    (base : Nat) (e : TypeId) (i : TypeInfo) (z : Value) (size bytes : Nat) (ht : P.underlying t = some (.slice e)) (hi : P.info? e = some i) (hz : i.zero = some z)
    (hsize : i.size = size) (hby : i.bytes = bytes) (hzs : z.cells.size = size) (hsz : 0 < size)
    (v : Value) (n : Nat) (xs : List Value) (hs : a.eval s = v) (hown : w.ownsRow base e size v n xs)
    (xo : Option Addr) (m c : Nat) (news : List Value) (hx : a.eval x = .slice xo m c) (hl : news.length = m * size) (hnews : 0 < m → ∃ ad, xo = some ad ∧ ∀ j u, news[j]? = some u → w.cell? (ad.add j) = some u) (h1 : ∀ u ∈ news, u.oneCell' = true)
    (h63 : n + m ≤ maxLen) (hbytes : (n + m) * bytes ≤ 140737488355328) (hbase : base ≤ w.heap.size)
    (h : ∀ v' w', w'.ownsRow base e size v' (n + m) (xs ++ news) → w.grownBy w' v.ownBlock → (∀ k, v'.ownBlock = some k → v.ownBlock = some k ∨ w.heap.size ≤ k) → K (a.put o.dst v') w') :
    if Region.wanted o (yielded ops a.tmps) = true then Oper.wp P o a w K Q else E := by
  have hw : Region.wanted o (yielded ops a.tmps) = true := by simp [Region.wanted, hgd]
  rw [if_pos hw]
  exact wp_append_any w s x t ho base e i z size bytes ht hi hz hsize hby hzs hsz v n xs hs hown xo m c news hx hl hnews h1 h63 hbytes hbase h
end

/-- A row is another, in the same place. -/
theorem Own13.upd {W w' : World} {base i g m c : Nat} {v : Value} {us : List Value} {ps : List (List Stm)} {L : List Stm} (h : Own13 W base v us ps) (hi : i < ps.length) (hui : us[i]? = some (.slice (some ⟨g, 0, none⟩) m c)) (hg : W.grownBy w' (some g))
    (ho : w'.ownsRow base 42 3 (.slice (some ⟨g, 0, none⟩) m c) L.length (cells3 L)) : Own13 w' base v us (ps.set i L) := by
  obtain ⟨p, hp⟩ : ∃ p, ps[i]? = some p := ⟨ps[i], by simp [hi]⟩
  have hoi := h.each i _ p hui hp
  refine ⟨by rw [List.length_set]; exact own_grown h.row hg (fun k hk e => kind13 hoi h.row (by decide) k (by rw [← e]; rfl) hk), fun j u r h1 h2 => ?_, h.ap⟩
  by_cases e : i = j
  · subst e
    rw [hui] at h1
    rw [List.getElem?_set_self hi] at h2
    cases h1; cases h2
    exact ho
  · rw [List.getElem?_set_ne e] at h2
    have h3 := h.each j u r h1 h2
    exact own_grown h3 hg (fun k hk e' => h.ap j i u _ k (fun e2 => e e2.symm) h1 hui hk (by rw [← e']; rfl))

end Go.Proofs.YtjdmmpdcafbneaaDoor
