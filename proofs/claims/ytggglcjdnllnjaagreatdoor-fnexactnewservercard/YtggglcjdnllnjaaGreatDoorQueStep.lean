/-
  Steps in regions that draw: append of any slice, make; a Queue's new row.
-/
import Derived.Test.YtggglcjdnllnjaaGreatDoorQueRow
import Derived.Test.YtggglcjdnllnjaaGreatDoorQueLaw
import Derived.Deep.Upon
import Derived.Deep.AppendLies
import Derived.OwnWalk
namespace Go.Proofs.YtggglcjdnllnjaaGreatDoor
open Go.RowKit
set_option linter.unusedVariables false
set_option linter.unusedSimpArgs false
set_option maxHeartbeats 4000000
set_option maxRecDepth 20000

section
variable {P : Program}

theorem wp_append_anyQ {Q : Exit → Act → World → Prop} {o : Oper} {a : Act} {K : Act → World → Prop} (w : World) (s x : Operand) (t : TypeId)
    (ho : o.op = .call { callee := .builtin .append, args := #[s, x], argTypes := #[t, t] })
    (base : Nat) (e : TypeId) (i : TypeInfo) (z : Value) (size bytes : Nat) (ht : P.underlying t = some (.slice e)) (hi : P.info? e = some i) (hz : i.zero = some z)
    (hsize : i.size = size) (hby : i.bytes = bytes) (hzs : z.cells.size = size) (hsz : 0 < size)
    (v : Value) (n : Nat) (xs : List Value) (hs : a.eval s = v) (hown : w.ownsRow base e size v n xs)
    (xo : Option Addr) (m c : Nat) (news : List Value) (hx : a.eval x = .slice xo m c) (hl : news.length = m * size) (hnews : 0 < m → ∃ ad, xo = some ad ∧ ∀ j u, news[j]? = some u → w.cell? (ad.add j) = some u) (h1 : ∀ u ∈ news, u.oneCell' = true)
    (h63 : n + m ≤ maxLen) (hbytes : (n + m) * bytes ≤ 140737488355328) (hbase : base ≤ w.heap.size)
    (h : ∀ v' w', w'.ownsRow base e size v' (n + m) (xs ++ news) → w.grownBy w' v.ownBlock → (∀ k, v'.ownBlock = some k → v.ownBlock = some k ∨ w.heap.size ≤ k) → K (a.put o.dst v') w') : Oper.wp P o a w K Q := by
  by_cases hm : 0 < m
  · obtain ⟨ad, rfl, hc⟩ := hnews hm
    refine wp_append_lies w s x t ho base e i z size bytes ht hi hz hsize hby hzs hsz v n xs hs hown ad m c news hx hl hc h1 hm h63 hbytes hbase _ rfl ?_
    intro g cap w' h2 h3 h4 h5
    refine h _ w' h2 h3 (fun k hk => ?_)
    have hk : g = k := Option.some.inj hk
    subst hk
    rcases h4 with h4 | h4
    · exact .inl h4
    · exact .inr (by omega)
  · have hm0 : m = 0 := by omega
    subst hm0
    have hn0 : news = [] := List.eq_nil_of_length_eq_zero (by omega)
    subst hn0
    have hr : (Builtin.append_ #[t, t] o.type #[v, .slice xo 0 c]).run P w = .ok v w := by
      have hsrc : Src P i.size t (.slice xo 0 c) 0 [] w := by
        cases xo with
        | none => exact Src.ofNil w ht c
        | some ad => exact Src.ofSlice w ht ad 0 c [] (by simp) (by simp) (by simp)
      rcases hown.2 with ⟨rfl, hn⟩ | ⟨g, cap, cur, rfl, _, _, hnc, _⟩
      · exact run_append_nothing w t t o.type e i ht hi none 0 0 (Nat.le_refl _) _ hsrc
      · exact run_append_nothing w t t o.type e i ht hi _ n cap hnc _ hsrc
    unfold Oper.wp
    simp only [execOp, ho, resolve, invoke, builtin, Sem.run_bind, Sem.run_pure, Result.andThen_ok, List.map_toArray, List.map_cons, List.map_nil, hs, hx, hr]
    exact h v w (by simpa using hown) (World.grownBy.refl _ _) (fun k hk => .inl hk)

theorem step_append_anyQ {ops : Array Oper} {Q : Exit → Act → World → Prop} {o : Oper} {a : Act} {K : Act → World → Prop} {E : Prop} (w : World) (hgd : o.guard = none) (s x : Operand) (t : TypeId)
    (ho : o.op = .call { callee := .builtin .append, args := #[s, x], argTypes := #[t, t] })
    (base : Nat) (e : TypeId) (i : TypeInfo) (z : Value) (size bytes : Nat) (ht : P.underlying t = some (.slice e)) (hi : P.info? e = some i) (hz : i.zero = some z)
    (hsize : i.size = size) (hby : i.bytes = bytes) (hzs : z.cells.size = size) (hsz : 0 < size)
    (v : Value) (n : Nat) (xs : List Value) (hs : a.eval s = v) (hown : w.ownsRow base e size v n xs)
    (xo : Option Addr) (m c : Nat) (news : List Value) (hx : a.eval x = .slice xo m c) (hl : news.length = m * size) (hnews : 0 < m → ∃ ad, xo = some ad ∧ ∀ j u, news[j]? = some u → w.cell? (ad.add j) = some u) (h1 : ∀ u ∈ news, u.oneCell' = true)
    (h63 : n + m ≤ maxLen) (hbytes : (n + m) * bytes ≤ 140737488355328) (hbase : base ≤ w.heap.size)
    (h : ∀ v' w', w'.ownsRow base e size v' (n + m) (xs ++ news) → w.grownBy w' v.ownBlock → (∀ k, v'.ownBlock = some k → v.ownBlock = some k ∨ w.heap.size ≤ k) → K (a.put o.dst v') w') :
    if Region.wanted o (yielded ops a.tmps) = true then Oper.wp P o a w K Q else E := by
  have hw : Region.wanted o (yielded ops a.tmps) = true := by simp [Region.wanted, hgd]
  rw [if_pos hw]
  exact wp_append_anyQ w s x t ho base e i z size bytes ht hi hz hsize hby hzs hsz v n xs hs hown xo m c news hx hl hnews h1 h63 hbytes hbase h

theorem step_makeQ {ops : Array Oper} {Q : Exit → Act → World → Prop} {o : Oper} {a : Act} {K : Act → World → Prop} {E : Prop} (w : World) (hgd : o.guard = none) (l c : Operand) (t : TypeId) (hop : o.op = Op.makeSlice t l c)
    (base : Nat) (e : TypeId) (i : TypeInfo) (z : Value) (size : Nat) (h1 : P.underlying t = some (.slice e)) (h2 : P.info? e = some i) (h3 : i.zero = some z) (h4 : i.size = size)
    (kl kc : IntKind) (L C : Int) (n : Nat) (hl : a.eval l = .int kl L) (hc : a.eval c = .int kc C) (hL : L = (n : Int)) (hC : C = (n : Int)) (b2 : i.bytes * n ≤ 281474976710656) (b3 : n ≤ maxLen) (b4 : base ≤ w.heap.size)
    (hK : ∀ w', w'.ownsRow base e size (.slice (some ⟨w.heap.size, 0, none⟩) n n) n (madeCells z.cells (n * size)).toList → w.grownBy w' none → K (a.put o.dst (.slice (some ⟨w.heap.size, 0, none⟩) n n)) w') :
    if Region.wanted o (yielded ops a.tmps) = true then Oper.wp P o a w K Q else E := by
  have hw : Region.wanted o (yielded ops a.tmps) = true := by simp [Region.wanted, hgd]
  rw [if_pos hw]
  obtain ⟨w', hrun, r1, r2⟩ := run_make_full (P := P) w base t e i z size h1 h2 h3 h4 kl kc n b2 b3 b4
  subst hL
  subst hC
  unfold Oper.wp
  simp [execOp, hop, hl, hc, hrun, Result.andThen]
  exact hK w' r1 r2
end

theorem made_nils (n : Nat) : (madeCells (Value.slice none 0 0).cells (n * 1)).toList = List.replicate n (.slice none 0 0) := by
  apply List.ext_getElem?
  intro i
  by_cases h : i < n
  · simp [madeCells, Value.cells, h, Nat.mod_one]
  · rw [List.getElem?_eq_none (by simp [madeCells]; omega), List.getElem?_eq_none (by simp; omega)]

theorem apartSS_nils {us : List Value} (h : ∀ u ∈ us, u = .slice none 0 0) : ApartSS us := by
  intro i j a b k _ ha _ hk
  rw [h a (List.mem_of_getElem? ha)] at hk
  simp [Value.ownBlock] at hk

def StopQ (p : Prop) : Prop := p
theorem stopQ {p : Prop} (h : p) : StopQ p := h

/-- A new row of nothing. -/
theorem ownQ_nils {w : World} {base n : Nat} {v : Value} (h : w.ownsRow base 74 1 v n (List.replicate n (.slice none 0 0))) : OwnQ w base v (List.replicate n (.slice none 0 0)) (List.replicate n []) := by
  refine ⟨by simpa using h, fun j u xs hj hx => ?_⟩
  have h1 := List.eq_of_mem_replicate (List.mem_of_getElem? hj)
  have h2 := List.eq_of_mem_replicate (List.mem_of_getElem? hx)
  subst h1 h2
  exact .inl ⟨rfl, rfl⟩

theorem specNewQueue (w : World) :
    Calls Tryz.prog 10 #[] w fun e w' => ∃ u us, e = .returned (.agg #[.int .i64 0, u]) ∧ OwnQ w' w.heap.size u us (List.replicate 8 []) ∧ ApartSS us ∧ Below w.heap.size w w' := by
  obtain ⟨i0, hi, hz0, hz1, hz2⟩ := info_parts infoSlice
  obtain ⟨W0, hW0⟩ : ∃ W0, w.alloc (.cells #[.int .i64 0, .slice none 0 0] 28) = W0 := ⟨_, rfl⟩
  have b0 : Below w.heap.size w W0 := by rw [← hW0]; go_grown
  have s0 : W0.heap.size = w.heap.size + 1 := by rw [← hW0]; simp
  have H0 : W0.heap[w.heap.size]? = some (.cells #[.int .i64 0, .slice none 0 0] 28 (0, 0)) := by rw [← hW0]; exact heap_alloc_new w _
  obtain ⟨w1, hr0, own1, grow1⟩ := run_make_full (P := Tryz.prog) W0 W0.heap.size 26 74 i0 (.slice none 0 0) 1 Tryz.underlying26 hi hz0 hz1 .i64 .i64 8 (by rw [hz2]; omega) (by unfold maxLen; omega) (Nat.le_refl _)
  have hrun : (Instr.makeSlice 26 (.int .i64 8) (.int .i64 8)).run Tryz.prog W0 = .ok (.slice (some ⟨W0.heap.size, 0, none⟩) 8 8) w1 := hr0
  clear hr0
  rw [made_nils] at own1
  have b1 : Below W0.heap.size W0 w1 := (Below.refl _ _).grown grow1 (Nat.le_refl _) (by simp)
  have R1 := (b1.block _ (by omega)).trans H0
  obtain ⟨r0, r1, x0, x1⟩ := two_cellsQ R1
  have HO : Hid _ := ownQ_nils own1
  have L1 : Hid (Below w.heap.size w w1) := b0.trans (b1.mono b0.size)
  have R3 := two_setQ R1 (.int .i64 0) (.slice (some ⟨W0.heap.size, 0, none⟩) 8 8)
  obtain ⟨y0, y1, _, _⟩ := two_cellsQ R3
  have hlt0 : w.heap.size < W0.heap.size := by omega
  clear own1 grow1 b1 R1 s0
  go_enter Tryz.func10, Tryz.ntmps10
  go_wp2
  refine bodyPost_ret (v := .agg #[.int .i64 0, .slice (some ⟨W0.heap.size, 0, none⟩) 8 8]) (by simp [results, Tryz.results10, go_sem, y0, y1]) rfl ?_
  exact ⟨_, _, rfl, ((HO.out.set (by omega)).set (by omega)).mono (by omega), apartSS_nils (fun u hu => List.eq_of_mem_replicate hu), (L1.out.setCell (by simp) _).setCell (by simp) _⟩

theorem implNewQueue (w : World) :
    Calls Tryz.prog 11 #[] w fun e w' => ∃ u us, e = .returned (.agg #[.int .i64 0, u]) ∧ OwnQ w' w.heap.size u us (List.replicate 8 []) ∧ ApartSS us ∧ Below w.heap.size w w' := by
  obtain ⟨i0, hi, hz0, hz1, hz2⟩ := info_parts infoSlice
  obtain ⟨W0, hW0⟩ : ∃ W0, w.alloc (.cells #[.int .i64 0, .slice none 0 0] 28) = W0 := ⟨_, rfl⟩
  have b0 : Below w.heap.size w W0 := by rw [← hW0]; go_grown
  have s0 : W0.heap.size = w.heap.size + 1 := by rw [← hW0]; simp
  have H0 : W0.heap[w.heap.size]? = some (.cells #[.int .i64 0, .slice none 0 0] 28 (0, 0)) := by rw [← hW0]; exact heap_alloc_new w _
  obtain ⟨w1, hr0, own1, grow1⟩ := run_make_full (P := Tryz.prog) W0 W0.heap.size 26 74 i0 (.slice none 0 0) 1 Tryz.underlying26 hi hz0 hz1 .i64 .i64 8 (by rw [hz2]; omega) (by unfold maxLen; omega) (Nat.le_refl _)
  have hrun : (Instr.makeSlice 26 (.int .i64 8) (.int .i64 8)).run Tryz.prog W0 = .ok (.slice (some ⟨W0.heap.size, 0, none⟩) 8 8) w1 := hr0
  clear hr0
  rw [made_nils] at own1
  have b1 : Below W0.heap.size W0 w1 := (Below.refl _ _).grown grow1 (Nat.le_refl _) (by simp)
  have R1 := (b1.block _ (by omega)).trans H0
  obtain ⟨r0, r1, x0, x1⟩ := two_cellsQ R1
  have HO : Hid _ := ownQ_nils own1
  have L1 : Hid (Below w.heap.size w w1) := b0.trans (b1.mono b0.size)
  have R3 := two_setQ R1 (.int .i64 0) (.slice (some ⟨W0.heap.size, 0, none⟩) 8 8)
  obtain ⟨y0, y1, _, _⟩ := two_cellsQ R3
  have hlt0 : w.heap.size < W0.heap.size := by omega
  clear own1 grow1 b1 R1 s0
  go_enter Tryz.func11, Tryz.ntmps11
  go_wp2
  refine bodyPost_ret (v := .agg #[.int .i64 0, .slice (some ⟨W0.heap.size, 0, none⟩) 8 8]) (by simp [results, Tryz.results11, go_sem, y0, y1]) rfl ?_
  exact ⟨_, _, rfl, ((HO.out.set (by omega)).set (by omega)).mono (by omega), apartSS_nils (fun u hu => List.eq_of_mem_replicate hu), (L1.out.setCell (by simp) _).setCell (by simp) _⟩

end Go.Proofs.YtggglcjdnllnjaaGreatDoor
