/-
  impl.waysUpTo: what the iterator has in hand (two lists of lists of its own, none of their blocks the caller's).
-/
import Derived.Test.YtciccbbgamklbaaG06RangeFootH
import Derived.Test.YtciccbbgamklbaaWaysSt
import Derived.Test.YtciccbbgamklbaaCloneI
namespace Go.Proofs.Ytciccbbgamklbaa
open Go.RowKit Go.Shelf
set_option linter.unusedVariables false
set_option maxHeartbeats 1000000

structure WI {α : Type} (v : Value) (w : World) (B Bn : Nat) (J : List α → (Nat → Prop) → World → Prop) (pre : List α) (f : Nat → Prop) (av : Value) (us : List Value) (ass : List (List Int)) (lv : Value) (ns : List Value) (bss : List (List Int)) (wr : World) : Prop where
  a : OwnSS wr B av us ass
  l : OwnSS wr B lv ns bss
  al : ∀ k, av.ownBlock = some k → lv.ownBlock ≠ some k
  j : J pre f wr
  lt : ∀ r, f r → r < wr.heap.size
  low : ∀ r, r < w.heap.size → ¬ f r
  box : ¬ f Bn
  ra : ∀ k, av.ownBlock = some k → ¬ f k
  ia : ∀ u ∈ us, ∀ k, u.ownBlock = some k → ¬ f k
  rl : ∀ k, lv.ownBlock = some k → ¬ f k
  il : ∀ u ∈ ns, ∀ k, u.ownBlock = some k → ¬ f k
  bl : Below w.heap.size w wr
  bx : wr.heap[Bn]? = some (.cells #[v] 30 (0, 0))

section
variable {α : Type} {v : Value} {w : World} {B Bn : Nat} {J J' : List α → (Nat → Prop) → World → Prop} {pre pre' : List α} {f f' : Nat → Prop} {av : Value} {us : List Value} {ass : List (List Int)} {lv : Value} {ns : List Value} {bss : List (List Int)} {wr wr' : World}

theorem WI.bxlt (h : WI v w B Bn J pre f av us ass lv ns bss wr) : Bn < wr.heap.size := (Array.getElem?_eq_some_iff.1 h.bx).1

/-- New blocks. -/
theorem WI.grow (hJ : FootAbides B J) (h : WI v w B Bn J pre f av us ass lv ns bss wr) (hg : wr.grownBy wr' none) : WI v w B Bn J pre f av us ass lv ns bss wr' where
  a := h.a.same (fun k hk => hg.block k (h.a.row.lt k hk).2 (by simp)) (fun u hu k hk => hg.block k (h.a.ltI hu hk).2 (by simp))
  l := h.l.same (fun k hk => hg.block k (h.l.row.lt k hk).2 (by simp)) (fun u hu k hk => hg.block k (h.l.ltI hu hk).2 (by simp))
  al := h.al
  j := hJ _ _ _ _ none h.j hg (by simp)
  lt := fun r hr => Nat.lt_of_lt_of_le (h.lt r hr) hg.size
  low := h.low
  box := h.box
  ra := h.ra
  ia := h.ia
  rl := h.rl
  il := h.il
  bl := h.bl.grown hg h.bl.size (by simp)
  bx := (hg.block _ h.bxlt (by simp)).trans h.bx

/-- A row of the iterator's own that is none of the lists' has been appended to. -/
theorem WI.inner (hJ : FootAbides B J) (hB : w.heap.size ≤ B) (hBn : Bn < B) (h : WI v w B Bn J pre f av us ass lv ns bss wr) {gv : Value} (hg : wr.grownBy wr' gv.ownBlock)
    (ho : ∀ k, gv.ownBlock = some k → B ≤ k ∧ ¬ f k ∧ av.ownBlock ≠ some k ∧ lv.ownBlock ≠ some k ∧ (∀ u ∈ us, u.ownBlock ≠ some k) ∧ (∀ u ∈ ns, u.ownBlock ≠ some k)) : WI v w B Bn J pre f av us ass lv ns bss wr' where
  a := h.a.same (fun k hk => hg.block k (h.a.row.lt k hk).2 (fun e => (ho k e.symm).2.2.1 hk)) (fun u hu k hk => hg.block k (h.a.ltI hu hk).2 (fun e => (ho k e.symm).2.2.2.2.1 u hu hk))
  l := h.l.same (fun k hk => hg.block k (h.l.row.lt k hk).2 (fun e => (ho k e.symm).2.2.2.1 hk)) (fun u hu k hk => hg.block k (h.l.ltI hu hk).2 (fun e => (ho k e.symm).2.2.2.2.2 u hu hk))
  al := h.al
  j := hJ _ _ _ _ _ h.j hg (fun r e => ⟨(ho r e).1, (ho r e).2.1⟩)
  lt := fun r hr => Nat.lt_of_lt_of_le (h.lt r hr) hg.size
  low := h.low
  box := h.box
  ra := h.ra
  ia := h.ia
  rl := h.rl
  il := h.il
  bl := h.bl.grown hg h.bl.size (fun k e => by have := (ho k e).1; omega)
  bx := (hg.block _ h.bxlt (fun e => by have := (ho _ e.symm).1; omega)).trans h.bx

/-- A block that was not there is none of theirs. -/
theorem WI.fresh (h : WI v w B Bn J pre f av us ass lv ns bss wr) (k : Nat) (hk : wr.heap.size ≤ k) (hBw : B ≤ wr.heap.size) : B ≤ k ∧ ¬ f k ∧ av.ownBlock ≠ some k ∧ lv.ownBlock ≠ some k ∧ (∀ u ∈ us, u.ownBlock ≠ some k) ∧ (∀ u ∈ ns, u.ownBlock ≠ some k) :=
  ⟨by omega, fun hf => by have := h.lt k hf; omega, fun e => by have := (h.a.row.lt k e).2; omega, fun e => by have := (h.l.row.lt k e).2; omega, fun u hu e => by have := (h.a.ltI hu e).2; omega, fun u hu e => by have := (h.l.ltI hu e).2; omega⟩

/-- The longer ways have one more. -/
theorem WI.app (hJ : FootAbides B J) (hB : w.heap.size ≤ B) (hBn : Bn < B) (h : WI v w B Bn J pre f av us ass lv ns bss wr) {u : Value} {xs : List Int} {g n cap : Nat} (hu : wr.ownsRow B 2 1 u xs.length (ints xs)) (huf : ∀ k, u.ownBlock = some k → ¬ f k)
    (hr : wr'.ownsRow B 26 1 (.slice (some ⟨g, 0, none⟩) n cap) (bss.length + 1) (ns ++ [u])) (hg : wr.grownBy wr' lv.ownBlock) (hat : lv.ownBlock = some g ∨ g = wr.heap.size) :
    WI v w B Bn J pre f av us ass (.slice (some ⟨g, 0, none⟩) n cap) (ns ++ [u]) (bss ++ [xs]) wr' where
  l := h.l.appended hu hr hg
  a := h.a.other h.l.row hg (fun k hk e => h.al k hk e)
  al := fun k hk e => by
    simp [Value.ownBlock] at e
    subst e
    rcases hat with h1 | h1
    · exact h.al _ hk h1
    · have := (h.a.row.lt _ hk).2; omega
  j := hJ _ _ _ _ _ h.j hg (fun r e => ⟨(h.l.row.lt r e).1, h.rl r e⟩)
  lt := fun r hr => Nat.lt_of_lt_of_le (h.lt r hr) hg.size
  low := h.low
  box := h.box
  ra := h.ra
  ia := h.ia
  rl := fun k hk hf => by
    simp [Value.ownBlock] at hk
    subst hk
    rcases hat with h1 | h1
    · exact h.rl _ h1 hf
    · have := h.lt _ hf; omega
  il := fun x hx k hk => by
    rcases List.mem_append.1 hx with h1 | h1
    · exact h.il x h1 k hk
    · simp at h1; subst h1; exact huf k hk
  bl := h.bl.grown hg h.bl.size (fun k e => by have := (h.l.row.lt k e).1; omega)
  bx := (hg.block _ h.bxlt (fun e => by have := (h.l.row.lt _ e.symm).1; omega)).trans h.bx

/-- A round has been made. -/
theorem WI.round (h : WI v w B Bn J pre f av us ass lv ns bss wr) (hO : Outside f wr f' wr') (hj : J' pre' f' wr') : WI v w B Bn J' pre' f' av us ass lv ns bss wr' where
  a := h.a.same (fun k hk => hO.block k (h.a.row.lt k hk).2 (h.ra k hk)) (fun u hu k hk => hO.block k (h.a.ltI hu hk).2 (h.ia u hu k hk))
  l := h.l.same (fun k hk => hO.block k (h.l.row.lt k hk).2 (h.rl k hk)) (fun u hu k hk => hO.block k (h.l.ltI hu hk).2 (h.il u hu k hk))
  al := h.al
  j := hj
  lt := hO.lt
  low := fun r hr hf => h.low r hr (hO.less r (Nat.lt_of_lt_of_le hr h.bl.size) hf)
  box := fun hf => h.box (hO.less _ h.bxlt hf)
  ra := fun k hk hf => h.ra k hk (hO.less k (h.a.row.lt k hk).2 hf)
  ia := fun u hu k hk hf => h.ia u hu k hk (hO.less k (h.a.ltI hu hk).2 hf)
  rl := fun k hk hf => h.rl k hk (hO.less k (h.l.row.lt k hk).2 hf)
  il := fun u hu k hk hf => h.il u hu k hk (hO.less k (h.l.ltI hu hk).2 hf)
  bl := ⟨hO.os.trans h.bl.os, hO.tape.trans h.bl.tape, hO.output.trans h.bl.output, Nat.le_trans h.bl.size hO.size, fun k hk => (hO.block k (Nat.lt_of_lt_of_le hk h.bl.size) (h.low k hk)).trans (h.bl.block k hk)⟩
  bx := (hO.block _ h.bxlt h.box).trans h.bx

/-- The longer ways are the next ones; a new list of longer ones is begun. -/
theorem WI.turn (h : WI v w B Bn J pre f av us ass lv ns bss wr) : WI v w B Bn J pre f lv ns bss (.slice none 0 0) [] [] wr :=
  { h with a := h.l, l := ⟨⟨rfl, .inl ⟨rfl, rfl⟩⟩, fun j u xs h => by simp at h⟩, al := fun k _ e => by simp [Value.ownBlock] at e, ra := h.rl, ia := h.il, rl := fun k e => by simp [Value.ownBlock] at e, il := fun u hu => by simp at hu }

end

/-- append of something, inside a fence. -/
theorem wpListIn_append_lies {F : Fence} {nn : Nat} {P : Program} (w : World) {ops : Array Oper} {rest : List Oper} {o : Oper} {a : Act} {Q : Exit → Act → World → Prop} (hgd : o.guard = none) (s x : Operand) (t : TypeId)
    (ho : o.op = .call { callee := .builtin .append, args := #[s, x], argTypes := #[t, t] })
    (base : Nat) (e : TypeId) (i : TypeInfo) (z : Value) (size bytes : Nat) (ht : P.underlying t = some (.slice e)) (hi : P.info? e = some i) (hz : i.zero = some z)
    (hsize : i.size = size) (hby : i.bytes = bytes) (hzs : z.cells.size = size) (hsz : 0 < size)
    (v : Value) (n : Nat) (xs : List Value) (hs : a.eval s = v) (hown : w.ownsRow base e size v n xs)
    (ad : Addr) (m c : Nat) (news : List Value) (hx : a.eval x = .slice (some ad) m c) (hl : news.length = m * size) (hnews : ∀ j u, news[j]? = some u → w.cell? (ad.add j) = some u) (h1 : ∀ u ∈ news, u.oneCell' = true)
    (hm : 0 < m) (h63 : n + m ≤ maxLen) (hbytes : (n + m) * bytes ≤ 140737488355328) (hbase : base ≤ w.heap.size)
    (h : ∀ g cap w', w'.ownsRow base e size (.slice (some ⟨g, 0, none⟩) (n + m) cap) (n + m) (xs ++ news) → w.grownBy w' v.ownBlock → (v.ownBlock = some g ∨ g = w.heap.size) → g < w'.heap.size → wpListIn F nn P ops Q rest (a.put o.dst (.slice (some ⟨g, 0, none⟩) (n + m) cap)) w') : wpListIn F nn P ops Q (o :: rest) a w := by
  refine wpListIn_plain hgd fun K hK' => ?_
  obtain ⟨g, cap, w', hr, h2, h3, h4, h5⟩ := run_append_lies (P := P) w t o.type base e i z size bytes ht hi hz hsize hby hzs hsz v n xs hown ad m c news hl hnews h1 hm h63 hbytes hbase _ rfl
  unfold Oper.wpIn
  refine ⟨?_, ?_⟩
  · simp [Oper.about, ho, resolve, Target.leads, Sem.run_pure]
  · rw [Oper.semAt_plain F _ _ (by rw [ho]; intro c hc'; cases hc')]
    simp [execOp, ho, resolve, invoke, builtin, hs, hx, hr, Result.andThen]
    exact hK' _ _ (h g cap w' h2 h3 h4 h5)

end Go.Proofs.Ytciccbbgamklbaa
