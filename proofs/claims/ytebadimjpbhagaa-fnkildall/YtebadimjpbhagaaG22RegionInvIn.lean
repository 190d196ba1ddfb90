/-
  Put together out of: WaysIt, ImplWays1, RegionInvIn.
-/
import Derived.Test.YtebadimjpbhagaaRangeFootG
import Derived.Test.YtebadimjpbhagaaG21CloneI
import Derived.Test.YtebadimjpbhagaaG04RegionInv
import Derived.OrdersIn
import Derived.TacticsIn
/-
  impl.waysUpTo: what the iterator has in hand (two lists of lists of its own, none of their blocks the caller's).
-/
namespace Go.Proofs.Ytebadimjpbhagaa
open Go.RowKit Go.Shelf
set_option linter.unusedVariables false
set_option maxHeartbeats 1000000

structure WI {α : Type} (v : Value) (w : World) (B Bn : Nat) (J : List α → (Nat → Prop) → World → Prop) (pre : List α) (f : Nat → Prop) (av : Value) (us : List Value) (ass : List (List Int)) (lv : Value) (ns : List Value) (bss : List (List Int)) (wr : World) : Prop where
  a : OwnSS wr B av us ass
  l : OwnSS wr B lv ns bss
  al : ∀ k, av.ownBlock = some k → lv.ownBlock ≠ some k
  j : J pre f wr
  lt : ∀ r, f r → r < wr.heap.size
  low : ∀ r, r < w.heap.size → ¬ f r
  box : ¬ f Bn
  ra : ∀ k, av.ownBlock = some k → ¬ f k
  ia : ∀ u ∈ us, ∀ k, u.ownBlock = some k → ¬ f k
  rl : ∀ k, lv.ownBlock = some k → ¬ f k
  il : ∀ u ∈ ns, ∀ k, u.ownBlock = some k → ¬ f k
  bl : Below w.heap.size w wr
  bx : wr.heap[Bn]? = some (.cells #[v] 26 (0, 0))

section
variable {α : Type} {v : Value} {w : World} {B Bn : Nat} {J J' : List α → (Nat → Prop) → World → Prop} {pre pre' : List α} {f f' : Nat → Prop} {av : Value} {us : List Value} {ass : List (List Int)} {lv : Value} {ns : List Value} {bss : List (List Int)} {wr wr' : World}

theorem WI.bxlt (h : WI v w B Bn J pre f av us ass lv ns bss wr) : Bn < wr.heap.size := (Array.getElem?_eq_some_iff.1 h.bx).1

/-- New blocks. -/
theorem WI.grow (hJ : FootAbides B J) (h : WI v w B Bn J pre f av us ass lv ns bss wr) (hg : wr.grownBy wr' none) : WI v w B Bn J pre f av us ass lv ns bss wr' where
  a := h.a.same (fun k hk => hg.block k (h.a.row.lt k hk).2 (by simp)) (fun u hu k hk => hg.block k (h.a.ltI hu hk).2 (by simp))
  l := h.l.same (fun k hk => hg.block k (h.l.row.lt k hk).2 (by simp)) (fun u hu k hk => hg.block k (h.l.ltI hu hk).2 (by simp))
  al := h.al
  j := hJ _ _ _ _ none h.j hg (by simp)
  lt := fun r hr => Nat.lt_of_lt_of_le (h.lt r hr) hg.size
  low := h.low
  box := h.box
  ra := h.ra
  ia := h.ia
  rl := h.rl
  il := h.il
  bl := h.bl.grown hg h.bl.size (by simp)
  bx := (hg.block _ h.bxlt (by simp)).trans h.bx

/-- A row of the iterator's own that is none of the lists' has been appended to. -/
theorem WI.inner (hJ : FootAbides B J) (hB : w.heap.size ≤ B) (hBn : Bn < B) (h : WI v w B Bn J pre f av us ass lv ns bss wr) {gv : Value} (hg : wr.grownBy wr' gv.ownBlock)
    (ho : ∀ k, gv.ownBlock = some k → B ≤ k ∧ ¬ f k ∧ av.ownBlock ≠ some k ∧ lv.ownBlock ≠ some k ∧ (∀ u ∈ us, u.ownBlock ≠ some k) ∧ (∀ u ∈ ns, u.ownBlock ≠ some k)) : WI v w B Bn J pre f av us ass lv ns bss wr' where
  a := h.a.same (fun k hk => hg.block k (h.a.row.lt k hk).2 (fun e => (ho k e.symm).2.2.1 hk)) (fun u hu k hk => hg.block k (h.a.ltI hu hk).2 (fun e => (ho k e.symm).2.2.2.2.1 u hu hk))
  l := h.l.same (fun k hk => hg.block k (h.l.row.lt k hk).2 (fun e => (ho k e.symm).2.2.2.1 hk)) (fun u hu k hk => hg.block k (h.l.ltI hu hk).2 (fun e => (ho k e.symm).2.2.2.2.2 u hu hk))
  al := h.al
  j := hJ _ _ _ _ _ h.j hg (fun r e => ⟨(ho r e).1, (ho r e).2.1⟩)
  lt := fun r hr => Nat.lt_of_lt_of_le (h.lt r hr) hg.size
  low := h.low
  box := h.box
  ra := h.ra
  ia := h.ia
  rl := h.rl
  il := h.il
  bl := h.bl.grown hg h.bl.size (fun k e => by have := (ho k e).1; omega)
  bx := (hg.block _ h.bxlt (fun e => by have := (ho _ e.symm).1; omega)).trans h.bx

/-- A block that was not there is none of theirs. -/
theorem WI.fresh (h : WI v w B Bn J pre f av us ass lv ns bss wr) (k : Nat) (hk : wr.heap.size ≤ k) (hBw : B ≤ wr.heap.size) : B ≤ k ∧ ¬ f k ∧ av.ownBlock ≠ some k ∧ lv.ownBlock ≠ some k ∧ (∀ u ∈ us, u.ownBlock ≠ some k) ∧ (∀ u ∈ ns, u.ownBlock ≠ some k) :=
  ⟨by omega, fun hf => by have := h.lt k hf; omega, fun e => by have := (h.a.row.lt k e).2; omega, fun e => by have := (h.l.row.lt k e).2; omega, fun u hu e => by have := (h.a.ltI hu e).2; omega, fun u hu e => by have := (h.l.ltI hu e).2; omega⟩

/-- The longer ways have one more. -/
theorem WI.app (hJ : FootAbides B J) (hB : w.heap.size ≤ B) (hBn : Bn < B) (h : WI v w B Bn J pre f av us ass lv ns bss wr) {u : Value} {xs : List Int} {g n cap : Nat} (hu : wr.ownsRow B 2 1 u xs.length (ints xs)) (huf : ∀ k, u.ownBlock = some k → ¬ f k)
    (hr : wr'.ownsRow B 29 1 (.slice (some ⟨g, 0, none⟩) n cap) (bss.length + 1) (ns ++ [u])) (hg : wr.grownBy wr' lv.ownBlock) (hat : lv.ownBlock = some g ∨ g = wr.heap.size) :
    WI v w B Bn J pre f av us ass (.slice (some ⟨g, 0, none⟩) n cap) (ns ++ [u]) (bss ++ [xs]) wr' where
  l := h.l.appended hu hr hg
  a := h.a.other h.l.row hg (fun k hk e => h.al k hk e)
  al := fun k hk e => by
    simp [Value.ownBlock] at e
    subst e
    rcases hat with h1 | h1
    · exact h.al _ hk h1
    · have := (h.a.row.lt _ hk).2; omega
  j := hJ _ _ _ _ _ h.j hg (fun r e => ⟨(h.l.row.lt r e).1, h.rl r e⟩)
  lt := fun r hr => Nat.lt_of_lt_of_le (h.lt r hr) hg.size
  low := h.low
  box := h.box
  ra := h.ra
  ia := h.ia
  rl := fun k hk hf => by
    simp [Value.ownBlock] at hk
    subst hk
    rcases hat with h1 | h1
    · exact h.rl _ h1 hf
    · have := h.lt _ hf; omega
  il := fun x hx k hk => by
    rcases List.mem_append.1 hx with h1 | h1
    · exact h.il x h1 k hk
    · simp at h1; subst h1; exact huf k hk
  bl := h.bl.grown hg h.bl.size (fun k e => by have := (h.l.row.lt k e).1; omega)
  bx := (hg.block _ h.bxlt (fun e => by have := (h.l.row.lt _ e.symm).1; omega)).trans h.bx

/-- A round has been made. -/
theorem WI.round (h : WI v w B Bn J pre f av us ass lv ns bss wr) (hO : Outside f wr f' wr') (hj : J' pre' f' wr') : WI v w B Bn J' pre' f' av us ass lv ns bss wr' where
  a := h.a.same (fun k hk => hO.block k (h.a.row.lt k hk).2 (h.ra k hk)) (fun u hu k hk => hO.block k (h.a.ltI hu hk).2 (h.ia u hu k hk))
  l := h.l.same (fun k hk => hO.block k (h.l.row.lt k hk).2 (h.rl k hk)) (fun u hu k hk => hO.block k (h.l.ltI hu hk).2 (h.il u hu k hk))
  al := h.al
  j := hj
  lt := hO.lt
  low := fun r hr hf => h.low r hr (hO.less r (Nat.lt_of_lt_of_le hr h.bl.size) hf)
  box := fun hf => h.box (hO.less _ h.bxlt hf)
  ra := fun k hk hf => h.ra k hk (hO.less k (h.a.row.lt k hk).2 hf)
  ia := fun u hu k hk hf => h.ia u hu k hk (hO.less k (h.a.ltI hu hk).2 hf)
  rl := fun k hk hf => h.rl k hk (hO.less k (h.l.row.lt k hk).2 hf)
  il := fun u hu k hk hf => h.il u hu k hk (hO.less k (h.l.ltI hu hk).2 hf)
  bl := ⟨hO.os.trans h.bl.os, hO.tape.trans h.bl.tape, hO.output.trans h.bl.output, Nat.le_trans h.bl.size hO.size, fun k hk => (hO.block k (Nat.lt_of_lt_of_le hk h.bl.size) (h.low k hk)).trans (h.bl.block k hk)⟩
  bx := (hO.block _ h.bxlt h.box).trans h.bx

/-- The longer ways are the next ones; a new list of longer ones is begun. -/
theorem WI.turn (h : WI v w B Bn J pre f av us ass lv ns bss wr) : WI v w B Bn J pre f lv ns bss (.slice none 0 0) [] [] wr :=
  { h with a := h.l, l := ⟨⟨rfl, .inl ⟨rfl, rfl⟩⟩, fun j u xs h => by simp at h⟩, al := fun k _ e => by simp [Value.ownBlock] at e, ra := h.rl, ia := h.il, rl := fun k e => by simp [Value.ownBlock] at e, il := fun u hu => by simp at hu }

end

/-- append of something, inside a fence. -/
theorem wpListIn_append_lies {F : Fence} {nn : Nat} {P : Program} (w : World) {ops : Array Oper} {rest : List Oper} {o : Oper} {a : Act} {Q : Exit → Act → World → Prop} (hgd : o.guard = none) (s x : Operand) (t : TypeId)
    (ho : o.op = .call { callee := .builtin .append, args := #[s, x], argTypes := #[t, t] })
    (base : Nat) (e : TypeId) (i : TypeInfo) (z : Value) (size bytes : Nat) (ht : P.underlying t = some (.slice e)) (hi : P.info? e = some i) (hz : i.zero = some z)
    (hsize : i.size = size) (hby : i.bytes = bytes) (hzs : z.cells.size = size) (hsz : 0 < size)
    (v : Value) (n : Nat) (xs : List Value) (hs : a.eval s = v) (hown : w.ownsRow base e size v n xs)
    (ad : Addr) (m c : Nat) (news : List Value) (hx : a.eval x = .slice (some ad) m c) (hl : news.length = m * size) (hnews : ∀ j u, news[j]? = some u → w.cell? (ad.add j) = some u) (h1 : ∀ u ∈ news, u.oneCell' = true)
    (hm : 0 < m) (h63 : n + m ≤ maxLen) (hbytes : (n + m) * bytes ≤ 140737488355328) (hbase : base ≤ w.heap.size)
    (h : ∀ g cap w', w'.ownsRow base e size (.slice (some ⟨g, 0, none⟩) (n + m) cap) (n + m) (xs ++ news) → w.grownBy w' v.ownBlock → (v.ownBlock = some g ∨ g = w.heap.size) → g < w'.heap.size → wpListIn F nn P ops Q rest (a.put o.dst (.slice (some ⟨g, 0, none⟩) (n + m) cap)) w') : wpListIn F nn P ops Q (o :: rest) a w := by
  refine wpListIn_plain hgd fun K hK' => ?_
  obtain ⟨g, cap, w', hr, h2, h3, h4, h5⟩ := run_append_lies (P := P) w t o.type base e i z size bytes ht hi hz hsize hby hzs hsz v n xs hown ad m c news hl hnews h1 hm h63 hbytes hbase _ rfl
  unfold Oper.wpIn
  refine ⟨?_, ?_⟩
  · simp [Oper.about, ho, resolve, Target.leads, Sem.run_pure]
  · rw [Oper.semAt_plain F _ _ (by rw [ho]; intro c hc'; cases hc')]
    simp [execOp, ho, resolve, invoke, builtin, hs, hx, hr, Result.andThen]
    exact hK' _ _ (h g cap w' h2 h3 h4 h5)

end Go.Proofs.Ytebadimjpbhagaa

/-
  impl.waysUpTo: the iterator's contract.
-/
namespace Go.Proofs.Ytebadimjpbhagaa
open Go.RowKit Go.Shelf
set_option linter.unusedVariables false
set_option maxHeartbeats 4000000
attribute [local go_sem] Oper.semAt_some

def nTo' (ss : List Stm) (m c : Nat) : List (List Int) := ((levs ss m).take c).flatMap (grow1 ss)

theorem nTo'_all (ss : List Stm) (m : Nat) : nTo' ss m (levs ss m).length = levs ss (m + 1) := by simp [nTo', levs]
theorem nTo'_next (ss : List Stm) (m c : Nat) (hc : c < (levs ss m).length) : nTo' ss m (c + 1) = nTo' ss m c ++ grow1 ss (levs ss m)[c] := by
  unfold nTo'
  rw [List.take_succ_eq_append_getElem hc, List.flatMap_append]
  simp

/-- All ways of at most m statements. -/
def allTo (ss : List Stm) : Nat → List (List Int)
  | 0 => []
  | k + 1 => allTo ss k ++ levs ss k

theorem allTo_len (ss : List Stm) : ∀ k, k ≤ 9 → (allTo ss k).length ≤ 512 * k
  | 0, _ => by simp [allTo]
  | k + 1, h => by
    have h1 := allTo_len ss k (by omega)
    have h2 := levs_small ss k (by omega)
    simp only [allTo, List.length_append]
    omega

/-- What the iterator tells of a way that it hands over. -/
def WG (x : Value × List Int) (f : Nat → Prop) (W : World) : Prop := Reads W x.1 (ints x.2) ∧ (∀ k, x.1.ownBlock = some k → ¬ f k) ∧ 0 < x.2.length ∧ x.2.length ≤ 10

end Go.Proofs.Ytebadimjpbhagaa

/-
  A region that draws its order, inside a fence, by an invariant over the set of the operations that have run.
-/
namespace Go.Proofs.Ytebadimjpbhagaa
open Go.RowKit

section
variable {F : Fence} {n : Nat} {P : Program} {ops : Array Oper} {Q : Exit → Act → World → Prop}

theorem wpIn_then {o : Oper} {a : Act} {w : World} {K : Act → World → Prop} (h : o.wpIn F n P a w K (Exit.then K Q)) : o.wpIn F n P a w K Q := by
  unfold Oper.wpIn at *
  refine ⟨h.1, ?_⟩
  have h := h.2
  generalize (o.semAt F.round a.eval).run P w = r at *
  cases r with
  | ok x w' =>
    cases x <;> simp only [Oper.uponIn] at h ⊢ <;>
      first
        | exact h
        | exact ⟨h.1, CallsIn.mono h.2 (fun e w'' he => by cases e <;> exact he)⟩
        | exact ⟨h.1, RoundIn.mono h.2 (fun e w'' he => by cases e <;> exact he)⟩
  | halt x w' => cases x <;> simp only [Oper.uponIn] at h ⊢ <;> exact h

theorem wpIn_then_mk {o : Oper} {a : Act} {w : World} {K : Act → World → Prop} (h : o.wpIn F n P a w K Q) : o.wpIn F n P a w K (Exit.then K Q) := by
  unfold Oper.wpIn at *
  refine ⟨h.1, ?_⟩
  have h := h.2
  generalize (o.semAt F.round a.eval).run P w = r at *
  cases r with
  | ok x w' =>
    cases x <;> simp only [Oper.uponIn] at h ⊢ <;>
      first
        | exact h
        | exact ⟨h.1, CallsIn.mono h.2 (fun e w'' he => by cases e <;> exact he)⟩
        | exact ⟨h.1, RoundIn.mono h.2 (fun e w'' he => by cases e <;> exact he)⟩
  | halt x w' => cases x <;> simp only [Oper.uponIn] at h ⊢ <;> exact h

theorem wpOpIn_of_list {i : Nat} {o : Oper} {a : Act} {w : World} {K : Act → World → Prop} (ho : ops[i]? = some o) (h : wpListIn F n P ops (Exit.then K Q) [o] a w) : wpOpIn F n P ops Q i K a w := by
  unfold wpOpIn
  rw [ho]
  simp only
  unfold wpListIn at h
  split
  · rename_i hw
    rw [if_pos hw] at h
    exact wpIn_then h
  · rename_i hw
    rw [if_neg hw] at h
    exact h

theorem wpListIn_mono_then {o : Oper} {a : Act} {w : World} {K K' : Act → World → Prop} (hk : ∀ a w, K a w → K' a w) (h : wpListIn F n P ops (Exit.then K Q) [o] a w) : wpListIn F n P ops (Exit.then K' Q) [o] a w := by
  unfold wpListIn at h ⊢
  split
  · rename_i hw
    rw [if_pos hw] at h
    have h3 : o.wpIn F n P a w K' Q := Oper.wpIn_mono hk (wpIn_then h)
    exact wpIn_then_mk h3
  · rename_i hw
    rw [if_neg hw] at h
    exact ⟨h.1, hk _ _ h.2⟩

theorem wpIn_region_inv {id : Nat} {a : Act} {w : World} (hm : P.follows .mixedOrders = true) (hlow : lowB ops = true) (I : (Nat → Bool) → Act → World → Prop) (h0 : I (fun _ => false) a w.drew)
    (hstep : ∀ (l : Nat → Bool) (i : Nat) (o : Oper) (a : Act) (w : World), ops[i]? = some o → I l a w → l i = false → (o.after.all fun e => !Region.binds .any e || l e.on) = true →
      wpListIn F n P ops (Exit.then (fun a' w' => I (fun j => j == i || l j) a' w') Q) [o] a w)
    (hend : ∀ (l : Nat → Bool) (a : Act) (w : World), I l a w → (∀ i, i < ops.size → l i = true) → Q .normal a w) : (Code.region id ops true).wpIn F n P Q a w := by
  refine wpIn_region_any hm ?_
  have key : ∀ (fuel : Nat) (listed : Array Bool) (a : Act) (w : World), listed.size = ops.size → listed.toList.count false ≤ fuel → I (fun j => listed.getD j false) a w → wpAnyIn F n P .any ops Q fuel listed a w := by
    intro fuel
    have fin : ∀ (listed : Array Bool) (a : Act) (w : World), listed.size = ops.size → I (fun j => listed.getD j false) a w → Region.ready .any ops listed = [] → Q .normal a w := by
      intro listed a w hs hI hnil
      refine hend _ a w hI (fun i hi => ?_)
      cases hd : listed.getD i false with
      | true => rfl
      | false => exact absurd hnil (ready_some hlow hs hi hd)
    induction fuel with
    | zero =>
      intro listed a w hs hc hI
      have hnil : Region.ready .any ops listed = [] := by
        unfold Region.ready
        rw [List.filter_eq_nil_iff]
        intro i hi
        have hi' : i < listed.size := by rw [hs]; simpa using hi
        have hne : listed[i] = true := by
          cases hb : listed[i] with
          | true => rfl
          | false =>
            have hmem : false ∈ listed.toList := by
              rw [← hb]
              exact Array.getElem_mem_toList hi'
            have := List.count_pos_iff.2 hmem
            omega
        rw [Array.getD_eq_getD_getElem?, Array.getElem?_eq_getElem hi', hne]
        simp
      exact ⟨hnil, fin listed a w hs hI hnil⟩
    | succ fuel ih =>
      intro listed a w hs hc hI
      refine ⟨fin listed a w hs hI, fun i hi => ?_⟩
      unfold Region.ready at hi
      rw [List.mem_filter] at hi
      obtain ⟨hir, hc2⟩ := hi
      have hio : i < ops.size := by simpa using hir
      have hil : i < listed.size := by omega
      rw [Array.getElem?_eq_getElem hio] at hc2
      simp only [Bool.and_eq_true, Option.map_some, Option.getD_some] at hc2
      have hf : listed[i] = false := by
        have := hc2.1
        rw [Array.getD_eq_getD_getElem?, Array.getElem?_eq_getElem hil] at this
        simpa using this
      refine wpOpIn_of_list (Array.getElem?_eq_getElem hio) ?_
      have hst := hstep (fun j => listed.getD j false) i ops[i] a w (Array.getElem?_eq_getElem hio) hI (by rw [Array.getD_eq_getD_getElem?, Array.getElem?_eq_getElem hil, hf]; rfl) hc2.2
      refine wpListIn_mono_then (fun a' w' hI' => ih _ a' w' (by simpa using hs) ?_ ?_) hst
      · have := count_set listed.toList i (by rw [Array.getElem?_toList, Array.getElem?_eq_getElem hil, hf])
        rw [Array.toList_setIfInBounds]
        omega
      · have e : (fun j => (listed.setIfInBounds i true).getD j false) = fun j => j == i || listed.getD j false := by
          funext j
          rw [Array.getD_eq_getD_getElem?, Array.getElem?_setIfInBounds, Array.getD_eq_getD_getElem?]
          by_cases hj : i = j
          · subst hj
            simp [hil]
          · rw [if_neg hj]
            have : (j == i) = false := by simp; omega
            rw [this, Bool.false_or]
        rw [e]
        exact hI'
  refine key ops.size (Array.replicate ops.size false) a _ (by simp) (by simp) ?_
  have e : (fun j => (Array.replicate ops.size false).getD j false) = fun _ => false := by
    funext j
    rw [Array.getD_eq_getD_getElem?, Array.getElem?_replicate]
    split <;> rfl
  rw [e]
  exact h0

end
end Go.Proofs.Ytebadimjpbhagaa
