/-
 Put together out of: WalksO, FindMore.
-/
import Derived.Test.YtnjbihfceckpfaaG33ListsLaw
import Derived.Test.YtnjbihfceckpfaaSpecFacts
import Derived.Test.YtnjbihfceckpfaaG46SpecEntT
/-
 FnWalks: what holds of the first places of a walk.
-/
namespace Go.Proofs.Ytnjbihfceckpfaa
open Go.RowKit
set_option linter.unusedVariables false

theorem reads2_take {w : World} {ao : Option Addr} {n i cap : Nat} {xs : List Int} (h : Reads2 w (.slice ao n cap) n (ints xs)) (hi : i ≤ n) : Reads2 w (.slice ao i cap) i (ints (xs.take (2 * i))) := by
 obtain ⟨ao', cap', e, hc⟩ := h
 injection e with e1 e2 e3
 subst e1 e3
 refine ⟨ao, cap, rfl, fun j x hx => hc j x ?_⟩
 have hj := (List.getElem?_eq_some_iff.1 hx).1
 simp only [ints, List.map_take] at hx hj ⊢
 rw [List.getElem?_take] at hx
 split at hx
 · exact hx
 · cases hx

theorem walks_round {ps : List (List Stm)} {c : Int} {xs : List Int} {n : Nat} {st : WS} {I : Nat → Nat → List Int} {E : List Int} (hst : walkA c ps xs n = some st) (hc : c = 1 ∨ c = 2) (hxs : xs.length = 2 * n) (hFA : FA ps c I E) {i : Nat} (h1 : 1 ≤ i) (hi : i ≤ n) :
 ∃ (p q : Nat) (x f : Int), ∃ hp : p < ps.length, q < ps[p].length ∧ xs[(i - 1) * 2]? = some (p : Int) ∧ xs[(i - 1) * 2 + 1]? = some (q : Int) ∧ holdA c ps (xs.take (2 * i)) i = x ∧ Small x ∧ Small f ∧ img (I p q) (E.getD p 0) = f ∧ lor x f = f ∧ x % 2 = 1 := by
 obtain ⟨ho, hn1, _, _⟩ := walkA_ok hc hst
 obtain ⟨_, _, hCP, _⟩ := okB_parts ho
 have hl1 := ok_one ho
 have hx0 : xs.getD 0 0 = 0 ∧ xs.getD 1 0 = 0 := by
  unfold walkA at hst
  split at hst
  · rename_i hh
    exact ⟨hh.2.2.2.1, hh.2.2.2.2⟩
  · cases hst
 obtain ⟨s, hs1, hs2⟩ := walkA_take hst h1 hi
 have hok := wk_ok hc hCP hl1 (i - 1) s hs2
 obtain ⟨hpl1, hpl2⟩ := wk_pl hc hCP hl1 hx0 (i - 1) s hs2
 obtain ⟨T, hT, hQ⟩ := hFA.inn
 have hIT : InT c ps T I := hQ
 obtain ⟨hsub, hz⟩ := walk_facts hIT hc hCP hl1 hT hFA.ent hs2
 have hqi := hok.i
 rw [getD_ps hok.p] at hqi
 have hsm : Small (img (I s.p s.i) (E.getD s.p 0)) := img_small (hIT.good hok.p hqi) _
 have e1 : xs[(i - 1) * 2]? = some (s.p : Int) := by
  rw [hpl1, List.getD_eq_getElem?_getD, List.getElem?_eq_getElem (by omega)]; rfl
 have e2 : xs[(i - 1) * 2 + 1]? = some (s.i : Int) := by
  rw [hpl2, List.getD_eq_getElem?_getD, List.getElem?_eq_getElem (by omega)]; rfl
 refine ⟨s.p, s.i, s.h, _, hok.p, hqi, e1, e2, ?_, hok.h, hsm, rfl, lor_of_sub hok.h hsm hsub, odd_of_bit hok.h hz⟩
 unfold holdA
 rw [if_pos hc, hs1]

end Go.Proofs.Ytnjbihfceckpfaa

/-
 Chapter 11: more of maps and sets in memory, for findingsOf.
-/
namespace Go.Proofs.Ytnjbihfceckpfaa
open Go.RowKit
open Go.WideElems (rg)
set_option linter.unusedVariables false
set_option linter.unusedSimpArgs false
set_option maxHeartbeats 1000000
set_option maxRecDepth 20000

/-- How many keys block B has; what the entries of block G are. -/
def mapN (w : World) (B : Nat) : Nat := match w.heap[B]? with | some (.map es _) => es.size | _ => 0
def entsOf (w : World) (G : Nat) : List Int := (List.range 4).map fun i => intOf ((w.cell? ⟨G, 337 + i, none⟩).getD undef)

theorem FB.ents {w : World} {G : Nat} {v : Value} {gs : List (List Int)} {E : List Int} {A W : Nat} (h : FB w G v gs E A W) (hr : Rows7 48 gs) (hE : E.length = 4) : entsOf w G = E := by
 refine List.ext_getElem (by simp [entsOf, hE]) (fun i h1 h2 => ?_)
 have hi : i < 4 := by omega
 simp [entsOf, h.ent hr hE hi, intOf, List.getD, hE, hi]

theorem MapAt.count {w : World} {B n : Nat} {f : Int → Int → Option Int} (h : MapAt w B n f) : (∀ ty, (Builtin.len_ #[71] ty #[.map (some B)]).run Try.prog w = .ok (.int .i64 (mapN w B : Int)) w) ∧ (mapN w B = 0 → ∀ i k, Wf i → Wf k → f i k = none) ∧ ((∀ i k, Wf i → Wf k → f i k = none) → mapN w B = 0) := by
 obtain ⟨m, h1, _, h2, h3⟩ := h.len
 have e : mapN w B = m := by
  obtain ⟨D, ⟨es, clock, hb, F, hs, rfl⟩, hR⟩ := h
  have a := h1 0
  have b := World.ownsMap.len (H := Unit) (ty := 0) ⟨es, clock, hb, F, hs, rfl⟩ Try.underlying71
  rw [a] at b
  have c := Maps.size_eq ((es.toList.map (rg Try.prog 56 (plainElem (H := Unit) Try.prog 2))).foldr DataW.insert [])
  rw [length_sorted] at c
  simp at b
  unfold mapN
  rw [hb]
  have : (m : Int) = (Maps.size (DataW.map ((es.toList.map (rg Try.prog 56 (plainElem (H := Unit) Try.prog 2))).foldr DataW.insert [])) : Nat) := b
  rw [c] at this
  simp at this
  simp only
  omega
 rw [e]
 refine ⟨h1, h2, fun hn => Classical.byContradiction fun h0 => ?_⟩
 obtain ⟨i, k, hi, hk, hs⟩ := h3 h0
 rw [hn i k hi hk] at hs
 cases hs

/-- The set of sets that go in, as it lies in memory. -/
def Ent4 (w : World) (B : Nat) (L : List Int) : Prop := w.heap[B]? = some (.cells (ints L).toArray 69 (0, 0))
theorem Ent4.lt {w : World} {B : Nat} {L : List Int} (h : Ent4 w B L) : B < w.heap.size := (Array.getElem?_eq_some_iff.1 h).1
theorem Ent4.same {w w' : World} {B : Nat} {L : List Int} (h : Ent4 w B L) (hb : w'.heap[B]? = w.heap[B]?) : Ent4 w' B L := hb.trans h
theorem Ent4.below {w w' : World} {B : Nat} {L : List Int} (h : Ent4 w B L) (hb : Below w.heap.size w w') : Ent4 w' B L := h.same (hb.block B h.lt)
theorem Ent4.cell {w : World} {B : Nat} {L : List Int} (h : Ent4 w B L) {j : Nat} (hj : j < L.length) : w.cell? ⟨B, j, none⟩ = some (.int .i64 (L.getD j 0)) := by
 rw [cell_of_row w B j _ _ (0, 0) h]
 simp [ints, List.getD, hj]
theorem Ent4.frozen {w : World} {B : Nat} {L : List Int} (h : Ent4 w B L) (j : Nat) : w.frozen? ⟨B, j, none⟩ = false := by
 unfold World.frozen?
 rw [show w.heap[(⟨B, j, none⟩ : Addr).block]? = _ from h]
 simp
theorem Ent4.set {w : World} {B : Nat} {L : List Int} (h : Ent4 w B L) (j : Nat) (x : Int) : Ent4 (w.setCell ⟨B, j, none⟩ (.int .i64 x)) B (L.set j x) := by
 have := heap_setCell_same w B j _ _ (.int .i64 x) h
 show (w.setCell ⟨B, j, none⟩ (.int .i64 x)).heap[B]? = _
 rw [this]
 simp [ints, List.map_set]

theorem wpList_nextM {ops : Array Oper} {rest : List Oper} {d : Option Tmp} {x : Operand} {ty : TypeId} {pos : String} {af : Array Edge} {a : Act} {w : World} {Q : Exit → Act → World → Prop}
 (B r n : Nat) (f : Int → Int → Option Int) (lf : Int → Int → Bool) (cnt : Nat) (hx : a.eval x = .pointer (some ⟨r, 0, none⟩)) (h : RanM w B r n f lf cnt)
 (hDone : (∀ i k, Wf i → Wf k → lf i k = false) → wpList Try.prog ops Q rest (a.put d (.tuple #[.bool false])) w)
 (hMore : ∀ (i k x : Int) (w' : World) (cnt' : Nat), Wf i → Wf k → Wf x → lf i k = true → f i k = some x → RanM w' B r n f (fun i' k' => lf i' k' && !decide (i' = i ∧ k' = k)) cnt' → cnt' < cnt → w.grownBy w' (some r) → w'.heap.size = w.heap.size → (Instr.entry (.pointer (some ⟨r, 0, none⟩))).run Try.prog w' = .ok (.tuple #[.agg #[.int .i64 i, .int .i64 k], .int .i64 x]) w' →
  wpList Try.prog ops Q rest (a.put d (.tuple #[.bool true, .agg #[.int .i64 i, .int .i64 k], .int .i64 x])) w') :
 wpList Try.prog ops Q ({ dst := d, op := .next x false, type := ty, pos := pos, after := af, guard := none } :: rest) a w := by
 refine wpList_plain rfl fun K' hK' => ?_
 unfold Oper.wp
 rcases h.next ty with ⟨h0, hrun⟩ | ⟨i, k, y, w', cnt', hi, hk, hy, hl, hf, hrun, hrg, hlt, hgr, hsz, hen⟩
 · simp [execOp, hx, hrun, Result.andThen]
   exact hK' _ _ (hDone h0)
 · unfold plV at hrun hen
   simp [execOp, hx, hrun, Result.andThen]
   exact hK' _ _ (hMore i k y w' cnt' hi hk hy hl hf hrg hlt hgr hsz hen)

end Go.Proofs.Ytnjbihfceckpfaa
