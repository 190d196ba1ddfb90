/-
  Put together out of: FactsM, SpecEntT, SpecFacts, WalksO, FindMore.
-/
import Derived.Test.YtfonabkhpjcbmaaImplNoFind
import Derived.Test.YtfonabkhpjcbmaaG38EntP
import Derived.Test.YtfonabkhpjcbmaaG37TabSt
import Derived.Test.YtfonabkhpjcbmaaWalksM
/-
  Chapter 11, mathematics: what the functions of the chapter answer.
-/
namespace Go.Proofs.Ytfonabkhpjcbmaa
open Go.RowKit
set_option linter.unusedVariables false
set_option maxHeartbeats 1000000

theorem goesIn_congr {c : Int} {I J : Nat → Nat → List Int} {E : List Int} {i k : Nat} (h : I i k = J i k) : goesIn c I E i k = goesIn c J E i k := by unfold goesIn; rw [h]

theorem IsEnt.congr {c : Int} {ps : List (List Stm)} {I J : Nat → Nat → List Int} (h : ∀ i (hi : i < ps.length) k, k < ps[i].length → I i k = J i k) {E : List Int} (hE : IsEnt c ps I E) : IsEnt c ps J E := by
  have cl : ∀ {I J : Nat → Nat → List Int}, (∀ i (hi : i < ps.length) k, k < ps[i].length → I i k = J i k) → ∀ F, CloE c ps I F → CloE c ps J F := fun {I J} h F hF => ⟨hF.1, fun i hi k hk h8 => by
    rw [← goesIn_congr (h i hi k hk)]; exact hF.2 i hi k hk h8⟩
  exact ⟨hE.small, cl h E hE.clo, fun F hF hcl => hE.low F hF (cl (fun i hi k hk => (h i hi k hk).symm) F hcl)⟩

theorem ini_some {c : Int} (hc : c = 1 ∨ c = 2) {ps : List (List Stm)} (hp : CanP ps) : ∃ I, InI c ps I := by
  obtain ⟨T, _, hT⟩ := tables_some hc hp
  have h : ∀ a (ha : a < ps.length), ∃ R, IsInner (effN c T ps[a]) ps[a] R := fun a ha => by
    obtain ⟨R, _, h⟩ := inner_some (hp a ha).1 (fun j hj => effN_smalls hc hp hT.good ha hj)
    exact ⟨R, h⟩
  refine ⟨fun a k => if ha : a < ps.length then (Classical.choose (h a ha)).getD k [] else [], T, hT, fun a ha => ⟨Classical.choose (h a ha), Classical.choose_spec (h a ha), fun k hk => ?_⟩⟩
  simp only [dif_pos ha]

/-- The relations and the sets at the entries. -/
structure FA (ps : List (List Stm)) (c : Int) (I : Nat → Nat → List Int) (E : List Int) : Prop where
  inn : InI c ps I
  len : E.length = ps.length
  ent : IsEnt c ps I E

theorem ok_one {ps : List (List Stm)} {c : Int} (h : okB ps c = true) : 1 ≤ ps.length := by
  unfold okB programOk at h
  simp only [Bool.and_eq_true, decide_eq_true_eq] at h
  omega

theorem fa_some {ps : List (List Stm)} {c : Int} (h : okB ps c = true) : ∃ I E, FA ps c I E := by
  obtain ⟨_, hc, hp, _⟩ := okB_parts h
  obtain ⟨I, hI⟩ := ini_some hc hp
  obtain ⟨E, h1, h2⟩ := ent_some hc hp (ok_one h) hI.good
  exact ⟨I, E, hI, h1, h2⟩

theorem FA.eq {ps : List (List Stm)} {c : Int} (hp : CanP ps) {I J : Nat → Nat → List Int} {E F : List Int} (h : FA ps c I E) (hJ : InI c ps J) (hF : IsEnt c ps J F) {i : Nat} (hi : i < ps.length) : F.getD i 0 = E.getD i 0 :=
  (hF.congr (fun i hi k hk => hJ.uniq hp h.inn hi hk)).uniq h.ent hi

theorem InI.inner {c : Int} {ps : List (List Stm)} (hp : CanP ps) {I : Nat → Nat → List Int} (h : InI c ps I) {T : List (List Int)} (hT : IsTables c ps T) (i : Nat) (hi : i < ps.length) (R : List (List Int)) (hR : IsInner (effN c T ps[i]) ps[i] R) (k : Nat) (hk : k < ps[i].length) : R.getD k [] = I i k := by
  obtain ⟨U, hU, hQ⟩ := h
  obtain ⟨Q, q1, q2⟩ := hQ i hi
  rw [q2 k hk]
  have q1' : IsInner (effN c T ps[i]) ps[i] Q := inner_eq (fun j hj => by
    rw [effN_eq hj, effN_eq hj]
    exact effL_eq (fun a ha => hU.uniq hT ha) ((hp i hi).2 _ (List.getElem_mem hj))) q1
  exact hR.uniq q1' hk

/-- What Entries answers. -/
def EntA (ps : List (List Stm)) (c : Int) (A : List Int) : Prop := (okB ps c = true → ∃ I, FA ps c I A) ∧ (okB ps c = false → A = [])

theorem entA_some (ps : List (List Stm)) (c : Int) : ∃ A, EntA ps c A := by
  cases h : okB ps c with
  | false => exact ⟨[], by simp [h], fun _ => rfl⟩
  | true =>
    obtain ⟨I, E, hE⟩ := fa_some h
    exact ⟨E, fun _ => ⟨I, hE⟩, by simp [h]⟩

theorem entA_len {ps : List (List Stm)} {c : Int} {A : List Int} (h : EntA ps c A) : A.length ≤ 4 := by
  cases ho : okB ps c with
  | false => rw [h.2 ho]; simp
  | true =>
    obtain ⟨I, hI⟩ := h.1 ho
    have := (okB_parts ho).2.2.2
    rw [hI.len]; exact this

/-- The facts of a procedure; of all. -/
def rowF (I : Nat → Nat → List Int) (E : List Int) (i n : Nat) : List Int := (List.range n).map fun k => img (I i k) (E.getD i 0)
def factL (ps : List (List Stm)) (I : Nat → Nat → List Int) (E : List Int) : List (List Int) := (List.range ps.length).map fun i => rowF I E i (ps.getD i []).length

/-- What Facts answers. -/
def FactA (ps : List (List Stm)) (c : Int) (A : List (List Int)) : Prop := (okB ps c = true → ∃ I E, FA ps c I E ∧ A = factL ps I E) ∧ (okB ps c = false → A = [])

theorem factA_some (ps : List (List Stm)) (c : Int) : ∃ A, FactA ps c A := by
  cases h : okB ps c with
  | false => exact ⟨[], by simp [h], fun _ => rfl⟩
  | true =>
    obtain ⟨I, E, hE⟩ := fa_some h
    exact ⟨factL ps I E, fun _ => ⟨I, E, hE, rfl⟩, by simp [h]⟩

theorem factA_len {ps : List (List Stm)} {c : Int} {A : List (List Int)} (h : FactA ps c A) : A.length ≤ 12 ∧ ∀ xs ∈ A, xs.length ≤ 1000 := by
  cases ho : okB ps c with
  | false => rw [h.2 ho]; simp
  | true =>
    obtain ⟨I, E, hI, rfl⟩ := h.1 ho
    obtain ⟨_, _, hp, h4⟩ := okB_parts ho
    refine ⟨by simp [factL]; omega, fun xs hx => ?_⟩
    unfold factL at hx
    rw [List.mem_map] at hx
    obtain ⟨i, hi, rfl⟩ := hx
    have hi : i < ps.length := by simpa using hi
    have := (procOk_parts (hp i hi).1).2.1
    simp [rowF, List.getD, hi]
    omega

theorem factL_get {ps : List (List Stm)} {I : Nat → Nat → List Int} {E : List Int} {i : Nat} (hi : i < ps.length) : (factL ps I E)[i]? = some (rowF I E i ps[i].length) := by
  simp [factL, hi, List.getD]

theorem FA.rows {ps : List (List Stm)} {c : Int} (hp : CanP ps) {I J : Nat → Nat → List Int} {E F : List Int} (h : FA ps c I E) (hJ : InI c ps J) (hF : IsEnt c ps J F) {i : Nat} (hi : i < ps.length) {k : Nat} (hk : k < ps[i].length) : img (J i k) (F.getD i 0) = img (I i k) (E.getD i 0) := by
  rw [h.eq hp hJ hF hi, hJ.uniq hp h.inn hi hk]

end Go.Proofs.Ytfonabkhpjcbmaa

/-
  Chapter 11, the specification's side: Entries.
-/
namespace Go.Proofs.Ytfonabkhpjcbmaa
open Go.RowKit
set_option linter.unusedVariables false
set_option linter.unusedSimpArgs false
set_option maxHeartbeats 4000000
set_option maxRecDepth 20000

theorem ents_eq {ps : List (List Stm)} {c : Int} {I : Nat → Nat → List Int} {A E : List Int} (hI : FA ps c I A) (hEl : E.length = ps.length) (hE : IsEnt c ps I E) : A = E := List.ext_getElem (by rw [hI.len, hEl]) (fun i h1' h2' => by
  have := hI.ent.uniq hE (i := i) (by rw [hI.len] at h1'; exact h1')
  simpa [List.getD, h1', h2'] using this)

end Go.Proofs.Ytfonabkhpjcbmaa

/-
  Chapter 11, the specification's side: l11Facts, Facts.
-/
namespace Go.Proofs.Ytfonabkhpjcbmaa
open Go.RowKit
set_option linter.unusedVariables false
set_option linter.unusedSimpArgs false
set_option maxHeartbeats 4000000
set_option maxRecDepth 20000

theorem rowF_len (I : Nat → Nat → List Int) (E : List Int) (i n : Nat) : (rowF I E i n).length = n := by simp [rowF]
theorem rowF_take (I : Nat → Nat → List Int) (E : List Int) (i n : Nat) {k : Nat} (hk : k < n) : (rowF I E i n).take (k + 1) = (rowF I E i n).take k ++ [img (I i k) (E.getD i 0)] := by
  rw [List.take_succ_eq_append_getElem (by rw [rowF_len]; exact hk)]
  simp [rowF]
theorem factL_len (ps : List (List Stm)) (I : Nat → Nat → List Int) (E : List Int) : (factL ps I E).length = ps.length := by simp [factL]
theorem factL_take (ps : List (List Stm)) (I : Nat → Nat → List Int) (E : List Int) {i : Nat} (hi : i < ps.length) : (factL ps I E).take (i + 1) = (factL ps I E).take i ++ [rowF I E i ps[i].length] := by
  rw [List.take_succ_eq_append_getElem (by rw [factL_len]; exact hi)]
  simp [factL, List.getD, hi]

theorem one_slice {w : World} {base : Nat} {e : TypeId} {v : Value} {n : Nat} {xs : List Value} (h : w.ownsRow base e 1 v n xs) : ∀ y ∈ [v], y.oneCell' = true := by
  rcases h.2 with ⟨rfl, _⟩ | ⟨g, cap, cur, rfl, _⟩ <;> simp [Value.oneCell']

end Go.Proofs.Ytfonabkhpjcbmaa

/-
  FnWalks: what holds of the first places of a walk.
-/
namespace Go.Proofs.Ytfonabkhpjcbmaa
open Go.RowKit
set_option linter.unusedVariables false

theorem reads2_take {w : World} {ao : Option Addr} {n i cap : Nat} {xs : List Int} (h : Reads2 w (.slice ao n cap) n (ints xs)) (hi : i ≤ n) : Reads2 w (.slice ao i cap) i (ints (xs.take (2 * i))) := by
  obtain ⟨ao', cap', e, hc⟩ := h
  injection e with e1 e2 e3
  subst e1 e3
  refine ⟨ao, cap, rfl, fun j x hx => hc j x ?_⟩
  have hj := (List.getElem?_eq_some_iff.1 hx).1
  simp only [ints, List.map_take] at hx hj ⊢
  rw [List.getElem?_take] at hx
  split at hx
  · exact hx
  · cases hx

theorem walks_round {ps : List (List Stm)} {c : Int} {xs : List Int} {n : Nat} {st : WS} {I : Nat → Nat → List Int} {E : List Int} (hst : walkA c ps xs n = some st) (hc : c = 1 ∨ c = 2) (hxs : xs.length = 2 * n) (hFA : FA ps c I E) {i : Nat} (h1 : 1 ≤ i) (hi : i ≤ n) :
    ∃ (p q : Nat) (x f : Int), ∃ hp : p < ps.length, q < ps[p].length ∧ xs[(i - 1) * 2]? = some (p : Int) ∧ xs[(i - 1) * 2 + 1]? = some (q : Int) ∧ holdA c ps (xs.take (2 * i)) i = x ∧ Small x ∧ Small f ∧ img (I p q) (E.getD p 0) = f ∧ lor x f = f ∧ x % 2 = 1 := by
  obtain ⟨ho, hn1, _, _⟩ := walkA_ok hc hst
  obtain ⟨_, _, hCP, _⟩ := okB_parts ho
  have hl1 := ok_one ho
  have hx0 : xs.getD 0 0 = 0 ∧ xs.getD 1 0 = 0 := by
    unfold walkA at hst
    split at hst
    · rename_i hh
      exact ⟨hh.2.2.2.1, hh.2.2.2.2⟩
    · cases hst
  obtain ⟨s, hs1, hs2⟩ := walkA_take hst h1 hi
  have hok := wk_ok hc hCP hl1 (i - 1) s hs2
  obtain ⟨hpl1, hpl2⟩ := wk_pl hc hCP hl1 hx0 (i - 1) s hs2
  obtain ⟨T, hT, hQ⟩ := hFA.inn
  have hIT : InT c ps T I := hQ
  obtain ⟨hsub, hz⟩ := walk_facts hIT hc hCP hl1 hT hFA.ent hs2
  have hqi := hok.i
  rw [getD_ps hok.p] at hqi
  have hsm : Small (img (I s.p s.i) (E.getD s.p 0)) := img_small (hIT.good hok.p hqi) _
  have e1 : xs[(i - 1) * 2]? = some (s.p : Int) := by
    rw [hpl1, List.getD_eq_getElem?_getD, List.getElem?_eq_getElem (by omega)]; rfl
  have e2 : xs[(i - 1) * 2 + 1]? = some (s.i : Int) := by
    rw [hpl2, List.getD_eq_getElem?_getD, List.getElem?_eq_getElem (by omega)]; rfl
  refine ⟨s.p, s.i, s.h, _, hok.p, hqi, e1, e2, ?_, hok.h, hsm, rfl, lor_of_sub hok.h hsm hsub, odd_of_bit hok.h hz⟩
  unfold holdA
  rw [if_pos hc, hs1]

end Go.Proofs.Ytfonabkhpjcbmaa

/-
  Chapter 11: more of maps and sets in memory, for findingsOf.
-/
namespace Go.Proofs.Ytfonabkhpjcbmaa
open Go.RowKit
open Go.WideElems (rg)
set_option linter.unusedVariables false
set_option linter.unusedSimpArgs false
set_option maxHeartbeats 1000000
set_option maxRecDepth 20000

/-- How many keys block B has; what the entries of block G are. -/
def mapN (w : World) (B : Nat) : Nat := match w.heap[B]? with | some (.map es _) => es.size | _ => 0
def entsOf (w : World) (G : Nat) : List Int := (List.range 4).map fun i => intOf ((w.cell? ⟨G, 337 + i, none⟩).getD undef)

theorem FB.ents {w : World} {G : Nat} {v : Value} {gs : List (List Int)} {E : List Int} {A W : Nat} (h : FB w G v gs E A W) (hr : Rows7 48 gs) (hE : E.length = 4) : entsOf w G = E := by
  refine List.ext_getElem (by simp [entsOf, hE]) (fun i h1 h2 => ?_)
  have hi : i < 4 := by omega
  simp [entsOf, h.ent hr hE hi, intOf, List.getD, hE, hi]

theorem MapAt.count {w : World} {B n : Nat} {f : Int → Int → Option Int} (h : MapAt w B n f) : (∀ ty, (Builtin.len_ #[65] ty #[.map (some B)]).run Try.prog w = .ok (.int .i64 (mapN w B : Int)) w) ∧ (mapN w B = 0 → ∀ i k, Wf i → Wf k → f i k = none) ∧ ((∀ i k, Wf i → Wf k → f i k = none) → mapN w B = 0) := by
  obtain ⟨m, h1, _, h2, h3⟩ := h.len
  have e : mapN w B = m := by
    obtain ⟨D, ⟨es, clock, hb, F, hs, rfl⟩, hR⟩ := h
    have a := h1 0
    have b := World.ownsMap.len (H := Unit) (ty := 0) ⟨es, clock, hb, F, hs, rfl⟩ Try.underlying65
    rw [a] at b
    have c := Maps.size_eq ((es.toList.map (rg Try.prog 35 (plainElem (H := Unit) Try.prog 2))).foldr DataW.insert [])
    rw [length_sorted] at c
    simp at b
    unfold mapN
    rw [hb]
    have : (m : Int) = (Maps.size (DataW.map ((es.toList.map (rg Try.prog 35 (plainElem (H := Unit) Try.prog 2))).foldr DataW.insert [])) : Nat) := b
    rw [c] at this
    simp at this
    simp only
    omega
  rw [e]
  refine ⟨h1, h2, fun hn => Classical.byContradiction fun h0 => ?_⟩
  obtain ⟨i, k, hi, hk, hs⟩ := h3 h0
  rw [hn i k hi hk] at hs
  cases hs

/-- The set of sets that go in, as it lies in memory. -/
def Ent4 (w : World) (B : Nat) (L : List Int) : Prop := w.heap[B]? = some (.cells (ints L).toArray 63 (0, 0))
theorem Ent4.lt {w : World} {B : Nat} {L : List Int} (h : Ent4 w B L) : B < w.heap.size := (Array.getElem?_eq_some_iff.1 h).1
theorem Ent4.same {w w' : World} {B : Nat} {L : List Int} (h : Ent4 w B L) (hb : w'.heap[B]? = w.heap[B]?) : Ent4 w' B L := hb.trans h
theorem Ent4.below {w w' : World} {B : Nat} {L : List Int} (h : Ent4 w B L) (hb : Below w.heap.size w w') : Ent4 w' B L := h.same (hb.block B h.lt)
theorem Ent4.cell {w : World} {B : Nat} {L : List Int} (h : Ent4 w B L) {j : Nat} (hj : j < L.length) : w.cell? ⟨B, j, none⟩ = some (.int .i64 (L.getD j 0)) := by
  rw [cell_of_row w B j _ _ (0, 0) h]
  simp [ints, List.getD, hj]
theorem Ent4.frozen {w : World} {B : Nat} {L : List Int} (h : Ent4 w B L) (j : Nat) : w.frozen? ⟨B, j, none⟩ = false := by
  unfold World.frozen?
  rw [show w.heap[(⟨B, j, none⟩ : Addr).block]? = _ from h]
  simp
theorem Ent4.set {w : World} {B : Nat} {L : List Int} (h : Ent4 w B L) (j : Nat) (x : Int) : Ent4 (w.setCell ⟨B, j, none⟩ (.int .i64 x)) B (L.set j x) := by
  have := heap_setCell_same w B j _ _ (.int .i64 x) h
  show (w.setCell ⟨B, j, none⟩ (.int .i64 x)).heap[B]? = _
  rw [this]
  simp [ints, List.map_set]

theorem wpList_nextM {ops : Array Oper} {rest : List Oper} {d : Option Tmp} {x : Operand} {ty : TypeId} {pos : String} {af : Array Edge} {a : Act} {w : World} {Q : Exit → Act → World → Prop}
    (B r n : Nat) (f : Int → Int → Option Int) (lf : Int → Int → Bool) (cnt : Nat) (hx : a.eval x = .pointer (some ⟨r, 0, none⟩)) (h : RanM w B r n f lf cnt)
    (hDone : (∀ i k, Wf i → Wf k → lf i k = false) → wpList Try.prog ops Q rest (a.put d (.tuple #[.bool false])) w)
    (hMore : ∀ (i k x : Int) (w' : World) (cnt' : Nat), Wf i → Wf k → Wf x → lf i k = true → f i k = some x → RanM w' B r n f (fun i' k' => lf i' k' && !decide (i' = i ∧ k' = k)) cnt' → cnt' < cnt → w.grownBy w' (some r) → w'.heap.size = w.heap.size → (Instr.entry (.pointer (some ⟨r, 0, none⟩))).run Try.prog w' = .ok (.tuple #[.agg #[.int .i64 i, .int .i64 k], .int .i64 x]) w' →
      wpList Try.prog ops Q rest (a.put d (.tuple #[.bool true, .agg #[.int .i64 i, .int .i64 k], .int .i64 x])) w') :
    wpList Try.prog ops Q ({ dst := d, op := .next x false, type := ty, pos := pos, after := af, guard := none } :: rest) a w := by
  refine wpList_plain rfl fun K' hK' => ?_
  unfold Oper.wp
  rcases h.next ty with ⟨h0, hrun⟩ | ⟨i, k, y, w', cnt', hi, hk, hy, hl, hf, hrun, hrg, hlt, hgr, hsz, hen⟩
  · simp [execOp, hx, hrun, Result.andThen]
    exact hK' _ _ (hDone h0)
  · unfold plV at hrun hen
    simp [execOp, hx, hrun, Result.andThen]
    exact hK' _ _ (hMore i k y w' cnt' hi hk hy hl hf hrg hlt hgr hsz hen)

end Go.Proofs.Ytfonabkhpjcbmaa
