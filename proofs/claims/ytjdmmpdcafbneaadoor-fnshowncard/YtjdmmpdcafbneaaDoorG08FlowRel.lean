/-
  Put together out of: SpecRel, RelA, ImplRel, RelTop, FlowM, FlowTop, FlowRel.
-/
import Derived.Test.YtjdmmpdcafbneaaDoorG07RelM
import Derived.Deep.AppendLies
import Derived.Deep.RegionHeld3
import Derived.Deep.WholeRow
import Derived.Deep.MidRow
import Derived.ChangeKeysEq
import Derived.Laws.Cover3
import Derived.Test.YtjdmmpdcafbneaaDoorRegionInv
import Derived.Laws.EntriesVeiled
/-
  Chapter 6, the specification's side: l6Image, Image, l6Compose, l6Join, Compose, Join, Within, Unit.
-/
namespace Go.Proofs.YtjdmmpdcafbneaaDoor
open Go.RowKit
set_option linter.unusedVariables false
set_option maxHeartbeats 1000000



theorem comp_take {xs ys : List Int} {k : Nat} (h : k < xs.length) : (comp xs ys).take (k + 1) = (comp xs ys).take k ++ [img ys (xs.getD k 0)] := by
  rw [List.take_add_one]
  simp [comp, List.getD, h]

theorem joi_take {xs ys : List Int} {k : Nat} (h : k < xs.length) (h' : k < ys.length) : (joi xs ys).take (k + 1) = (joi xs ys).take k ++ [lor (xs.getD k 0) (ys.getD k 0)] := by
  rw [List.take_add_one]
  simp [joi, List.getD, h, h', List.getElem?_zipWith]

theorem ints_append (xs ys : List Int) : ints (xs ++ ys) = ints xs ++ ints ys := by simp [ints]

theorem getD_int {w : World} {ao : Option Addr} {xs : List Int} (hc : ∀ (j : Nat) (x : Value), (ints xs)[j]? = some x → ∃ g off, ao = some ⟨g, off, none⟩ ∧ w.cell? ⟨g, off + j, none⟩ = some x) {k : Nat} (h : k < xs.length) :
    ∃ g off, ao = some ⟨g, off, none⟩ ∧ w.cell? ⟨g, off + k, none⟩ = some (.int .i64 (xs.getD k 0)) := hc k _ (by simp [ints, List.getD, h])





theorem list_ext_take {xs ys : List Int} {k : Nat} (hk : k < xs.length) (hl : xs.length = ys.length) (h : xs.take k = ys.take k) (hx : xs.getD k 0 = ys.getD k 0) : xs.take (k + 1) = ys.take (k + 1) := by
  have hk' : k < ys.length := by omega
  rw [List.take_add_one, List.take_add_one, h, List.getElem?_eq_getElem hk, List.getElem?_eq_getElem hk']
  simp [List.getD, hk, hk'] at hx
  rw [hx]

theorem list_ne_get {xs ys : List Int} {k : Nat} (hx : ¬ xs.getD k 0 = ys.getD k 0) : ¬ xs = ys := fun h => hx (by rw [h])




end Go.Proofs.YtjdmmpdcafbneaaDoor

/-
  Chapter 6: relations as arrays of seven numbers: loaded, stored, indexed, compared.
-/
namespace Go.Proofs.YtjdmmpdcafbneaaDoor
set_option maxRecDepth 100000
open Go.RowKit
set_option linter.unusedVariables false
set_option maxHeartbeats 1000000

/-- A relation as a value. -/
def relV (xs : List Int) : Value := .agg (ints xs).toArray

theorem ints_one (xs : List Int) : (ints xs).toArray.all (·.oneCell') = true := all_oneCell_toArray (fun v hv => ints_oneCell xs v hv)

theorem rangeR_new (w : World) (cs : List Value) (t : TypeId) : (w.alloc (.cells cs.toArray t)).rangeAt w.heap.size 0 cs := fun j v hv => by
  rw [Nat.zero_add, cell_of_row _ _ j _ t (0, 0) (heap_alloc_last w _)]
  simpa using hv

theorem bodyPost_cellR {fn : Func} {p : Tmp} {ty : TypeId} {R : Ending → World → Prop} {a : Act} {w : World} (h : fn.results = #[.cell p ty]) (b o : Nat) (cs : List Value) (d : TypeDesc)
    (hp : a.tmps.getD p undef = .pointer (some ⟨b, o, none⟩)) (hc : w.rangeAt b o cs) (hu : Tryd.prog.underlying ty = some d) (hd : d.isRow = true) (hi : (Tryd.prog.info? ty).map (·.size) = some cs.length)
    (hdf : a.defers = []) (hR : R (.returned (.agg cs.toArray)) w) : bodyPost Tryd.prog fn R .ret a w := by
  refine bodyPost_ret (v := .agg cs.toArray) ?_ hdf hR
  simp only [results, h]
  simp [Sem.run_bind, Result.andThen, asAddr]
  rw [← Array.getD_eq_getD_getElem?, hp]
  simp [run_loadVar_mid w b o ty cs d hc hu hd hi]

theorem run_eqInts (d : Nat) (w : World) (bs cs : List Int) : ∀ is : List Nat, (∀ i ∈ is, i < bs.length ∧ i < cs.length) →
    (Op.eqItems (d + 1) 2 1 (ints bs).toArray (ints cs).toArray is).run Tryd.prog w = .ok (is.all (fun i => decide (bs.getD i 0 = cs.getD i 0))) w
  | [], _ => by simp [Op.eqItems]
  | i :: is, h => by
    obtain ⟨h1, h2⟩ := h i (by simp)
    have ih := run_eqInts d w bs cs is (fun j hj => h j (by simp [hj]))
    have hu : Tryd.prog.underlying 2 = some (.int .i64) := by kernel_rfl
    have p1 : (part 2 (ints bs).toArray (i * 1)).run Tryd.prog w = .ok (.int .i64 bs[i]) w := by
      simp [part, isAgg, run_underlying hu, h1, ints]
    have p2 : (part 2 (ints cs).toArray (i * 1)).run Tryd.prog w = .ok (.int .i64 cs[i]) w := by
      simp [part, isAgg, run_underlying hu, h2, ints]
    have p3 : (Op.equalIn (d + 1) 2 (.int .i64 bs[i]) (.int .i64 cs[i])).run Tryd.prog w = .ok (decide (bs[i] = cs[i])) w := by
      simp [Op.equalIn, run_underlying hu]
      rw [Bool.eq_iff_iff]; simp
    have e1 : bs.getD i 0 = bs[i] := by simp [List.getD, h1]
    have e2 : cs.getD i 0 = cs[i] := by simp [List.getD, h2]
    simp only [Op.eqItems, Sem.run_bind, p1, p2, p3, Result.andThen_ok, List.all_cons, e1, e2]
    cases hb : (decide (bs[i] = cs[i]))
    · simp
    · simpa using ih

theorem list7 {L M : List Int} (hl : L.length = 7) (hm : M.length = 7) (h : ∀ j, j < 7 → L.getD j 0 = M.getD j 0) : L = M := by
  refine List.ext_getElem (by omega) (fun j h1 h2 => ?_)
  have := h j (by omega)
  simpa [List.getD, h1, h2] using this

end Go.Proofs.YtjdmmpdcafbneaaDoor

/-
  Chapter 6, the program's side: relation's methods; Image, Compose, Join, Within, Unit.
-/
namespace Go.Proofs.YtjdmmpdcafbneaaDoor
open Go.RowKit
set_option linter.unusedVariables false
set_option maxHeartbeats 1000000

theorem heap_setCells7 (b : Nat) (t : TypeId) : ∀ (vs : List Value) (o : Nat) (w : World) (C : Array Value), w.heap[b]? = some (.cells C t (0, 0)) → ∃ C' : Array Value, (w.setCells b o vs).heap[b]? = some (.cells C' t (0, 0)) ∧ C'.size = C.size
  | [], o, w, C, h => ⟨C, h, rfl⟩
  | v :: r, o, w, C, h => by
    rw [World.setCells]
    obtain ⟨C', h1, h2⟩ := heap_setCells7 b t r (o + 1) _ _ (heap_setCell_same w b o C t v h)
    exact ⟨C', h1, by simpa using h2⟩

theorem zeros7 : (#[.int .i64 0, .int .i64 0, .int .i64 0, .int .i64 0, .int .i64 0, .int .i64 0, .int .i64 0] : Array Value) = (ints (List.replicate 7 0)).toArray := rfl

theorem grown_setCell7 (w : World) (b o : Nat) (v : Value) : w.grownBy (w.setCell ⟨b, o, none⟩ v) (some b) :=
  ⟨rfl, rfl, rfl, by simp [World.setCell], fun k _ hk => Below.heap_setCell w ⟨b, o, none⟩ v k (fun e => hk (by rw [e]))⟩

theorem grown_setCells7 (b : Nat) : ∀ (vs : List Value) (o : Nat) (w : World), w.grownBy (w.setCells b o vs) (some b)
  | [], _, w => World.grownBy.refl _ _
  | v :: r, o, w => by
    rw [World.setCells]
    exact grown_trans (grown_setCell7 w b o v) (grown_setCells7 b r (o + 1) _)

theorem reads_range {w : World} {v : Value} {xs : List Int} (h : Reads w v (ints xs)) (h7 : xs.length = 7) : ∃ g off cap, v = .slice (some ⟨g, off, none⟩) 7 cap ∧ w.rangeAt g off (ints xs) := by
  obtain ⟨ao, cap, rfl, hc⟩ := h
  obtain ⟨g, off, rfl, _⟩ := hc 0 (.int .i64 (xs.getD 0 0)) (by simp [ints, List.getD, h7])
  refine ⟨g, off, cap, by rw [ints_length, h7], fun j x hx => ?_⟩
  obtain ⟨g', off', e, h⟩ := hc j x hx
  simp at e
  obtain ⟨rfl, rfl⟩ := e
  exact h

theorem range_below {w w' : World} {g off : Nat} {cs : List Value} (h : w.rangeAt g off cs) (hb : Below w.heap.size w w') : w'.rangeAt g off cs := fun j x hx => by
  have := h j x hx
  exact (hb.cell (World.block_lt_of_cell? w _ this)).trans this

end Go.Proofs.YtjdmmpdcafbneaaDoor

/-
  Chapter 6, the program's side: Image, ofTwo, Compose, Join, Within, Unit.
-/
namespace Go.Proofs.YtjdmmpdcafbneaaDoor
open Go.RowKit
set_option linter.unusedVariables false
set_option maxHeartbeats 1000000

theorem lor_comm {a b : Int} (ha : Small a) (hb : Small b) : lor a b = lor b a :=
  bit_ext (lor_small ha hb) (lor_small hb ha) (fun t _ => by rw [bit_lor ha hb, bit_lor hb ha, Bool.or_comm])

theorem joi_comm {xs ys : List Int} (hx : Smalls xs) (hy : Smalls ys) : joi xs ys = joi ys xs := by
  refine list7 (by simp [joi, hx.1, hy.1]) (by simp [joi, hx.1, hy.1]) (fun j hj => ?_)
  have h1 : (joi xs ys).getD j 0 = lor (xs.getD j 0) (ys.getD j 0) := by simp [joi, List.getD, hx.1, hy.1, hj]
  have h2 : (joi ys xs).getD j 0 = lor (ys.getD j 0) (xs.getD j 0) := by simp [joi, List.getD, hx.1, hy.1, hj]
  rw [h1, h2, lor_comm (hx.getD j) (hy.getD j)]


/-- What Within's region has, operation by operation. -/
def WFct (va vb : Value) (g off g' off' : Nat) (xs ys : List Int) (l : Nat → Bool) (x13 x14 x15 x16 x17 x18 x19 x20 x21 x22 x23 x4 : Value) : Prop :=
  (l 0 = true → x13 = vb) ∧ (l 1 = true → x14 = .pointer (some ⟨g', off', none⟩)) ∧ (l 2 = true → x15 = relV ys) ∧ (l 3 = true → x16 = va) ∧ (l 4 = true → x17 = .pointer (some ⟨g, off, none⟩)) ∧ (l 5 = true → x18 = relV xs) ∧ (l 6 = true → x19 = relV (joi ys xs)) ∧ (l 7 = true → x20 = vb) ∧ (l 8 = true → x21 = .pointer (some ⟨g', off', none⟩)) ∧ (l 9 = true → x22 = relV ys) ∧ (l 10 = true → x23 = .bool (decide (joi ys xs = ys))) ∧ (l 11 = true → x4 = .bool (decide (joi ys xs = ys)))

/-- The invariant of that region. -/
def WInv (va vb : Value) (g off g' off' : Nat) (xs ys : List Int) (w : World) (l : Nat → Bool) (a : Act) (wr : World) : Prop :=
  ∃ y2 y3 y5 y6 y7 y8 y9 y10 y11 y12 x13 x14 x15 x16 x17 x18 x19 x20 x21 x22 x23 x4 : Value,
    a = { tmps := List.toArray (va :: vb :: y2 :: y3 :: x4 :: y5 :: y6 :: y7 :: y8 :: y9 :: y10 :: y11 :: y12 :: x13 :: x14 :: x15 :: x16 :: x17 :: x18 :: x19 :: x20 :: x21 :: x22 :: x23 :: []), defers := [] } ∧
    Below w.heap.size w wr ∧ WFct va vb g off g' off' xs ys l x13 x14 x15 x16 x17 x18 x19 x20 x21 x22 x23 x4


end Go.Proofs.YtjdmmpdcafbneaaDoor

/-
  Chapter 7, mathematics and the program's helpers: what makes the fact of a variable; the facts of a set alone.
-/
namespace Go.Proofs.YtjdmmpdcafbneaaDoor
open Go.RowKit
set_option linter.unusedVariables false
set_option maxHeartbeats 1000000

/-- The facts of a that are not in b. -/
def cut (a b : Int) : Int := bits .andNot .i64 a b

/-- What a fact makes then: made alone of those in m. -/
def mkAt (r made m : Int) (j : Nat) : Int := if bit m j = true then lor (cut r made) made else cut r made

def mkL (rs : List Int) (made m : Int) : List Int := (List.range 7).map (fun j => mkAt (rs.getD j 0) made m j)

theorem mkL_length (rs : List Int) (made m : Int) : (mkL rs made m).length = 7 := by simp [mkL]

theorem mkL_getD (rs : List Int) (made m : Int) (j : Nat) (hj : j < 7) : (mkL rs made m).getD j 0 = mkAt (rs.getD j 0) made m j := by
  simp [mkL, List.getD, hj]

/-- The set of a variable's fact. -/
def factN (x : Nat) : Int := 2 ^ (x + 1)

/-- The facts of a set alone, each by itself. -/
def onlyL (s : Int) : List Int := unitL.map (fun x => bits .and .i64 x s)

theorem onlyL_length (s : Int) : (onlyL s).length = 7 := rfl

theorem onlyL_getD (s : Int) (j : Nat) (hj : j < 7) : (onlyL s).getD j 0 = bits .and .i64 (unitL.getD j 0) s := by
  have hu : unitL.length = 7 := rfl
  simp [onlyL, List.getD, hu, hj]

end Go.Proofs.YtjdmmpdcafbneaaDoor

/-
  Chapter 7, the program's side: Enter, Leave, Keep, Start, Flow.
-/
namespace Go.Proofs.YtjdmmpdcafbneaaDoor
set_option maxRecDepth 20000
open Go.RowKit
set_option linter.unusedVariables false
set_option maxHeartbeats 1000000

def leaveL : List Int := [1, 2, 4, 8, 0, 0, 0]
def keepL : List Int := [1, 0, 0, 0, 16, 32, 64]
def enterAns (c : Int) : List Int := if c = 1 then leaveL else if c = 2 then [113, 2, 4, 8, 0, 0, 0] else []
def startAns (c : Int) : Int := if c = 1 then 1 else if c = 2 then 127 else -1

theorem only15 : onlyL 15 = leaveL := by decide
theorem only113 : onlyL 113 = keepL := by decide

end Go.Proofs.YtjdmmpdcafbneaaDoor

/-
  Chapter 7, the program's side: a statement's relation, by the client's function fields.
-/
namespace Go.Proofs.YtjdmmpdcafbneaaDoor
open Go.RowKit
set_option linter.unusedVariables false
set_option maxHeartbeats 2000000
set_option maxRecDepth 4000

theorem grown_range {w2 W : World} {R U : Nat} {vs : List Value} {t : TypeId} (h : w2.heap[U]? = some (.cells vs.toArray t (0, 0))) (hn : U ≠ R) (hg : w2.grownBy W (some R)) : W.rangeAt U 0 vs ∧ ∀ j, W.frozen? ⟨U, j, none⟩ = false := by
  have hl : U < w2.heap.size := (Array.getElem?_eq_some_iff.1 h).1
  have h1 := (hg.block U hl (by simp; omega)).trans h
  refine ⟨fun j v hv => ?_, fun j => frozen_of_row W U j _ _ h1⟩
  rw [Nat.zero_add, cell_of_row W U j _ _ (0, 0) h1]
  simpa using hv

theorem three_blocks {w w1 : World} {o1 o2 o3 : Obj} (b1 : Below (((w.alloc o1).alloc o2).alloc o3).heap.size (((w.alloc o1).alloc o2).alloc o3) w1) :
    w1.heap[w.heap.size]? = some o1 ∧ w1.heap[w.heap.size + 1]? = some o2 ∧ w1.heap[w.heap.size + 1 + 1]? = some o3 ∧ Below w.heap.size w w1 ∧ w.heap.size + 1 + 1 < w1.heap.size := by
  have z1 : (w.alloc o1).heap.size = w.heap.size + 1 := by simp
  have z2 : ((w.alloc o1).alloc o2).heap.size = w.heap.size + 1 + 1 := by simp
  have z3 : (((w.alloc o1).alloc o2).alloc o3).heap.size = w.heap.size + 1 + 1 + 1 := by simp
  have h1 := heap_alloc_new w o1
  have h2 := heap_alloc_new (w.alloc o1) o2
  have h3 := heap_alloc_new ((w.alloc o1).alloc o2) o3
  rw [z1] at h2
  rw [z2] at h3
  have a0 : Below w.heap.size w (((w.alloc o1).alloc o2).alloc o3) := (((Below.refl _ _).alloc (Nat.le_refl _) o1).alloc (by omega) o2).alloc (by omega) o3
  refine ⟨(b1.block _ (by omega)).trans ((old_block (by omega)).trans ((old_block (by omega)).trans h1)), (b1.block _ (by omega)).trans ((old_block (by omega)).trans h2), (b1.block _ (by omega)).trans h3, a0.trans (b1.mono (by omega)), ?_⟩
  have := b1.size
  omega

theorem factN_small (x : Nat) (hx : x < 6) : Small (factN x) := by
  have hc : x = 0 ∨ x = 1 ∨ x = 2 ∨ x = 3 ∨ x = 4 ∨ x = 5 := by omega
  rcases hc with rfl | rfl | rfl | rfl | rfl | rfl <;> exact ⟨by decide, by decide⟩

end Go.Proofs.YtjdmmpdcafbneaaDoor
