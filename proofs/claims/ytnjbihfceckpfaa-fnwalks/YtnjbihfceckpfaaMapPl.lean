/-
 Chapter 11: a map from Places to sets as it lies in memory: MapAt says what it has at each place.
-/
import Derived.Test.YtnjbihfceckpfaaG00Stmt
import Derived.Maps.RangeWalk
import Derived.Maps.OwnOps
import Derived.DeepKeys4
import Derived.WideKeyEntry
namespace Go.Proofs.Ytnjbihfceckpfaa
open Go.RowKit
open Go.ChangeMaps (setBlock heap_setBlock_same heap_setBlock_other)
open Go.WideElems (Fit rg)
set_option linter.unusedVariables false
set_option linter.unusedSimpArgs false
set_option maxHeartbeats 1000000
set_option maxRecDepth 20000

theorem placeLaid : laidOutB Try.prog = true := by kernel_rfl
theorem placeRow : (56 : TypeId) < Try.prog.types.size := of_decide_eq_true (by kernel_rfl)
theorem placeWide : (match Try.prog.underlying 56 with | some (.array _ _) | some (.struct _) => true | _ => false) = true := by kernel_rfl
theorem placeAt : Try.prog.keyTypeAt 3 56 = true := by kernel_rfl
theorem placeLaw : WideMaps.KeyLaw Try.prog 56 := deep_law_laid placeLaid (m := 3) (by omega) placeRow placeAt placeWide
theorem placeKeyed : Maps.Keyed Try.prog 56 := Maps.Keyed.of_law placeLaw
theorem placeKT : Try.prog.keyType 56 = true := by kernel_rfl
theorem placeCells : Try.prog.cellsOf 56 = 2 := by kernel_rfl
theorem intCells : Try.prog.cellsOf 2 = 1 := by kernel_rfl
theorem zeroInt (w : World) : (zeroValue 2).run Try.prog w = .ok (.int .i64 0) w := by kernel_rfl

/-- A Place as a value. -/
def plV (i k : Int) : Value := .agg #[.int .i64 i, .int .i64 k]
def Wf (x : Int) : Prop := (Lit.int .i64 x).wf = true
def kl (i k : Int) : Lit := .string (keyBytes [.int .i64 i, .int .i64 k])

theorem lits_int (d : Nat) (x : Int) : Try.prog.keyLits (d + 1) 2 [.int .i64 x] = if (Lit.int .i64 x).wf = true then some [.int .i64 x] else none := by
 unfold Program.keyLits
 rw [Try.underlying2]
 simp

theorem lits_place (d : Nat) (x y : Value) : Try.prog.keyLits (d + 1) 56 [x, y] = ((Try.prog.keyLits d 2 [x]).bind fun a => (Try.prog.keyLits d 2 [y]).map fun b => a ++ b) := by
 rw [Program.keyLits.eq_def]
 simp only [Try.underlying56]
 simp [placeCells, intCells]
 cases Try.prog.keyLits d 2 [x] <;> cases Try.prog.keyLits d 2 [y] <;> simp

theorem sizeSucc : ∃ d, Try.prog.types.size = d + 1 := ⟨Try.prog.types.size - 1, by have h : 0 < Try.prog.types.size := of_decide_eq_true (by kernel_rfl); omega⟩

theorem key_of (i k : Int) (hi : Wf i) (hk : Wf k) : keyOf Try.prog 56 (plV i k) = some (kl i k) := by
 obtain ⟨d, hd⟩ := sizeSucc
 have h1 : Try.prog.keyLits (d + 1 + 1) 56 [.int .i64 i, .int .i64 k] = some [.int .i64 i, .int .i64 k] := by
  rw [lits_place, lits_int, lits_int, if_pos (show (Lit.int .i64 i).wf = true from hi), if_pos (show (Lit.int .i64 k).wf = true from hk)]; rfl
 simp [keyOf, Try.underlying56, placeKT, plV, Value.formed, placeCells, Value.cells, hd, h1, kl]

theorem lits_int_inv {d : Nat} {x : Value} {l : List Lit} (h : Try.prog.keyLits d 2 [x] = some l) : ∃ a, x = .int .i64 a ∧ Wf a ∧ l = [.int .i64 a] := by
 cases d with
 | zero => simp [Program.keyLits] at h
 | succ d =>
  unfold Program.keyLits at h
  rw [Try.underlying2] at h
  cases x <;> simp at h
  obtain ⟨⟨rfl, hw⟩, rfl⟩ := h
  exact ⟨_, rfl, hw, rfl⟩

theorem key_inv {v : Value} {l : Lit} (h : keyOf Try.prog 56 v = some l) : ∃ i k, Wf i ∧ Wf k ∧ v = plV i k ∧ l = kl i k := by
 cases v <;> simp [keyOf, Try.underlying56, placeKT, Value.formed, placeCells, Value.cells] at h
 rename_i cs
 obtain ⟨hs, ls, hls, rfl⟩ := h
 obtain ⟨L⟩ := cs
 match L, hs with
 | [x, y], _ =>
  rw [lits_place] at hls
  simp only [Option.bind_eq_some_iff, Option.map_eq_some_iff] at hls
  obtain ⟨l1, h1, l2, h2, hh⟩ := hls
  obtain ⟨a, rfl, wa, rfl⟩ := lits_int_inv h1
  obtain ⟨b, rfl, wb, rfl⟩ := lits_int_inv h2
  exact ⟨a, b, wa, wb, rfl, by rw [← hh]; rfl⟩

theorem kl_inj {i k i' k' : Int} (hi : Wf i) (hk : Wf k) (hi' : Wf i') (hk' : Wf k') (h : kl i k = kl i' k') : i = i' ∧ k = k' := by
 have h1 := key_of i k hi hk
 have h2 := key_of i' k' hi' hk'
 rw [h] at h1
 have := placeKeyed.inj h1 h2
 unfold plV at this
 simpa using this

theorem kl_key {i k : Int} (hi : Wf i) (hk : Wf k) : WideAt.IsKeyLit (kl i k) := placeKeyed.key (key_of i k hi hk)

def litI (x : Int) : DataW Unit := .lit (.int .i64 x)
/-- The datum D has at each place what f says. -/
def ReadsM (D : DataW Unit) (f : Int → Int → Option Int) : Prop := ∀ i k, Wf i → Wf k → ∀ z, D.atKey (kl i k) z = match f i k with | some x => litI x | none => z
def OwnM (w : World) (B n : Nat) (D : DataW Unit) : Prop := w.ownsMap Try.prog 56 (plainElem Try.prog 2) B n D
/-- Block B is a map that has at each place what f says; at most n keys. -/
def MapAt (w : World) (B n : Nat) (f : Int → Int → Option Int) : Prop := ∃ D, OwnM w B n D ∧ ReadsM D f
def upd (f : Int → Int → Option Int) (i k x : Int) : Int → Int → Option Int := fun i' k' => if i' = i ∧ k' = k then some x else f i' k'
def emptyF : Int → Int → Option Int := fun _ _ => none

theorem MapAt.made (w : World) : MapAt (w.alloc (.map #[] 0)) w.heap.size 0 emptyF := ⟨.map [], World.ownsMap_made _ _ _ _, fun i k _ _ z => rfl⟩
theorem MapAt.lt {w : World} {B n : Nat} {f : Int → Int → Option Int} (h : MapAt w B n f) : B < w.heap.size := by
 obtain ⟨D, h, _⟩ := h
 exact World.ownsMap.lt h
theorem MapAt.same {w w' : World} {B n : Nat} {f : Int → Int → Option Int} (h : MapAt w B n f) (hb : w'.heap[B]? = w.heap[B]?) : MapAt w' B n f := by
 obtain ⟨D, ⟨es, clock, hh, F, hs, hD⟩, hR⟩ := h
 exact ⟨D, ⟨es, clock, hb.trans hh, F, hs, hD⟩, hR⟩
theorem MapAt.below {w w' : World} {B n : Nat} {f : Int → Int → Option Int} (h : MapAt w B n f) (hb : Below w.heap.size w w') : MapAt w' B n f := h.same (hb.block B h.lt)
theorem MapAt.mono {w : World} {B n n' : Nat} {f : Int → Int → Option Int} (h : MapAt w B n f) (hn : n ≤ n') : MapAt w B n' f := by
 obtain ⟨D, ho, hR⟩ := h
 exact ⟨D, World.ownsMap.mono ho hn, hR⟩
theorem MapAt.congr {w : World} {B n : Nat} {f g : Int → Int → Option Int} (h : MapAt w B n f) (hfg : ∀ i k, Wf i → Wf k → g i k = f i k) : MapAt w B n g := by
 obtain ⟨D, ho, hR⟩ := h
 exact ⟨D, ho, fun i k hi hk z => by rw [hfg i k hi hk]; exact hR i k hi hk z⟩

theorem MapAt.lookup {w : World} {B n : Nat} {f : Int → Int → Option Int} (h : MapAt w B n f) {i k : Int} (hi : Wf i) (hk : Wf k) : (Instr.lookup 71 (.map (some B)) (plV i k) false).run Try.prog w = .ok (.int .i64 ((f i k).getD 0)) w := by
 obtain ⟨D, ho, hR⟩ := h
 obtain ⟨c, hrun, hat, hwc⟩ := World.ownsMap.lookup_int ho placeKeyed Try.underlying71 Try.underlying2 (zeroInt w) (key_of i k hi hk)
 have e := hR i k hi hk (litI 0)
 have : c = (f i k).getD 0 := by
  unfold litI at e
  rw [hat] at e
  cases hf : f i k with
  | none => rw [hf] at e; simpa using e
  | some x => rw [hf] at e; simpa using e
 rw [hrun, this]

theorem ReadsM.upd {D : DataW Unit} {f : Int → Int → Option Int} (h : ReadsM D f) (hD : Maps.IsMap D) {i k : Int} (hi : Wf i) (hk : Wf k) (x : Int) : ReadsM (D.put (kl i k) (litI x)) (upd f i k x) := fun i' k' hi' hk' z => by
 unfold Proofs.Ytnjbihfceckpfaa.upd
 by_cases e : i' = i ∧ k' = k
 · rw [if_pos e]
   obtain ⟨rfl, rfl⟩ := e
   exact Maps.atKey_put_same hD (kl_key hi' hk') _ _
 · rw [if_neg e, Maps.atKey_put_other (fun e' => e (kl_inj hi' hk' hi hk e'))]
   exact h i' k' hi' hk' z

theorem MapAt.update {w : World} {B n : Nat} {f : Int → Int → Option Int} (h : MapAt w B n f) (hn : n < 100000) {i k x : Int} (hi : Wf i) (hk : Wf k) (hx : Wf x) :
 ∃ w', (Instr.mapUpdate 71 (.map (some B)) (plV i k) (.int .i64 x)).run Try.prog w = .ok () w' ∧ MapAt w' B (n + 1) (upd f i k x) ∧ w.grownBy w' (some B) := by
 obtain ⟨D, ho, hR⟩ := h
 obtain ⟨w', hrun, ho', hg⟩ := World.ownsMap.update ho placeKeyed Try.underlying71 (by unfold maxLen; omega) (key_of i k hi hk) (plainElem_int Try.underlying2 hx)
 exact ⟨w', hrun, ⟨_, ho', hR.upd (World.ownsMap.isMap ho) hi hk x⟩, hg⟩

theorem readsM_uniq {D : DataW Unit} {f g : Int → Int → Option Int} (h : ReadsM D f) (k : ReadsM D g) {i j : Int} (hi : Wf i) (hj : Wf j) : f i j = g i j := by
 have h1 := h i j hi hj
 have h2 := k i j hi hj
 cases hf : f i j with
 | none =>
  cases hg : g i j with
  | none => rfl
  | some y =>
   have a := h1 (litI (y + 1)); have b := h2 (litI (y + 1))
   rw [hf] at a; rw [hg] at b
   rw [a] at b
   simp [litI] at b
   omega
 | some x =>
  cases hg : g i j with
  | none =>
   have a := h1 (litI (x + 1)); have b := h2 (litI (x + 1))
   rw [hf] at a; rw [hg] at b
   rw [a] at b
   simp [litI] at b
   omega
  | some y =>
   have a := h1 (litI 0); have b := h2 (litI 0)
   rw [hf] at a; rw [hg] at b
   rw [a] at b
   simp [litI] at b
   rw [b]

theorem entry_some {es : Array MapEntry} {clock : Nat} (F : Fit Try.prog 56 (plainElem (H := Unit) Try.prog 2) es clock) {f : Int → Int → Option Int} (hR : ReadsM (.map ((es.toList.map (rg Try.prog 56 (plainElem (H := Unit) Try.prog 2))).foldr DataW.insert [])) f)
 {e : MapEntry} (he : e ∈ es.toList) {i k : Int} (hi : Wf i) (hk : Wf k) (hkey : keyOf Try.prog 56 e.key = some (kl i k)) : ∃ x, f i k = some x := by
 obtain ⟨y, hy⟩ := F.reads e he
 have hky := WideElems.rd_key hy
 have hrg : (rg Try.prog 56 (plainElem (H := Unit) Try.prog 2) e).1 = kl i k := by
  rw [WideElems.rg_of hy]
  rw [hky] at hkey
  exact Option.some.inj hkey
 have hat := (WideShapes.atKey_sorted (es.toList.map (rg Try.prog 56 (plainElem (H := Unit) Try.prog 2))) (Maps.fit_rising placeKeyed F) (kl i k) (kl_key hi hk)).2 _ (List.mem_map.2 ⟨e, he, rfl⟩) hrg
 cases hf : f i k with
 | some x => exact ⟨x, rfl⟩
 | none =>
  have a := hR i k hi hk (litI 0)
  have b := hR i k hi hk (litI 1)
  rw [hf] at a b
  rw [hat] at a b
  rw [a] at b
  simp [litI] at b

/-- The entry at a place is laid; what is stored into it later is as if it were stored at once. -/
theorem MapAt.entry {w : World} {B n : Nat} {f : Int → Int → Option Int} (h : MapAt w B n f) (hn : n < 100000) {i k : Int} (hi : Wf i) (hk : Wf k) :
 ∃ (v0 : Value) (st : Nat) (w' : World), (Instr.mapEntry 71 (.map (some B)) (plV i k)).run Try.prog w = .ok (.tuple #[v0, goInt st]) w' ∧ w.grownBy w' (some B) ∧ MapAt w' B (n + 1) (upd f i k ((f i k).getD 0)) ∧
  ∀ (w2 : World) (x : Int), Wf x → w2.heap[B]? = w'.heap[B]? → ∃ w3, (Instr.entryStore 71 (.map (some B)) (goInt st) (.int .i64 x)).run Try.prog w2 = .ok () w3 ∧ MapAt w3 B (n + 1) (upd f i k x) ∧ w2.grownBy w3 (some B) := by
 have h0 := h
 obtain ⟨D, ⟨es, clock, hb, F, hs, hD⟩, hR⟩ := h
 obtain ⟨v0, st, es1, clock1, hrun, hv0, hst⟩ := WideElems.entry_then_store placeLaw Try.underlying71 zeroInt hb F (key_of i k hi hk)
 have hB : w.grownBy (setBlock w B (.map es1 clock1)) (some B) := ⟨rfl, rfl, rfl, by simp [setBlock], fun j _ hj => heap_setBlock_other hb _ (fun e => hj (by rw [e]))⟩
 have key : ∀ (w2 : World) (x : Int), Wf x → w2.heap[B]? = (setBlock w B (.map es1 clock1)).heap[B]? → ∃ w3, (Instr.entryStore 71 (.map (some B)) (goInt st) (.int .i64 x)).run Try.prog w2 = .ok () w3 ∧ MapAt w3 B (n + 1) (upd f i k x) ∧ w2.grownBy w3 (some B) := by
  intro w2 x hx h2
  rw [heap_setBlock_same hb] at h2
  obtain ⟨es', clock', r1, r2⟩ := hst w2 (.int .i64 x) h2
  obtain ⟨w', u1, u2, u3⟩ := h0.update hn hi hk hx
  rw [r2] at u1
  simp at u1
  subst u1
  refine ⟨_, r1, u2.same ?_, ⟨rfl, rfl, rfl, by simp [setBlock], fun j _ hj => heap_setBlock_other h2 _ (fun e => hj (by rw [e]))⟩⟩
  rw [heap_setBlock_same hb, heap_setBlock_same h2]
 refine ⟨v0, st, _, hrun, hB, ?_, key⟩
 rcases placeLaw.find w (key_of i k hi hk) es.toList F.keys with ⟨h1, h2⟩ | ⟨j, e0, h1, h2, h3⟩
 · have hl := h0.lookup hi hk
   have hl2 : (Instr.lookup 71 (.map (some B)) (plV i k) false).run Try.prog w = .ok (.int .i64 0) w := by
    simp [Instr.lookup, run_underlying Try.underlying71, MapKept.run_getObj_map hb, placeLaw.check w _ (key_of i k hi hk), h1, zeroInt, Result.andThen]
   rw [hl] at hl2
   have e0 : (f i k).getD 0 = 0 := by simpa using hl2
   rw [e0]
   obtain ⟨w', u1, u2, u3⟩ := h0.update hn hi hk (x := 0) (show (Lit.int .i64 0).wf = true by decide)
   have r1 : (Instr.mapEntry 71 (.map (some B)) (plV i k)).run Try.prog w = .ok (.tuple #[.int .i64 0, goInt clock]) (setBlock w B (.map (es.push ⟨plV i k, .int .i64 0, clock⟩) (clock + 1))) := by
    simp [Instr.mapEntry, run_underlying Try.underlying71, MapKept.run_getObj_map hb, placeLaw.check w false (key_of i k hi hk), h1, zeroInt, MapKept.run_setObj_map _ hb, Result.andThen, setBlock]
   have r2 : (Instr.mapUpdate 71 (.map (some B)) (plV i k) (.int .i64 0)).run Try.prog w = .ok () (setBlock w B (.map (es.push ⟨plV i k, .int .i64 0, clock⟩) (clock + 1))) := by
    simp [Instr.mapUpdate, run_underlying Try.underlying71, MapKept.run_getObj_map hb, placeLaw.check w false (key_of i k hi hk), h1, MapKept.run_setObj_map _ hb, Result.andThen, setBlock]
   rw [hrun] at r1
   rw [u1] at r2
   simp only [Result.ok.injEq] at r1 r2
   rw [r1.2, ← r2.2]
   exact u2
 · have hj : es[j]? = some e0 := by simpa using h2
   have hsame : es.modify j (fun e => { e with key := plV i k }) = es := by
    apply Array.ext'
    rw [Array.toList_modify, ChangeMaps.modify_eq_set _ _ _ _ h2]
    have : ({ e0 with key := plV i k } : MapEntry) = e0 := by rw [← h3]
    rw [this]
    exact WideElems.set_self _ _ _ h2
   have r1 : (Instr.mapEntry 71 (.map (some B)) (plV i k)).run Try.prog w = .ok (.tuple #[e0.val, goInt e0.born]) (setBlock w B (.map es clock)) := by
    simp [Instr.mapEntry, run_underlying Try.underlying71, MapKept.run_getObj_map hb, placeLaw.check w false (key_of i k hi hk), h1, hj, h3, placeLaw.stays w (key_of i k hi hk), hsame, MapKept.run_setObj_map _ hb, Result.andThen, setBlock]
   rw [hrun] at r1
   simp only [Result.ok.injEq] at r1
   rw [r1.2]
   subst hD
   obtain ⟨x, hx⟩ := entry_some F hR (List.mem_of_getElem? h2) hi hk (by rw [h3]; exact key_of i k hi hk)
   refine ((h0.mono (Nat.le_succ n)).same (by rw [heap_setBlock_same hb, hb])).congr (fun i' k' _ _ => ?_)
   unfold upd
   split
   · rename_i e; obtain ⟨rfl, rfl⟩ := e; rw [hx]; rfl
   · rfl

theorem MapAt.clear {w : World} {B n : Nat} {f : Int → Int → Option Int} (h : MapAt w B n f) (ty : TypeId) :
 ∃ w', (Builtin.clear_ #[71] ty #[.map (some B)]).run Try.prog w = .ok (.tuple #[]) w' ∧ MapAt w' B 0 emptyF ∧ w.grownBy w' (some B) := by
 obtain ⟨D, ⟨es, clock, hb, F, hs, hD⟩, hR⟩ := h
 refine ⟨setBlock w B (.map #[] clock), ?_, ⟨.map [], ⟨#[], clock, heap_setBlock_same hb _, ⟨by simp, MapKept.stamped_empty clock, by simp⟩, Nat.le_refl _, rfl⟩, fun i k _ _ z => rfl⟩, ⟨rfl, rfl, rfl, by simp [setBlock], fun j _ hj => heap_setBlock_other hb _ (fun e => hj (by rw [e]))⟩⟩
 simp [Builtin.clear_, run_underlying Try.underlying71, MapKept.run_getObj_map hb, MapKept.run_setObj_map _ hb, Result.andThen, setBlock]

theorem MapAt.len {w : World} {B n : Nat} {f : Int → Int → Option Int} (h : MapAt w B n f) : ∃ m : Nat, (∀ ty, (Builtin.len_ #[71] ty #[.map (some B)]).run Try.prog w = .ok (.int .i64 m) w) ∧ m ≤ n ∧ (m = 0 → ∀ i k, Wf i → Wf k → f i k = none) ∧ (m ≠ 0 → ∃ i k, Wf i ∧ Wf k ∧ (f i k).isSome = true) := by
 obtain ⟨D, ho, hR⟩ := h
 refine ⟨Maps.size D, fun ty => World.ownsMap.len ho Try.underlying71 ty, World.ownsMap.size_le ho, fun h0 i k hi hk => ?_, fun h0 => ?_⟩
 · obtain ⟨es, rfl⟩ := World.ownsMap.isMap ho
   have : es = [] := List.eq_nil_of_length_eq_zero h0
   subst this
   exact readsM_uniq hR (g := emptyF) (fun i k _ _ z => rfl) hi hk
 · obtain ⟨es, clock, hb, F, hs, rfl⟩ := ho
   have hl : 0 < es.toList.length := by
    have e := Maps.size_eq ((es.toList.map (rg Try.prog 56 (plainElem (H := Unit) Try.prog 2))).foldr DataW.insert [])
    rw [e, length_sorted] at h0
    simp at h0
    have : es.size ≠ 0 := fun e => h0 (by simpa using e)
    simp; omega
   have hm := List.getElem_mem hl
   obtain ⟨y, hy⟩ := F.reads _ hm
   have hky := WideElems.rd_key hy
   obtain ⟨i, k, hi, hk, _, e⟩ := key_inv hky
   rw [e] at hky
   obtain ⟨x, hx⟩ := entry_some F hR hm hi hk hky
   exact ⟨i, k, hi, hk, by rw [hx]; rfl⟩

/-- The map of block B is gone through by the iterator of block r: lf says which places are still to come. -/
def RanM (w : World) (B r n : Nat) (f : Int → Int → Option Int) (lf : Int → Int → Bool) (cnt : Nat) : Prop :=
 ∃ D left, w.ranges Try.prog 56 (plainElem (H := Unit) Try.prog 2) B r n D left cnt ∧ ReadsM D f ∧ ∀ i k, Wf i → Wf k → left (kl i k) = lf i k

theorem has_some {D : DataW Unit} {f : Int → Int → Option Int} (hR : ReadsM D f) {i k : Int} (hi : Wf i) (hk : Wf k) : Maps.has D (kl i k) = (f i k).isSome := by
 cases hf : f i k with
 | none => exact Maps.has_false_of_atKey (fun z => by have := hR i k hi hk z; rw [hf] at this; exact this)
 | some x => exact Maps.has_true_of_atKey (y := litI x) (fun z => by have := hR i k hi hk z; rw [hf] at this; exact this)

theorem MapAt.range {w : World} {B n : Nat} {f : Int → Int → Option Int} (h : MapAt w B n f) : ∃ w' cnt, (Instr.range 71 (.map (some B))).run Try.prog w = .ok (.pointer (some ⟨w.heap.size, 0, none⟩)) w' ∧ RanM w' B w.heap.size n f (fun i k => (f i k).isSome) cnt ∧ w.grownBy w' none ∧ w'.heap.size = w.heap.size + 1 := by
 obtain ⟨D, ho, hR⟩ := h
 obtain ⟨w', hrun, r1, r2, r3⟩ := World.ownsMap.range ho placeKeyed Try.underlying71
 exact ⟨w', _, hrun, ⟨D, _, r1, hR, fun i k hi hk => has_some hR hi hk⟩, r2, r3⟩

theorem RanM.map {w : World} {B r n : Nat} {f : Int → Int → Option Int} {lf : Int → Int → Bool} {cnt : Nat} (h : RanM w B r n f lf cnt) : MapAt w B n f := by
 obtain ⟨D, left, hr, hR, _⟩ := h
 exact ⟨D, World.ranges.owns hr, hR⟩
theorem RanM.left_eq {w : World} {B r n : Nat} {f : Int → Int → Option Int} {lf : Int → Int → Bool} {cnt : Nat} (h : RanM w B r n f lf cnt) : w.rangeLeft B r = cnt := by
 obtain ⟨D, left, hr, hR, _⟩ := h
 exact hr.left_eq
theorem RanM.lt {w : World} {B r n : Nat} {f : Int → Int → Option Int} {lf : Int → Int → Bool} {cnt : Nat} (h : RanM w B r n f lf cnt) : r < w.heap.size := by
 obtain ⟨D, left, hr, hR, _⟩ := h
 exact hr.lt
theorem RanM.kept {w w' : World} {B r n : Nat} {f : Int → Int → Option Int} {lf : Int → Int → Bool} {cnt : Nat} {row : Option Nat} (h : RanM w B r n f lf cnt) (hg : w.grownBy w' row) (hB : some B ≠ row) (hr' : some r ≠ row) : RanM w' B r n f lf cnt := by
 obtain ⟨D, left, hr, hR, hl⟩ := h
 exact ⟨D, left, hr.kept hg hB hr', hR, hl⟩
theorem RanM.below {w w' : World} {B r n : Nat} {f : Int → Int → Option Int} {lf : Int → Int → Bool} {cnt : Nat} (h : RanM w B r n f lf cnt) (hb : Below w.heap.size w w') : RanM w' B r n f lf cnt :=
 h.kept (row := none) ⟨hb.os, hb.tape, hb.output, hb.size, fun k hk _ => hb.block k hk⟩ (by simp) (by simp)

theorem RanM.next {w : World} {B r n : Nat} {f : Int → Int → Option Int} {lf : Int → Int → Bool} {cnt : Nat} (h : RanM w B r n f lf cnt) (ty : TypeId) :
 ((∀ i k, Wf i → Wf k → lf i k = false) ∧ (Instr.next (.pointer (some ⟨r, 0, none⟩)) false ty).run Try.prog w = .ok (.tuple #[.bool false]) w) ∨
 ∃ i k x w' cnt', Wf i ∧ Wf k ∧ Wf x ∧ lf i k = true ∧ f i k = some x ∧ (Instr.next (.pointer (some ⟨r, 0, none⟩)) false ty).run Try.prog w = .ok (.tuple #[.bool true, plV i k, .int .i64 x]) w' ∧
  RanM w' B r n f (fun i' k' => lf i' k' && !decide (i' = i ∧ k' = k)) cnt' ∧ cnt' < cnt ∧ w.grownBy w' (some r) ∧ w'.heap.size = w.heap.size ∧ (Instr.entry (.pointer (some ⟨r, 0, none⟩))).run Try.prog w' = .ok (.tuple #[plV i k, .int .i64 x]) w' := by
 obtain ⟨D, left, hr, hR, hl⟩ := h
 rcases hr.next placeKeyed ty with ⟨h0, h1, hrun⟩ | ⟨key, v, l, y, w', cnt', hkey, hlk, hv, hat, hrun, hrg, hlt, hgr, hsz, hen⟩
 · exact .inl ⟨fun i k hi hk => by rw [← hl i k hi hk]; exact h1 _, hrun⟩
 · obtain ⟨i, k, hi, hk, rfl, rfl⟩ := key_inv hkey
   obtain ⟨x, rfl, rfl, hx⟩ := plainElem_int_inv Try.underlying2 hv
   refine .inr ⟨i, k, x, w', cnt', hi, hk, hx, by rw [← hl i k hi hk]; exact hlk, ?_, hrun, ⟨D, _, hrg, hR, fun i' k' hi' hk' => ?_⟩, hlt, hgr, hsz, hen⟩
   · have a := hR i k hi hk (litI (x + 1))
     have b := hat (litI (x + 1))
     rw [a] at b
     cases hf : f i k with
     | none => rw [hf] at b; simp [litI] at b; omega
     | some z => rw [hf] at b; simp [litI] at b; rw [b]
   · show (left (kl i' k') && !(kl i' k').sameKey (kl i k)) = _
     rw [hl i' k' hi' hk']
     by_cases e : i' = i ∧ k' = k
     · obtain ⟨rfl, rfl⟩ := e
       rw [WideAt.sameKey_self (kl_key hi hk)]
       simp
     · rw [Maps.sameKey_ne (fun e' => e (kl_inj hi' hk' hi hk e'))]
       simp [e]

end Go.Proofs.Ytnjbihfceckpfaa
