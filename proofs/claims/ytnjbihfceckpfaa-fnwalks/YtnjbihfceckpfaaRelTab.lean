/-
 Chapter 10: tables of relations as arrays: how they and their rows are read, written, compared.
-/
import Derived.Test.YtnjbihfceckpfaaTabM
namespace Go.Proofs.Ytnjbihfceckpfaa
open Go.RowKit
set_option linter.unusedVariables false
set_option maxHeartbeats 1000000
set_option maxRecDepth 100000

/-- Here a walk stands still. -/
def Stop (p : Prop) : Prop := p
theorem stop_of {p : Prop} (h : Stop p) : p := h

/-- n rows of seven. -/
def Rows7 (n : Nat) (gs : List (List Int)) : Prop := gs.length = n ∧ ∀ r ∈ gs, r.length = 7

/-- A table as a value; a block that holds it. -/
def tabR (gs : List (List Int)) : Value := .agg (ints gs.flatten).toArray
def TabR (w : World) (G : Nat) (t : TypeId) (gs : List (List Int)) : Prop := w.heap[G]? = some (.cells (ints gs.flatten).toArray t (0, 0))

/-- A type of n relations. -/
structure IsTab (t : TypeId) (n : Nat) : Prop where
 und : Try.prog.underlying t = some (.array n 64)
 size : (Try.prog.info? t).map (·.size) = some (7 * n)
 zero : ∀ w, (zeroValue t).run Try.prog w = .ok (tabR (List.replicate n zero7)) w
 guard : Try.prog.eqGuardType Try.prog.depth t = false

theorem flat7_get : ∀ (gs : List (List Int)), (∀ b ∈ gs, b.length = 7) → ∀ q r, r < 7 → gs.flatten[7 * q + r]? = (gs[q]?.bind (·[r]?))
 | [], _, q, r, _ => by simp
 | b :: gs, h, 0, r, hr => by
  have hb := h b (by simp)
  simp only [List.flatten_cons, Nat.mul_zero, Nat.zero_add, List.getElem?_cons_zero, Option.bind_some]
  rw [List.getElem?_append_left (by omega)]
 | b :: gs, h, q + 1, r, hr => by
  have hb := h b (by simp)
  have ih := flat7_get gs (fun c hc => h c (by simp [hc])) q r hr
  simp only [List.flatten_cons, List.getElem?_cons_succ]
  rw [List.getElem?_append_right (by omega), ← ih]
  congr 1
  omega

theorem flat7_length : ∀ (gs : List (List Int)), (∀ b ∈ gs, b.length = 7) → gs.flatten.length = 7 * gs.length
 | [], _ => rfl
 | b :: gs, h => by
  have hb := h b (by simp)
  have ih := flat7_length gs (fun c hc => h c (by simp [hc]))
  simp only [List.flatten_cons, List.length_append, List.length_cons]
  omega

theorem Rows7.flat {n : Nat} {gs : List (List Int)} (h : Rows7 n gs) : gs.flatten.length = 7 * n := by rw [flat7_length gs h.2, h.1]
theorem Rows7.row {n : Nat} {gs : List (List Int)} (h : Rows7 n gs) {j : Nat} (hj : j < n) : (gs.getD j []).length = 7 := by
 have hl : j < gs.length := by rw [h.1]; exact hj
 have e : gs.getD j [] = gs[j] := by simp [List.getD, hl]
 rw [e]; exact h.2 _ (List.getElem_mem _)
theorem Rows7.set {n : Nat} {gs : List (List Int)} (h : Rows7 n gs) {j : Nat} {r : List Int} (hr : r.length = 7) : Rows7 n (gs.set j r) :=
 ⟨by rw [List.length_set, h.1], fun c hc => by
  rcases List.mem_or_eq_of_mem_set hc with hc | rfl
  · exact h.2 c hc
  · exact hr⟩
theorem Rows7.zero (n : Nat) : Rows7 n (List.replicate n zero7) := ⟨by simp, fun r hr => by rw [List.eq_of_mem_replicate hr]; rfl⟩

theorem TabR.lt {w : World} {G : Nat} {t : TypeId} {gs : List (List Int)} (h : TabR w G t gs) : G < w.heap.size := (Array.getElem?_eq_some_iff.1 h).1
theorem TabR.kept {w w' : World} {G : Nat} {t : TypeId} {gs : List (List Int)} (h : TabR w G t gs) (hb : w'.heap[G]? = w.heap[G]?) : TabR w' G t gs := hb.trans h
theorem TabR.below {w w' : World} {G : Nat} {t : TypeId} {gs : List (List Int)} (h : TabR w G t gs) (hb : Below w.heap.size w w') : TabR w' G t gs := h.kept (hb.block G h.lt)
theorem TabR.grown {w w' : World} {G : Nat} {t : TypeId} {gs : List (List Int)} {row : Option Nat} (h : TabR w G t gs) (hb : w.grownBy w' row) (hr : row ≠ some G) : TabR w' G t gs := h.kept (hb.block G h.lt (fun e => hr e.symm))

theorem TabR.cell {w : World} {G : Nat} {t : TypeId} {gs : List (List Int)} (h : TabR w G t gs) (k : Nat) : w.cell? ⟨G, k, none⟩ = (ints gs.flatten)[k]? ∧ w.frozen? ⟨G, k, none⟩ = false :=
 ⟨by rw [cell_of_row w G k _ _ (0, 0) h]; simp, frozen_of_row w G k _ _ h⟩

theorem TabR.range {w : World} {G : Nat} {t : TypeId} {gs : List (List Int)} (h : TabR w G t gs) : w.rangeAt G 0 (ints gs.flatten) := fun j v hv => by
 rw [Nat.zero_add, (h.cell j).1, hv]

theorem TabR.row {w : World} {G n : Nat} {t : TypeId} {gs : List (List Int)} (h : TabR w G t gs) (hr : Rows7 n gs) {j : Nat} (hj : j < n) : w.rangeAt G (j * 7) (ints (gs.getD j [])) := fun k v hv => by
 have hl : j < gs.length := by rw [hr.1]; exact hj
 have hk : k < 7 := by
  have := (List.getElem?_eq_some_iff.1 hv).1
  rw [ints_length, hr.row hj] at this; exact this
 have e : gs.getD j [] = gs[j] := by simp [List.getD, hl]
 rw [(h.cell _).1, Nat.mul_comm j 7]
 unfold ints at hv ⊢
 rw [List.getElem?_map, flat7_get gs hr.2 j k hk, List.getElem?_eq_getElem hl, Option.bind_some, ← e, ← List.getElem?_map]
 exact hv

theorem TabR.there {w : World} {G n : Nat} {t : TypeId} {gs : List (List Int)} (h : TabR w G t gs) (hr : Rows7 n gs) : w.there G 0 (7 * n) := fun k hk => by
 rw [Nat.zero_add]
 refine ⟨?_, (h.cell k).2⟩
 rw [(h.cell k).1, List.getElem?_eq_getElem (by rw [ints_length, hr.flat]; exact hk)]
 rfl

theorem TabR.thereRow {w : World} {G n : Nat} {t : TypeId} {gs : List (List Int)} (h : TabR w G t gs) (hr : Rows7 n gs) {j : Nat} (hj : j < n) : w.there G (j * 7) 7 := fun k hk => by
 have := h.there hr (j * 7 + k) (by omega)
 rwa [Nat.zero_add] at this

/-- A block by its cells. -/
theorem tab_of_cells {w : World} {G : Nat} {t : TypeId} {C : Array Value} {L : List Value} (h : w.heap[G]? = some (.cells C t (0, 0))) (hs : C.size = L.length) (hc : ∀ k v, L[k]? = some v → w.cell? ⟨G, k, none⟩ = some v) : w.heap[G]? = some (.cells L.toArray t (0, 0)) := by
 rw [h]
 congr 2
 refine Array.ext' (List.ext_getElem (by simpa using hs) (fun j h1 h2 => ?_))
 have h3 := hc j L[j] (List.getElem?_eq_getElem (by simpa using h2))
 rw [cell_of_row w G j C t (0, 0) h, Array.getElem?_eq_getElem (by simpa using h1)] at h3
 simpa using h3

theorem TabR.store {w : World} {G n : Nat} {t : TypeId} {gs : List (List Int)} (h : TabR w G t gs) (hr : Rows7 n gs) {j : Nat} (hj : j < n) {xs : List Int} (hx : xs.length = 7) : TabR (w.setCells G (j * 7) (ints xs)) G t (gs.set j xs) := by
 obtain ⟨C, hC, hs⟩ := heap_setCells7 G t (ints xs) (j * 7) w _ h
 have hset := hr.set (j := j) hx
 refine tab_of_cells hC (by rw [hs, List.size_toArray, ints_length, ints_length, hset.flat, hr.flat]) (fun k v hv => ?_)
 obtain ⟨q, r, hq, rfl⟩ : ∃ q r, r < 7 ∧ k = 7 * q + r := ⟨k / 7, k % 7, Nat.mod_lt _ (by omega), by omega⟩
 have hjl : j < gs.length := by rw [hr.1]; exact hj
 unfold ints at hv
 rw [List.getElem?_map, flat7_get _ hset.2 q r hq] at hv
 by_cases e : j = q
 · subst e
   rw [List.getElem?_set_self hjl, Option.bind_some] at hv
   have := World.rangeAt_setCells_same w G (j * 7) (ints xs) (by rw [ints_length, hx]; exact h.thereRow hr hj) r v (by unfold ints; rw [List.getElem?_map]; exact hv)
   rw [Nat.mul_comm 7 j]
   exact this
 · rw [List.getElem?_set_ne e] at hv
   rw [World.cell?_setCells_out G (ints xs) (j * 7) w ⟨G, 7 * q + r, none⟩ (fun _ _ => by
    show 7 * q + r < j * 7 ∨ j * 7 + (ints xs).length ≤ 7 * q + r
    rw [ints_length, hx]
    omega), (h.cell _).1]
   unfold ints
   rw [List.getElem?_map, flat7_get _ hr.2 q r hq]
   exact hv

theorem TabR.copied {w : World} {G n : Nat} {t : TypeId} {gs hs : List (List Int)} (h : TabR w G t gs) (hr : Rows7 n gs) (hr' : Rows7 n hs) : TabR (w.setCells G 0 (ints hs.flatten)) G t hs := by
 obtain ⟨C, hC, hsz⟩ := heap_setCells7 G t (ints hs.flatten) 0 w _ h
 refine tab_of_cells hC (by rw [hsz, List.size_toArray, ints_length, ints_length, hr.flat, hr'.flat]) (fun k v hv => ?_)
 have := World.rangeAt_setCells_same w G 0 (ints hs.flatten) (by rw [ints_length, hr'.flat]; exact h.there hr) k v hv
 rwa [Nat.zero_add] at this

theorem tabR_new (w : World) (gs : List (List Int)) (t : TypeId) : TabR (w.alloc (.cells (ints gs.flatten).toArray t)) w.heap.size t gs := heap_alloc_new w _

theorem wpList_loadTabR {ops : Array Oper} {rest : List Oper} {op : Oper} {a : Act} {w : World} {Q : Exit → Act → World → Prop} {t : TypeId} {n : Nat} (ht : IsTab t n) (hgd : op.guard = none) (x : Operand) (ho : op.op = .load t x)
 (G : Nat) (gs : List (List Int)) (hx : a.eval x = .pointer (some ⟨G, 0, none⟩)) (hr : Rows7 n gs) (hT : TabR w G t gs)
 (h : wpList Try.prog ops Q rest (a.put op.dst (tabR gs)) w) : wpList Try.prog ops Q (op :: rest) a w :=
 wpList_load_mid hgd t x ho G 0 hx (ints gs.flatten) _ hT.range ht.und rfl (by rw [ht.size, ints_length, hr.flat]) h

theorem wpList_storeTabR {ops : Array Oper} {rest : List Oper} {op : Oper} {a : Act} {w : World} {Q : Exit → Act → World → Prop} {t t' : TypeId} {n : Nat} (ht : IsTab t n) (hgd : op.guard = none) (hdst : op.dst = none) (x y : Operand) (ho : op.op = .store t x y)
 (G : Nat) (gs hs : List (List Int)) (hx : a.eval x = .pointer (some ⟨G, 0, none⟩)) (hy : a.eval y = tabR hs) (hr : Rows7 n gs) (hr' : Rows7 n hs) (hT : TabR w G t' gs)
 (h : ∀ w', TabR w' G t' hs → w.grownBy w' (some G) → wpList Try.prog ops Q rest a w') : wpList Try.prog ops Q (op :: rest) a w :=
 wpList_store_mid hgd t x y ho G 0 (ints hs.flatten).toArray hx hy (by rw [List.size_toArray, ints_length, hr'.flat]; exact hT.there hr) (by rw [ht.size, List.size_toArray, ints_length, hr'.flat]) (ints_one _)
  (by rw [hdst, List.toList_toArray]; exact h _ (hT.copied hr hr') (grown_setCells7 _ _ _ _))

/-- A row that is stored; the world behind it by a name. -/
theorem wpList_storeRowR {ops : Array Oper} {rest : List Oper} {op : Oper} {a : Act} {w : World} {Q : Exit → Act → World → Prop} {t : TypeId} {n : Nat} (hgd : op.guard = none) (hdst : op.dst = none) (x y : Operand) (ho : op.op = .store 64 x y)
 (G j : Nat) (gs : List (List Int)) (xs : List Int) (hx : a.eval x = .pointer (some ⟨G, j * 7, none⟩)) (hy : a.eval y = relV xs) (hl : xs.length = 7) (hr : Rows7 n gs) (hj : j < n) (hT : TabR w G t gs)
 (h : ∀ w', TabR w' G t (gs.set j xs) → w.grownBy w' (some G) → wpList Try.prog ops Q rest a w') : wpList Try.prog ops Q (op :: rest) a w :=
 wpList_storeRel hgd hdst x y ho G (j * 7) xs hx hy hl (hT.thereRow hr hj) (h _ (hT.store hr hj hl) (grown_setCells7 _ _ _ _))

theorem bodyPost_tabR {fn : Func} {p : Tmp} {R : Ending → World → Prop} {a : Act} {w : World} {t : TypeId} {n : Nat} (ht : IsTab t n) (h : fn.results = #[.cell p t]) (G : Nat) (gs : List (List Int)) (hp : a.tmps.getD p undef = .pointer (some ⟨G, 0, none⟩)) (hr : Rows7 n gs) (hT : TabR w G t gs)
 (hdf : a.defers = []) (hR : R (.returned (tabR gs)) w) : bodyPost Try.prog fn R .ret a w :=
 bodyPost_cellR h G 0 (ints gs.flatten) _ hp hT.range ht.und rfl (by rw [ht.size, ints_length, hr.flat]) hdf hR

theorem tab_extract7 (gs : List (List Int)) {n : Nat} (hr : Rows7 n gs) (i : Nat) (hi : i < n) : (ints gs.flatten).toArray.extract (i * 7) (i * 7 + 7) = (ints (gs.getD i [])).toArray := by
 have hig : i < gs.length := by rw [hr.1]; exact hi
 have e : gs.getD i [] = gs[i] := by simp [List.getD, hig]
 have hri : gs[i].length = 7 := hr.2 _ (List.getElem_mem _)
 have hfl := hr.flat
 rw [e]
 apply Array.ext_getElem?
 intro k
 rw [Array.getElem?_extract]
 simp only [List.size_toArray, List.getElem?_toArray, ints_length]
 unfold ints
 by_cases hk : k < 7
 · rw [if_pos (by omega), List.getElem?_map, List.getElem?_map, Nat.mul_comm i 7, flat7_get gs hr.2 i k hk, List.getElem?_eq_getElem hig]
   simp
 · rw [if_neg (by omega), List.getElem?_eq_none (by simp; omega)]

theorem run_eqRows (d : Nat) (w : World) (gs hs : List (List Int)) {n : Nat} (hg : Rows7 n gs) (hh : Rows7 n hs) : ∀ is : List Nat, (∀ i ∈ is, i < n) →
 (Op.eqItems (d + 1 + 1) 64 7 (ints gs.flatten).toArray (ints hs.flatten).toArray is).run Try.prog w = .ok (is.all (fun i => decide (gs.getD i [] = hs.getD i []))) w
 | [], _ => by simp [Op.eqItems]
 | i :: is, h => by
  have hi := h i (by simp)
  have ih := run_eqRows d w gs hs hg hh is (fun j hj => h j (by simp [hj]))
  have hx := tab_extract7 gs hg i hi
  have hy := tab_extract7 hs hh i hi
  obtain ⟨t0, ht0⟩ : ∃ t, Try.prog.info? 64 = some t := Option.isSome_iff_exists.1 (by kernel_rfl)
  have hz : t0.size = 7 := by have := relInfo; rw [ht0] at this; simpa using this
  have p1 : (part 64 (ints gs.flatten).toArray (i * 7)).run Try.prog w = .ok (relV (gs.getD i [])) w := by
   unfold relV
   rw [← hx]
   simp [part, isAgg, run_underlying relUnd, sizeOf, typeInfo, ht0, hz]
  have p2 : (part 64 (ints hs.flatten).toArray (i * 7)).run Try.prog w = .ok (relV (hs.getD i [])) w := by
   unfold relV
   rw [← hy]
   simp [part, isAgg, run_underlying relUnd, sizeOf, typeInfo, ht0, hz]
  have p3 : (Op.equalIn (d + 1 + 1) 64 (relV (gs.getD i [])) (relV (hs.getD i []))).run Try.prog w = .ok (decide (gs.getD i [] = hs.getD i [])) w := by
   obtain ⟨i0, hi0⟩ : ∃ i, Try.prog.info? 2 = some i := Option.isSome_iff_exists.1 (by kernel_rfl)
   have hcell : Try.prog.cellsOf 2 = 1 := by kernel_rfl
   unfold relV
   have l1 := hg.row hi
   have l2 := hh.row hi
   rw [run_equalIn_array w (d + 1) _ _ relUnd hi0, hcell, run_eqInts d w _ _ _ (fun j hj => by simp at hj; omega)]
   congr 1
   rw [Bool.eq_iff_iff]
   simp only [List.all_eq_true, List.mem_range, decide_eq_true_eq]
   exact ⟨fun h => list7 l1 l2 h, fun h j _ => by rw [h]⟩
  simp only [Op.eqItems, Sem.run_bind, p1, p2, p3, Result.andThen_ok, List.all_cons]
  cases hb : (decide (gs.getD i [] = hs.getD i []))
  · simp
  · simpa using ih

theorem run_equalTabs {t : TypeId} {n : Nat} (ht : IsTab t n) (w : World) (gs hs : List (List Int)) (hg : Rows7 n gs) (hh : Rows7 n hs) : (Op.equal t (tabR gs) (tabR hs)).run Try.prog w = .ok (decide (gs = hs)) w := by
 obtain ⟨i, hi⟩ : ∃ i, Try.prog.info? 64 = some i := Option.isSome_iff_exists.1 (by kernel_rfl)
 have hcell : Try.prog.cellsOf 64 = 7 := by kernel_rfl
 unfold Op.equal tabR
 have hd : Op.maxDepth = 9997 + 1 + 1 + 1 := rfl
 rw [hd, run_equalIn_array w (9997 + 1 + 1) _ _ ht.und hi, hcell, run_eqRows 9997 w gs hs hg hh _ (fun i hi => by simpa using hi)]
 congr 1
 rw [Bool.eq_iff_iff]
 simp only [List.all_eq_true, List.mem_range, decide_eq_true_eq]
 exact ⟨fun h => list_getD (by rw [hg.1, hh.1]) (fun i hi => h i (by rw [← hg.1]; exact hi)), fun h j _ => by rw [h]⟩

theorem wpList_eqTabR {ops : Array Oper} {rest : List Oper} {op : Oper} {a : Act} {w : World} {Q : Exit → Act → World → Prop} {t : TypeId} {n : Nat} (ht : IsTab t n) (hgd : op.guard = none) (x y : Operand) (ho : op.op = .binOp .eql t x y t)
 (gs hs : List (List Int)) (hx : a.eval x = tabR gs) (hy : a.eval y = tabR hs) (hg : Rows7 n gs) (hh : Rows7 n hs) (b : Bool) (hb : decide (gs = hs) = b)
 (h : wpList Try.prog ops Q rest (a.put op.dst (.bool b)) w) : wpList Try.prog ops Q (op :: rest) a w := by
 subst hb
 refine wpList_plain hgd fun K hK => ?_
 have h1 : (eqGuard .eql t x y (tabR gs) (tabR hs)).run Try.prog w = .ok () w := by
  unfold eqGuard tabR
  have hp : (program).run Try.prog w = .ok Try.prog w := rfl
  simp [hp, ht.guard]
 have h2 : (binOp .eql t (tabR gs) (tabR hs)).run Try.prog w = .ok (.bool (decide (gs = hs))) w := by
  have he := run_equalTabs ht w gs hs hg hh
  unfold tabR at he ⊢
  unfold binOp
  simp [he]
 unfold Oper.wp execOp
 simp only [ho, hx, hy, Sem.run_bind, h1, h2, Result.andThen_ok]
 exact hK _ _ h

/-- The same, at an operation that is written out: it fits nowhere else. -/
theorem wpList_eqTabR' {ops : Array Oper} {rest : List Oper} {d : Option Tmp} {x y : Operand} {ty : TypeId} {pos : String} {af : Array Edge} {a : Act} {w : World} {Q : Exit → Act → World → Prop} {t : TypeId} {n : Nat} (ht : IsTab t n)
 (gs hs : List (List Int)) (b : Bool) (hx : a.eval x = tabR gs) (hy : a.eval y = tabR hs) (hg : Rows7 n gs) (hh : Rows7 n hs) (hb : decide (gs = hs) = b)
 (h : wpList Try.prog ops Q rest (a.put ({ dst := d, op := .binOp .eql t x y t, type := ty, pos := pos, after := af, guard := none } : Oper).dst (.bool b)) w) : wpList Try.prog ops Q ({ dst := d, op := .binOp .eql t x y t, type := ty, pos := pos, after := af, guard := none } :: rest) a w :=
 wpList_eqTabR ht rfl x y rfl gs hs hx hy hg hh b hb h

theorem wpList_loadTabL {ops : Array Oper} {rest : List Oper} {d : Option Tmp} {x : Operand} {ty : TypeId} {pos : String} {af : Array Edge} {a : Act} {w : World} {Q : Exit → Act → World → Prop} {t : TypeId} {n : Nat} (ht : IsTab t n)
 (G : Nat) (gs : List (List Int)) (hx : a.eval x = .pointer (some ⟨G, 0, none⟩)) (hr : Rows7 n gs) (hT : TabR w G t gs)
 (h : wpList Try.prog ops Q rest (a.put ({ dst := d, op := .load t x, type := ty, pos := pos, after := af, guard := none } : Oper).dst (tabR gs)) w) : wpList Try.prog ops Q ({ dst := d, op := .load t x, type := ty, pos := pos, after := af, guard := none } :: rest) a w :=
 wpList_loadTabR ht rfl x rfl G gs hx hr hT h

theorem wpList_storeTabL {ops : Array Oper} {rest : List Oper} {x y : Operand} {ty : TypeId} {pos : String} {af : Array Edge} {a : Act} {w : World} {Q : Exit → Act → World → Prop} {t t' : TypeId} {n : Nat} (ht : IsTab t n)
 (G : Nat) (gs hs : List (List Int)) (hx : a.eval x = .pointer (some ⟨G, 0, none⟩)) (hy : a.eval y = tabR hs) (hr : Rows7 n gs) (hr' : Rows7 n hs) (hT : TabR w G t' gs)
 (h : ∀ w', TabR w' G t' hs → w.grownBy w' (some G) → wpList Try.prog ops Q rest a w') : wpList Try.prog ops Q ({ dst := none, op := .store t x y, type := ty, pos := pos, after := af, guard := none } :: rest) a w :=
 wpList_storeTabR ht rfl rfl x y rfl G gs hs hx hy hr hr' hT h

theorem wpList_storeRowL {ops : Array Oper} {rest : List Oper} {x y : Operand} {ty : TypeId} {pos : String} {af : Array Edge} {a : Act} {w : World} {Q : Exit → Act → World → Prop} {t : TypeId} {n : Nat}
 (G j : Nat) (gs : List (List Int)) (xs : List Int) (hx : a.eval x = .pointer (some ⟨G, j * 7, none⟩)) (hy : a.eval y = relV xs) (hl : xs.length = 7) (hr : Rows7 n gs) (hj : j < n) (hT : TabR w G t gs)
 (h : ∀ w', TabR w' G t (gs.set j xs) → w.grownBy w' (some G) → wpList Try.prog ops Q rest a w') : wpList Try.prog ops Q ({ dst := none, op := .store 64 x y, type := ty, pos := pos, after := af, guard := none } :: rest) a w :=
 wpList_storeRowR rfl rfl x y rfl G j gs xs hx hy hl hr hj hT h

/-- A relation that is loaded, that is stored, at an operation that is written out. -/
theorem wpList_loadRelL {ops : Array Oper} {rest : List Oper} {d : Option Tmp} {x : Operand} {ty : TypeId} {pos : String} {af : Array Edge} {a : Act} {w : World} {Q : Exit → Act → World → Prop}
 (b o : Nat) (xs : List Int) (hx : a.eval x = .pointer (some ⟨b, o, none⟩)) (hl : xs.length = 7) (hc : w.rangeAt b o (ints xs))
 (h : wpList Try.prog ops Q rest (a.put ({ dst := d, op := .load 64 x, type := ty, pos := pos, after := af, guard := none } : Oper).dst (relV xs)) w) : wpList Try.prog ops Q ({ dst := d, op := .load 64 x, type := ty, pos := pos, after := af, guard := none } :: rest) a w :=
 wpList_loadRel rfl x rfl b o xs hx hl hc h

theorem wpList_storeRelL {ops : Array Oper} {rest : List Oper} {x y : Operand} {ty : TypeId} {pos : String} {af : Array Edge} {a : Act} {w : World} {Q : Exit → Act → World → Prop}
 (B : Nat) (zs xs : List Int) (hx : a.eval x = .pointer (some ⟨B, 0, none⟩)) (hy : a.eval y = relV xs) (hl : xs.length = 7) (hz : zs.length = 7) (hT : RelAt w B zs)
 (h : ∀ w', RelAt w' B xs → w.grownBy w' (some B) → wpList Try.prog ops Q rest a w') : wpList Try.prog ops Q ({ dst := none, op := .store 64 x y, type := ty, pos := pos, after := af, guard := none } :: rest) a w :=
 wpList_storeRel rfl rfl x y rfl B 0 xs hx hy hl (hz ▸ hT.there) (h _ (hT.store (hl.trans hz.symm)) (grown_setCells7 _ _ _ _))

theorem isTab4 : IsTab 88 4 where
 und := by kernel_rfl
 guard := by kernel_rfl
 size := (zero_of_info (P := Try.prog) (t := 88) (v := tabR (List.replicate 4 zero7)) (n := 28) (by kernel_rfl)).2
 zero := (zero_of_info (P := Try.prog) (t := 88) (v := tabR (List.replicate 4 zero7)) (n := 28) (by kernel_rfl)).1

theorem isTab12 : IsTab 66 12 where
 und := by kernel_rfl
 guard := by kernel_rfl
 size := (zero_of_info (P := Try.prog) (t := 66) (v := tabR (List.replicate 12 zero7)) (n := 84) (by kernel_rfl)).2
 zero := (zero_of_info (P := Try.prog) (t := 66) (v := tabR (List.replicate 12 zero7)) (n := 84) (by kernel_rfl)).1

end Go.Proofs.Ytnjbihfceckpfaa
