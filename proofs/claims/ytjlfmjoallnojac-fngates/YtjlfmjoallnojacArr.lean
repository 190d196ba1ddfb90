/-
  Sets of statements as arrays: how they are loaded, stored and compared; with, common, everyStmt.
-/
import Derived.Test.YtjlfmjoallnojacQueueS
import Derived.Deep.WholeRow
import Derived.Deep.MidRow
import Derived.ChangeKeysEq
namespace Go.Proofs.Ytjlfmjoallnojac
open Go.RowKit
set_option linter.unusedVariables false
set_option maxHeartbeats 1000000



abbrev bls (bs : List Bool) : List Value := bs.map .bool

/-- A set as a value. -/
def setV (bs : List Bool) : Value := .agg (bls bs).toArray

theorem setInfo : (Try.prog.info? 40).map (·.size) = some 12 := by kernel_rfl
theorem setUnd : Try.prog.underlying 40 = some (.array 12 4) := by kernel_rfl

theorem bls_one (bs : List Bool) : (bls bs).toArray.all (·.oneCell') = true := all_oneCell_toArray (fun v hv => by simp only [List.mem_map] at hv; obtain ⟨b, _, rfl⟩ := hv; rfl)

theorem wpList_loadSet {ops : Array Oper} {rest : List Oper} {op : Oper} {a : Act} {w : World} {Q : Exit → Act → World → Prop} (hgd : op.guard = none) (x : Operand) (ho : op.op = .load 40 x)
    (b o : Nat) (bs : List Bool) (hx : a.eval x = .pointer (some ⟨b, o, none⟩)) (hl : bs.length = 12) (hc : w.rangeAt b o (bls bs))
    (h : wpList Try.prog ops Q rest (a.put op.dst (setV bs)) w) : wpList Try.prog ops Q (op :: rest) a w :=
  wpList_load_mid hgd 40 x ho b o hx (bls bs) _ hc setUnd rfl (by rw [setInfo]; simp [bls, hl]) h

theorem wpList_storeSet {ops : Array Oper} {rest : List Oper} {op : Oper} {a : Act} {w : World} {Q : Exit → Act → World → Prop} (hgd : op.guard = none) (hdst : op.dst = none) (x y : Operand) (ho : op.op = .store 40 x y)
    (b o : Nat) (bs : List Bool) (hx : a.eval x = .pointer (some ⟨b, o, none⟩)) (hy : a.eval y = setV bs) (hl : bs.length = 12) (ht : w.there b o 12)
    (h : wpList Try.prog ops Q rest a (w.setCells b o (bls bs))) : wpList Try.prog ops Q (op :: rest) a w :=
  wpList_store_mid hgd 40 x y ho b o (bls bs).toArray hx hy (by simpa [bls, hl] using ht) (by rw [setInfo]; simp [bls, hl]) (bls_one bs) (by rw [hdst, List.toList_toArray]; exact h)

theorem step_storeSet {ops : Array Oper} {o : Oper} {a : Act} {w : World} {K : Act → World → Prop} {Q : Exit → Act → World → Prop} {E : Prop} (hgd : o.guard = none) (hdst : o.dst = none) (x y : Operand) (ho : o.op = .store 40 x y)
    (b off : Nat) (bs : List Bool) (hx : a.eval x = .pointer (some ⟨b, off, none⟩)) (hy : a.eval y = setV bs) (hl : bs.length = 12) (ht : w.there b off 12)
    (h : K a (w.setCells b off (bls bs))) : if Region.wanted o (yielded ops a.tmps) = true then Oper.wp Try.prog o a w K Q else E := by
  have hw : Region.wanted o (yielded ops a.tmps) = true := by simp [Region.wanted, hgd]
  rw [if_pos hw]
  exact wp_store_mid 40 x y ho b off (bls bs).toArray hx hy (by simpa [bls, hl] using ht) (by rw [setInfo]; simp [bls, hl]) (bls_one bs) (by rw [hdst, List.toList_toArray]; exact h)

theorem range_new (w : World) (cs : List Value) (t : TypeId) : (w.alloc (.cells cs.toArray t)).rangeAt w.heap.size 0 cs := fun j v hv => by
  rw [Nat.zero_add, cell_of_row _ _ j _ t (0, 0) (heap_alloc_last w _)]
  simpa using hv

theorem there_new (w : World) (cs : List Value) (t : TypeId) (n : Nat) (hn : n ≤ cs.length) : (w.alloc (.cells cs.toArray t)).there w.heap.size 0 n := fun j hj => by
  refine ⟨?_, ?_⟩
  · rw [Nat.zero_add, cell_of_row _ _ j _ t (0, 0) (heap_alloc_last w _)]
    simp; omega
  · exact frozen_of_row _ _ _ _ t (heap_alloc_last w _)

theorem bodyPost_cell {fn : Func} {p : Tmp} {ty : TypeId} {R : Ending → World → Prop} {a : Act} {w : World} (h : fn.results = #[.cell p ty]) (b o : Nat) (cs : List Value) (d : TypeDesc)
    (hp : a.tmps.getD p undef = .pointer (some ⟨b, o, none⟩)) (hc : w.rangeAt b o cs) (hu : Try.prog.underlying ty = some d) (hd : d.isRow = true) (hi : (Try.prog.info? ty).map (·.size) = some cs.length)
    (hdf : a.defers = []) (hR : R (.returned (.agg cs.toArray)) w) : bodyPost Try.prog fn R .ret a w := by
  refine bodyPost_ret (v := .agg cs.toArray) ?_ hdf hR
  simp only [results, h]
  simp [Sem.run_bind, Result.andThen, asAddr]
  rw [← Array.getD_eq_getD_getElem?, hp]
  simp [run_loadVar_mid w b o ty cs d hc hu hd hi]

theorem bcell_of {w : World} {B : Nat} {t : TypeId} {bs : List Bool} (h : w.heap[B]? = some (.cells (bls bs).toArray t (0, 0))) (j : Nat) (hj : j < bs.length) : w.cell? ⟨B, j, none⟩ = some (.bool bs[j]) ∧ w.frozen? ⟨B, j, none⟩ = false := by
  refine ⟨?_, frozen_of_row w B j _ t h⟩
  rw [cell_of_row w B j _ t (0, 0) h]
  simp [bls, hj]

theorem bcell_set {w : World} {B : Nat} {t : TypeId} {bs : List Bool} (h : w.heap[B]? = some (.cells (bls bs).toArray t (0, 0))) (j : Nat) (x : Bool) : (w.setCell ⟨B, j, none⟩ (.bool x)).heap[B]? = some (.cells (bls (bs.set j x)).toArray t (0, 0)) := by
  have := heap_setCell_same w B j _ t (.bool x) h
  rw [this]
  simp [bls, List.map_set]

theorem range_of {w : World} {B : Nat} {t : TypeId} {bs : List Bool} (h : w.heap[B]? = some (.cells (bls bs).toArray t (0, 0))) : w.rangeAt B 0 (bls bs) := fun j v hv => by
  rw [Nat.zero_add, cell_of_row w B j _ t (0, 0) h]
  simpa using hv

theorem there_of {w : World} {B : Nat} {t : TypeId} {bs : List Bool} (h : w.heap[B]? = some (.cells (bls bs).toArray t (0, 0))) : w.there B 0 bs.length := fun j hj => by
  rw [Nat.zero_add]
  obtain ⟨h1, h2⟩ := bcell_of h j hj
  exact ⟨by rw [h1]; rfl, h2⟩

theorem set_lt {w : World} {B : Nat} {t : TypeId} {cs : Array Value} {f : Nat × Nat} (h : w.heap[B]? = some (.cells cs t f)) : B < w.heap.size := (Array.getElem?_eq_some_iff.1 h).1

theorem setWith (bs : List Bool) (i : Nat) (w : World) (hi : i < 12) (hl : bs.length = 12) :
    Calls Try.prog 19 #[setV bs, .int .i64 i] w fun e w' => e = .returned (setV (bs.set i true)) ∧ Below w.heap.size w w' := by
  have hr : (bls bs).set i (.bool true) = bls (bs.set i true) := by simp [bls, List.map_set]
  have hl2 : (bs.set i true).length = 12 := by simpa using hl
  unfold setV
  have hi' : (i : Int) < 12 := by omega
  obtain ⟨cs, hcs⟩ : ∃ cs, bls bs = cs := ⟨_, rfl⟩
  have hcl : cs.length = 12 := by rw [← hcs]; simpa using hl
  rw [hcs] at hr ⊢
  have HR : Hid (cs.set i (.bool true) = bls (bs.set i true)) := hr
  clear hr hcs
  obtain ⟨ds, hds⟩ : ∃ ds, bs.set i true = ds := ⟨_, rfl⟩
  rw [hds] at hl2 HR ⊢
  clear hds
  go_enter Try.func19, Try.ntmps19
  go_wp2_with (first | refine wpList_loadSet rfl (.tmp 2) rfl w.heap.size 0 ds rfl hl2 ?_ ?_ | refine wpList_storeSet rfl rfl (.tmp 4) (.tmp 7) rfl (w.heap.size + 1) 0 ds rfl rfl hl2 ?_ ?_)
  · rw [HR.out]
    exact World.rangeAt_alloc (range_new _ _ _) _
  · have := there_new (w.alloc (.cells (cs.set i (.bool true)).toArray 40)) [.bool false, .bool false, .bool false, .bool false, .bool false, .bool false, .bool false, .bool false, .bool false, .bool false, .bool false, .bool false] 40 12 (by simp)
    simpa using this
  · have ht := there_new (w.alloc (.cells (cs.set i (.bool true)).toArray 40)) [.bool false, .bool false, .bool false, .bool false, .bool false, .bool false, .bool false, .bool false, .bool false, .bool false, .bool false, .bool false] 40 12 (by simp)
    have hs : (w.alloc (.cells (cs.set i (.bool true)).toArray 40)).heap.size = w.heap.size + 1 := by simp
    rw [hs] at ht
    refine bodyPost_cell rfl (w.heap.size + 1) 0 (bls ds) _ rfl (World.rangeAt_setCells_same _ _ _ _ (by simpa [hl2] using ht)) setUnd rfl (by rw [setInfo]; simp [hl2]) rfl ⟨rfl, ?_⟩
    exact Below.grown (by go_grown) (grown_setCells _ _ _ _) (by simp; omega) (fun k hk => by simp at hk; omega)

theorem list12 {L M : List Bool} (hl : L.length = 12) (hm : M.length = 12) (h : ∀ j, j < 12 → L.getD j false = M.getD j false) : L = M := by
  refine List.ext_getElem (by omega) (fun j h1 h2 => ?_)
  have := h j (by omega)
  simpa [List.getD, h1, h2] using this

theorem falses : (#[.bool false, .bool false, .bool false, .bool false, .bool false, .bool false, .bool false, .bool false, .bool false, .bool false, .bool false, .bool false] : Array Value) = (bls (List.replicate 12 false)).toArray := rfl

theorem setCommon (bs cs : List Bool) (w : World) (hl : bs.length = 12) (hc : cs.length = 12) :
    Calls Try.prog 33 #[setV bs, setV cs] w fun e w' => e = .returned (setV (List.zipWith (· && ·) bs cs)) ∧ Below w.heap.size w w' := by
  obtain ⟨ds, hds⟩ : ∃ ds, List.zipWith (· && ·) bs cs = ds := ⟨_, rfl⟩
  have hdl : ds.length = 12 := by rw [← hds]; simp [hl, hc]
  have hdg : ∀ j, j < 12 → ds.getD j false = (bs.getD j false && cs.getD j false) := fun j hj => by
    rw [← hds]
    have h1 : j < bs.length := by omega
    have h2 : j < cs.length := by omega
    simp [List.getD, List.getElem?_zipWith, h1, h2]
  rw [hds]
  have HDG : Hid (∀ j, j < 12 → ds.getD j false = (bs.getD j false && cs.getD j false)) := hdg
  clear hds hdg
  unfold setV
  go_enter Try.func33, Try.ntmps33
  go_wp2_with fail
  rw [falses]
  obtain ⟨W3, hW3⟩ : ∃ W3, ((w.alloc (.cells (bls bs).toArray 40)).alloc (.cells (bls cs).toArray 40)).alloc (.cells (bls (List.replicate 12 false)).toArray 40) = W3 := ⟨_, rfl⟩
  have B0 : W3.heap[w.heap.size]? = some (.cells (bls bs).toArray 40 (0, 0)) := by
    rw [← hW3, old_block (by simp; omega), old_block (by simp)]; exact heap_alloc_new w _
  have B1 : W3.heap[w.heap.size + 1]? = some (.cells (bls cs).toArray 40 (0, 0)) := by
    rw [← hW3, old_block (by simp)]
    have := heap_alloc_new (w.alloc (.cells (bls bs).toArray 40)) (.cells (bls cs).toArray 40)
    simpa using this
  have B2 : W3.heap[w.heap.size + 1 + 1]? = some (.cells (bls (List.replicate 12 false)).toArray 40 (0, 0)) := by
    rw [← hW3]
    have := heap_alloc_new ((w.alloc (.cells (bls bs).toArray 40)).alloc (.cells (bls cs).toArray 40)) (.cells (bls (List.replicate 12 false)).toArray 40)
    simpa using this
  have L0 : Below w.heap.size w W3 := by rw [← hW3]; go_grown
  rw [hW3]
  clear hW3
  go_loopw [5, 6] (fun _ i wr => ∃ (k : Nat) (L : List Bool), k ≤ 12 ∧ i = .int .i64 k ∧ L.length = 12 ∧ (∀ j, j < 12 → L.getD j false = if j < k then (bs.getD j false && cs.getD j false) else bs.getD j false) ∧
      wr.heap[w.heap.size]? = some (.cells (bls L).toArray 40 (0, 0)) ∧ wr.heap[w.heap.size + 1]? = some (.cells (bls cs).toArray 40 (0, 0)) ∧
      wr.heap[w.heap.size + 1 + 1]? = some (.cells (bls (List.replicate 12 false)).toArray 40 (0, 0)) ∧ Below w.heap.size w wr) (fun _ i _ => 12 - (intOf i).toNat)
  case atStart => exact ⟨0, bs, by omega, rfl, hl, fun j _ => by simp, B0, B1, B2, L0⟩
  case round =>
    obtain ⟨k, L, hk, rfl, hL, hLg, b0, b1, b2, hb⟩ := hrel
    clear B0 B1 B2 L0
    by_cases hlt : k < 12
    · have hlt' : (k : Int) < 12 := by omega
      obtain ⟨c0, f0⟩ := bcell_of b0 k (by omega)
      obtain ⟨c1, f1⟩ := bcell_of b1 k (by omega)
      have e0 : L[k]'(by omega) = bs.getD k false := by
        have := hLg k hlt
        rw [if_neg (by omega)] at this
        rw [← this]; simp [List.getD, hL, hlt]
      have e1 : cs[k]'(by omega) = cs.getD k false := by simp [List.getD, hc, hlt]
      rw [e0] at c0
      rw [e1] at c1
      have H0 : Hid (wr.heap[w.heap.size]? = some (.cells (bls L).toArray 40 (0, 0))) := b0
      have H1 : Hid (wr.heap[w.heap.size + 1]? = some (.cells (bls cs).toArray 40 (0, 0))) := b1
      have H2 : Hid (wr.heap[w.heap.size + 1 + 1]? = some (.cells (bls (List.replicate 12 false)).toArray 40 (0, 0))) := b2
      have HL : Hid (∀ j, j < 12 → L.getD j false = if j < k then (bs.getD j false && cs.getD j false) else bs.getD j false) := hLg
      clear b0 b1 b2 hLg e0 e1
      obtain ⟨x, hx⟩ : ∃ x, bs.getD k false = x := ⟨_, rfl⟩
      obtain ⟨y, hy⟩ : ∃ y, cs.getD k false = y := ⟨_, rfl⟩
      have HX : Hid (bs.getD k false = x) := hx
      have HY : Hid (cs.getD k false = y) := hy
      rw [hx] at c0
      rw [hy] at c1
      clear hx hy
      have fin : ∀ z, z = (x && y) → ∃ (k' : Nat) (L' : List Bool), k' ≤ 12 ∧ Value.int .i64 ((k : Int) + 1) = .int .i64 k' ∧ L'.length = 12 ∧ (∀ j, j < 12 → L'.getD j false = if j < k' then (bs.getD j false && cs.getD j false) else bs.getD j false) ∧
          (wr.setCell ⟨w.heap.size, k, none⟩ (.bool z)).heap[w.heap.size]? = some (.cells (bls L').toArray 40 (0, 0)) ∧ (wr.setCell ⟨w.heap.size, k, none⟩ (.bool z)).heap[w.heap.size + 1]? = some (.cells (bls cs).toArray 40 (0, 0)) ∧
          (wr.setCell ⟨w.heap.size, k, none⟩ (.bool z)).heap[w.heap.size + 1 + 1]? = some (.cells (bls (List.replicate 12 false)).toArray 40 (0, 0)) ∧ Below w.heap.size w (wr.setCell ⟨w.heap.size, k, none⟩ (.bool z)) := by
        intro z hz
        refine ⟨k + 1, L.set k z, by omega, by go_num, by simpa using hL, fun j hj => ?_, bcell_set H0.out k z, ((grown_setCell1 wr w.heap.size k (.bool z)).block _ (set_lt H1.out) (by simp)).trans H1.out, ((grown_setCell1 wr w.heap.size k (.bool z)).block _ (set_lt H2.out) (by simp; omega)).trans H2.out, hb.setCell (Nat.le_refl _) _⟩
        by_cases hjk : j = k
        · subst hjk
          rw [if_pos (by omega), HX.out, HY.out, ← hz]
          simp [List.getD, hL, hj]
        · have := HL.out j hj
          have e : (L.set k z).getD j false = L.getD j false := by simp [List.getD, List.getElem?_set_ne (fun e => hjk e.symm)]
          rw [e, this]
          by_cases hjk2 : j < k
          · rw [if_pos hjk2, if_pos (by omega)]
          · rw [if_neg hjk2, if_neg (by omega)]
      have FIN : Hid _ := fin
      clear fin
      cases x
      · go_wp2
        go_roundw
        case rel => exact FIN.out false rfl
        case measure => simp [intOf]; omega
      · go_wp2
        go_roundw
        case rel => exact FIN.out y (by simp)
        case measure => simp [intOf]; omega
    · have hkk : k = 12 := by omega
      subst hkk
      have hLd : L = ds := list12 hL hdl (fun j hj => by rw [hLg j hj, if_pos hj, HDG.out j hj])
      subst hLd
      have H0 : Hid (wr.heap[w.heap.size]? = some (.cells (bls L).toArray 40 (0, 0))) := b0
      have H2 : Hid (wr.heap[w.heap.size + 1 + 1]? = some (.cells (bls (List.replicate 12 false)).toArray 40 (0, 0))) := b2
      clear b0 b2 hLg HDG
      go_wp2_with (first | refine wpList_loadSet rfl (.tmp 2) rfl w.heap.size 0 L rfl hL (range_of H0.out) ?_ | refine wpList_storeSet rfl rfl (.tmp 4) (.tmp 20) rfl (w.heap.size + 1 + 1) 0 L rfl rfl hL (there_of H2.out) ?_)
      refine bodyPost_cell rfl (w.heap.size + 1 + 1) 0 (bls L) _ rfl (World.rangeAt_setCells_same _ _ _ _ (by simpa [hL] using there_of H2.out)) setUnd rfl (by rw [setInfo]; simp [hL]) rfl ⟨rfl, ?_⟩
      exact hb.grown (grown_setCells _ _ _ _) (by have := hb.size; omega) (fun k hk => by simp at hk; omega)

def allT : List Bool := List.replicate 12 true
theorem allT_length : allT.length = 12 := rfl
theorem allT_at (j : Nat) (hj : j < 12) : allT.getD j false = true := by
  unfold allT
  rw [List.getD_eq_getElem?_getD, List.getElem?_replicate, if_pos hj]; rfl

theorem everyS (w : World) :
    Calls Try.prog 31 #[] w fun e w' => e = .returned (setV allT) ∧ Below w.heap.size w w' := by
  obtain ⟨ds, hds⟩ : ∃ ds, allT = ds := ⟨_, rfl⟩
  have hdl : ds.length = 12 := by rw [← hds]; exact allT_length
  have hdg : ∀ j, j < 12 → ds.getD j false = true := fun j hj => by
    rw [← hds]; exact allT_at j hj
  rw [hds]
  have HDG : Hid (∀ j, j < 12 → ds.getD j false = true) := hdg
  clear hds hdg
  go_enter Try.func31, Try.ntmps31
  go_wp2_with fail
  rw [falses]
  obtain ⟨W3, hW3⟩ : ∃ W3, (w.alloc (.cells (bls (List.replicate 12 false)).toArray 40)).alloc (.cells (bls (List.replicate 12 false)).toArray 40) = W3 := ⟨_, rfl⟩
  have B0 : W3.heap[w.heap.size]? = some (.cells (bls (List.replicate 12 false)).toArray 40 (0, 0)) := by
    rw [← hW3, old_block (by simp)]; exact heap_alloc_new w _
  have B1 : W3.heap[w.heap.size + 1]? = some (.cells (bls (List.replicate 12 false)).toArray 40 (0, 0)) := by
    rw [← hW3]
    have := heap_alloc_new (w.alloc (.cells (bls (List.replicate 12 false)).toArray 40)) (.cells (bls (List.replicate 12 false)).toArray 40)
    simpa using this
  have L0 : Below w.heap.size w W3 := by rw [← hW3]; go_grown
  rw [hW3]
  clear hW3
  go_loopw [2, 3] (fun _ i wr => ∃ (k : Nat) (L : List Bool), k ≤ 12 ∧ i = .int .i64 k ∧ L.length = 12 ∧ (∀ j, j < k → L.getD j false = true) ∧
      wr.heap[w.heap.size]? = some (.cells (bls (List.replicate 12 false)).toArray 40 (0, 0)) ∧ wr.heap[w.heap.size + 1]? = some (.cells (bls L).toArray 40 (0, 0)) ∧
      Below w.heap.size w wr) (fun _ i _ => 12 - (intOf i).toNat)
  case atStart => exact ⟨0, _, by omega, rfl, by simp, fun j _ => by omega, B0, B1, L0⟩
  case round =>
    obtain ⟨k, L, hk, rfl, hL, hLg, b0, b1, hb⟩ := hrel
    clear B0 B1 L0
    have H0 : Hid (wr.heap[w.heap.size]? = some (.cells (bls (List.replicate 12 false)).toArray 40 (0, 0))) := b0
    have H1 : Hid (wr.heap[w.heap.size + 1]? = some (.cells (bls L).toArray 40 (0, 0))) := b1
    have HL : Hid (∀ j, j < k → L.getD j false = true) := hLg
    by_cases hlt : k < 12
    · have hlt' : (k : Int) < 12 := by omega
      obtain ⟨c1, f1⟩ := bcell_of b1 k (by omega)
      clear b0 b1 hLg
      generalize L[k]'(by omega) = x at c1
      go_wp2
      go_roundw
      case rel =>
        refine ⟨k + 1, L.set k true, by omega, by go_num, by simpa using hL, fun j hj => ?_, ((grown_setCell1 wr (w.heap.size + 1) k (.bool true)).block _ (set_lt H0.out) (by simp)).trans H0.out, bcell_set H1.out k true, hb.setCell (by simp) _⟩
        by_cases hjk : j = k
        · subst hjk
          simp [List.getD, hL, hlt]
        · have e : (L.set k true).getD j false = L.getD j false := by simp [List.getD, List.getElem?_set_ne (fun e => hjk e.symm)]
          rw [e, HL.out j (by omega)]
      case measure => simp [intOf]; omega
    · have hkk : k = 12 := by omega
      subst hkk
      have hLd : L = ds := list12 hL hdl (fun j hj => by rw [hLg j hj, HDG.out j hj])
      subst hLd
      clear b0 b1 hLg HDG
      go_wp2_with (first | refine wpList_loadSet rfl (.tmp 1) rfl (w.heap.size + 1) 0 L rfl hL (range_of H1.out) ?_ | refine wpList_storeSet rfl rfl (.tmp 0) (.tmp 9) rfl w.heap.size 0 L rfl rfl hL (there_of H0.out) ?_)
      refine bodyPost_cell rfl w.heap.size 0 (bls L) _ rfl (World.rangeAt_setCells_same _ _ _ _ (by simpa [hL] using there_of H0.out)) setUnd rfl (by rw [setInfo]; simp [hL]) rfl ⟨rfl, ?_⟩
      exact hb.grown (grown_setCells _ _ _ _) (by have := hb.size; omega) (fun k hk => by simp at hk; omega)

theorem run_eqBools (d : Nat) (w : World) (bs cs : List Bool) : ∀ is : List Nat, (∀ i ∈ is, i < bs.length ∧ i < cs.length) →
    (Op.eqItems (d + 1) 4 1 (bls bs).toArray (bls cs).toArray is).run Try.prog w = .ok (is.all (fun i => bs.getD i false == cs.getD i false)) w
  | [], _ => by simp [Op.eqItems]
  | i :: is, h => by
    obtain ⟨h1, h2⟩ := h i (by simp)
    have ih := run_eqBools d w bs cs is (fun j hj => h j (by simp [hj]))
    have hu : Try.prog.underlying 4 = some .bool := by kernel_rfl
    have p1 : (part 4 (bls bs).toArray (i * 1)).run Try.prog w = .ok (.bool bs[i]) w := by
      simp [part, isAgg, run_underlying hu, h1]
    have p2 : (part 4 (bls cs).toArray (i * 1)).run Try.prog w = .ok (.bool cs[i]) w := by
      simp [part, isAgg, run_underlying hu, h2]
    have p3 : (Op.equalIn (d + 1) 4 (.bool bs[i]) (.bool cs[i])).run Try.prog w = .ok (bs[i] == cs[i]) w := by
      simp [Op.equalIn, run_underlying hu]
    have e1 : bs.getD i false = bs[i] := by simp [List.getD, h1]
    have e2 : cs.getD i false = cs[i] := by simp [List.getD, h2]
    simp only [Op.eqItems, Sem.run_bind, p1, p2, p3, Result.andThen_ok, List.all_cons, e1, e2]
    cases hb : (bs[i] == cs[i])
    · simp
    · simpa using ih

theorem run_equalSets (w : World) (bs cs : List Bool) (hl : bs.length = 12) (hc : cs.length = 12) : (Op.equal 40 (setV bs) (setV cs)).run Try.prog w = .ok (decide (bs = cs)) w := by
  obtain ⟨i, hi⟩ : ∃ i, Try.prog.info? 4 = some i := Option.isSome_iff_exists.1 (by kernel_rfl)
  have hcell : Try.prog.cellsOf 4 = 1 := by kernel_rfl
  unfold Op.equal setV
  have hd : Op.maxDepth = 9998 + 1 + 1 := rfl
  rw [hd, run_equalIn_array w (9998 + 1) _ _ setUnd hi, hcell, run_eqBools 9998 w bs cs _ (fun i hi => by simp at hi; omega)]
  congr 1
  rw [Bool.eq_iff_iff]
  simp only [List.all_eq_true, List.mem_range, beq_iff_eq, decide_eq_true_eq]
  exact ⟨fun h => list12 hl hc h, fun h j _ => by rw [h]⟩

theorem there_c (w : World) : (w.alloc (.cells #[.bool false, .bool false, .bool false, .bool false, .bool false, .bool false, .bool false, .bool false, .bool false, .bool false, .bool false, .bool false] 40)).there w.heap.size 0 12 := there_new w (bls (List.replicate 12 false)) _ 12 (by simp)

theorem there_b {w w5 : World} (b5 : Below (w.alloc (.cells #[.bool false, .bool false, .bool false, .bool false, .bool false, .bool false, .bool false, .bool false, .bool false, .bool false, .bool false, .bool false] 40)).heap.size (w.alloc (.cells #[.bool false, .bool false, .bool false, .bool false, .bool false, .bool false, .bool false, .bool false, .bool false, .bool false, .bool false, .bool false] 40)) w5) : w5.there w.heap.size 0 12 := by
  refine there_of (bs := List.replicate 12 false) (t := 40) ?_
  exact (b5.block _ (by simp)).trans (heap_alloc_new w _)

theorem there_a {w w4 w5 : World} {X : Nat} (hX : X = w.heap.size) (b4 : Below (w.alloc (.cells #[.bool false, .bool false, .bool false, .bool false, .bool false, .bool false, .bool false, .bool false, .bool false, .bool false, .bool false, .bool false] 40)).heap.size (w.alloc (.cells #[.bool false, .bool false, .bool false, .bool false, .bool false, .bool false, .bool false, .bool false, .bool false, .bool false, .bool false, .bool false] 40)) w4) (b5 : Below w4.heap.size w4 w5) : w5.there X 0 12 := by
  subst hX
  refine there_of (bs := List.replicate 12 false) (t := 40) ?_
  have h4 := (b4.block w.heap.size (by simp)).trans (heap_alloc_new w _)
  exact (b5.block _ (set_lt h4)).trans h4

theorem setSize (bs : List Bool) (h : bs.length = 12) : (Try.prog.info? 40).map (·.size) = some (bls bs).length := by rw [setInfo, List.length_map, h]
theorem setOne (bs : List Bool) : ∀ v ∈ bls bs, v.oneCell' = true := fun v hv => by simp only [List.mem_map] at hv; obtain ⟨b, _, rfl⟩ := hv; rfl

end Go.Proofs.Ytjlfmjoallnojac
