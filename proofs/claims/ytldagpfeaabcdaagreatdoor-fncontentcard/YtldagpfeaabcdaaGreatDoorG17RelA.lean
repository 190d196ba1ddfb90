/-
 Put together out of: IntLaws, RelOk, RelM, SpecRel, RelA.
-/
import Derived.Test.YtldagpfeaabcdaaGreatDoorG16Put
import Derived.Laws.BitsAllLaws
import Derived.Deep.AppendLies
import Derived.Deep.RegionHeld3
import Derived.Deep.WholeRow
import Derived.Deep.MidRow
import Derived.ChangeKeysEq
import Derived.Laws.Cover3
namespace Go.Proofs.YtldagpfeaabcdaaGreatDoor
open Go.RowKit
set_option linter.unusedVariables false
set_option maxHeartbeats 1000000
theorem jh4 (xs : List Int) (v u : Value) (w : World) (hl : xs.length ≤ maxLen) (hv : jf8 w v (ints xs)) (hu : jf8 w u (ints xs)) :
 Calls Tryz.prog 15 #[v, u] w fun e w' => e = .returned (.bool true) ∧ Below w.heap.size w w' := by
 unfold maxLen at hl
 obtain ⟨ao, cap, rfl, hc⟩ := hv
 obtain ⟨bo, cap', rfl, hd⟩ := hu
 simp only [jb8]
 go_enter Tryz.func15, Tryz.ntmps15
 go_wp2
 go_loopw [5] (fun i wr => ∃ k : Nat, k ≤ xs.length ∧ i = .int .i64 k ∧ Below w.heap.size w wr) (fun i _ => xs.length - (intOf i).toNat)
 case atStart => exact ⟨0, Nat.zero_le _, rfl, Below.refl _ _⟩
 case round =>
  obtain ⟨k, hk, rfl, hb⟩ := hrel
  by_cases hlt : k < xs.length
  · obtain ⟨g, off, rfl, hg⟩ := hc k (.int .i64 xs[k]) (by simp [ints, hlt])
    obtain ⟨g', off', rfl, hg'⟩ := hd k (.int .i64 xs[k]) (by simp [ints, hlt])
    have hg := (hb.cell (World.block_lt_of_cell? w _ hg)).trans hg
    have hg' := (hb.cell (World.block_lt_of_cell? w _ hg')).trans hg'
    have hlt' : (k : Int) < (xs.length : Int) := by omega
    clear hc hd
    generalize xs[k] = x at *
    go_wp2
    go_quiet (fail)
    go_wp2
    go_roundw
    case rel => exact ⟨k + 1, by omega, by go_num, below_drewN hb _⟩
    case measure => simp [intOf]; omega
  · go_wp2
    go_ret
    exact ⟨rfl, hb⟩
theorem js9 (g : Nat) (bs : List Int) (lo hi : Int) (h0 : -1000000 ≤ lo) (h1 : lo ≤ hi) (h2 : hi ≤ 1000000) (w : World) (hl : bs.length ≤ 1048576) (hc : Cur w g bs) :
 Calls Tryz.prog 48 #[.pointer (some ⟨g, 0, none⟩), .int .i64 lo, .int .i64 hi] w fun e w' => ∃ x : Int, e = .returned (.int .i64 x) ∧ lo ≤ x ∧ x ≤ hi ∧ Cur w' g bs ∧ w.grownBy w' (some g) := by
 have hbel := jf4 g bs (hi - lo + 1) (by omega) w hl hc
 go_enter Tryz.func48, Tryz.ntmps48
 go_wp2_with fail
 go_at_call 47
 refine hbel.mono ?_
 rintro e w1 ⟨x, rfl, hx0, hx1, _, hc1, hg1⟩
 have hx1 := hx1 (by omega)
 go_wp2
 go_ret
 exact ⟨lo + x, rfl, by omega, by omega, hc1, hg1⟩
end Go.Proofs.YtldagpfeaabcdaaGreatDoor
namespace Go.Proofs.YtldagpfeaabcdaaGreatDoor
open Go.RowKit
set_option linter.unusedVariables false
set_option maxHeartbeats 1000000
def relOk (xs : List Int) : Bool := xs.all (fun x => inB x 0 127) && decide (xs.length = 7)
end Go.Proofs.YtldagpfeaabcdaaGreatDoor
namespace Go.Proofs.YtldagpfeaabcdaaGreatDoor
open Go.RowKit
set_option linter.unusedVariables false
def lor (a b : Int) : Int := bits .or .i64 a b
def bit (x : Int) (t : Nat) : Bool := x.toNat.testBit t
def imgK (rs : List Int) (s : Int) : Nat → Int
 | 0 => 0
 | k + 1 => if bit s k = true then lor (imgK rs s k) (rs.getD k 0) else imgK rs s k
def img (rs : List Int) (s : Int) : Int := imgK rs s 7
def comp (xs ys : List Int) : List Int := xs.map (img ys)
def joi (xs ys : List Int) : List Int := List.zipWith lor xs ys
def unitL : List Int := [1, 2, 4, 8, 16, 32, 64]
theorem jv9 (a : Nat) (ha : a < 9223372036854775808) : (BitVec.ofInt 64 (a : Int)).toNat = a := by
 rw [BitVec.ofInt_natCast, BitVec.toNat_ofNat]; exact Nat.mod_eq_of_lt (by omega)
theorem wrap_nat (c : Nat) (h : c < 2 ^ 63) : IntKind.i64.wrap (c : Int) = c := by
 simp [IntKind.wrap, IntKind.bits, IntKind.signed]
 omega
theorem i64_or_nat (a b : Nat) (ha : a < 9223372036854775808) (hb : b < 9223372036854775808) : bits .or .i64 (a : Int) (b : Int) = ((a ||| b : Nat) : Int) := by
 have hx : a ||| b < 2 ^ 63 := Nat.or_lt_two_pow (by omega) (by omega)
 show IntKind.i64.wrap ((BitVec.ofInt 64 (a : Int) ||| BitVec.ofInt 64 (b : Int)).toNat : Int) = _
 rw [BitVec.toNat_or, jv9 a ha, jv9 b hb]
 generalize a ||| b = c at *
 exact wrap_nat c hx
theorem i64_and_nat (a b : Nat) (ha : a < 9223372036854775808) (hb : b < 9223372036854775808) : bits .and .i64 (a : Int) (b : Int) = ((a &&& b : Nat) : Int) := by
 have hx : a &&& b < 2 ^ 63 := Nat.and_lt_two_pow _ (by omega)
 show IntKind.i64.wrap ((BitVec.ofInt 64 (a : Int) &&& BitVec.ofInt 64 (b : Int)).toNat : Int) = _
 rw [BitVec.toNat_and, jv9 a ha, jv9 b hb]
 generalize a &&& b = c at *
 exact wrap_nat c hx
def jk1 (x : Int) : Prop := 0 ≤ x ∧ x ≤ 127
theorem small_in {x : Int} : inB x 0 127 = true ↔ jk1 x := by simp [inB, jk1]
theorem jl4 {x : Int} (h : jk1 x) : ∃ n : Nat, x = n ∧ n < 2 ^ 7 := by
 obtain ⟨h1, h2⟩ := h
 exact ⟨x.toNat, by omega, by omega⟩
theorem lor_nat (a b : Nat) (ha : a < 2 ^ 7) (hb : b < 2 ^ 7) : lor (a : Int) (b : Int) = ((a ||| b : Nat) : Int) := i64_or_nat a b (by omega) (by omega)
theorem jv6 {a b : Int} (ha : jk1 a) (hb : jk1 b) : jk1 (lor a b) := by
 obtain ⟨m, rfl, hm⟩ := jl4 ha
 obtain ⟨n, rfl, hn⟩ := jl4 hb
 rw [lor_nat m n hm hn]
 have : m ||| n < 2 ^ 7 := Nat.or_lt_two_pow hm hn
 exact ⟨by omega, by omega⟩
theorem bit_lor {a b : Int} (ha : jk1 a) (hb : jk1 b) (t : Nat) : bit (lor a b) t = (bit a t || bit b t) := by
 obtain ⟨m, rfl, hm⟩ := jl4 ha
 obtain ⟨n, rfl, hn⟩ := jl4 hb
 rw [lor_nat m n hm hn]
 simp [bit, Nat.testBit_or]
theorem bit_ext {a b : Int} (ha : jk1 a) (hb : jk1 b) (h : ∀ t, t < 7 → bit a t = bit b t) : a = b := by
 obtain ⟨m, rfl, hm⟩ := jl4 ha
 obtain ⟨n, rfl, hn⟩ := jl4 hb
 congr 1
 refine Nat.eq_of_testBit_eq (fun t => ?_)
 by_cases ht : t < 7
 · exact h t ht
 · have e : 2 ^ 7 ≤ 2 ^ t := Nat.pow_le_pow_right (by omega) (by omega)
   rw [Nat.testBit_lt_two_pow (Nat.lt_of_lt_of_le hm e), Nat.testBit_lt_two_pow (Nat.lt_of_lt_of_le hn e)]
theorem bit_mod {s : Int} (k : Nat) (hs : 0 ≤ s) : (s / 2 ^ k) % 2 = if bit s k = true then 1 else 0 := by
 obtain ⟨n, rfl⟩ := Int.eq_ofNat_of_zero_le hs
 simp only [bit, Int.toNat_natCast, Nat.testBit_eq_decide_div_mod_eq]
 have : ((n : Int) / 2 ^ k) % 2 = ((n / 2 ^ k % 2 : Nat) : Int) := by push_cast; rfl
 rw [this]
 have h2 : n / 2 ^ k % 2 < 2 := Nat.mod_lt _ (by omega)
 by_cases h : n / 2 ^ k % 2 = 1
 · rw [if_pos (by simpa using h), h]; rfl
 · rw [if_neg (by simpa using h)]; omega
theorem bit_and {s : Int} (k : Nat) (hs : jk1 s) : bits .and .i64 (s / 2 ^ k) 1 = if bit s k = true then 1 else 0 := by
 rw [← bit_mod k hs.1]
 obtain ⟨n, rfl, hn⟩ := jl4 hs
 have e : ((n : Int) / 2 ^ k) = ((n / 2 ^ k : Nat) : Int) := by push_cast; rfl
 have hle : n / 2 ^ k ≤ n := Nat.div_le_self _ _
 rw [e]
 have := i64_and_nat (n / 2 ^ k) 1 (by omega) (by omega)
 rw [Nat.and_one_is_mod] at this
 refine Eq.trans this ?_
 push_cast
 rfl
def Smalls (xs : List Int) : Prop := xs.length = 7 ∧ ∀ x ∈ xs, jk1 x
theorem relOk_iff {xs : List Int} : relOk xs = true ↔ Smalls xs := by
 simp only [relOk, Bool.and_eq_true, List.all_eq_true, decide_eq_true_eq, Smalls, small_in]
 exact And.comm
theorem Smalls.getD {xs : List Int} (h : Smalls xs) (k : Nat) : jk1 (xs.getD k 0) := by
 rcases Nat.lt_or_ge k xs.length with hk | hk
 · have : xs.getD k 0 = xs[k] := by simp [List.getD, hk]
   rw [this]; exact h.2 _ (List.getElem_mem hk)
 · have : xs.getD k 0 = 0 := by simp [List.getD, List.getElem?_eq_none hk]
   rw [this]; exact ⟨by omega, by omega⟩
theorem js0 {rs : List Int} (h : Smalls rs) (s : Int) : ∀ k, jk1 (imgK rs s k)
 | 0 => ⟨by simp [imgK], by simp [imgK]⟩
 | k + 1 => by
  rw [imgK]
  split
  · exact jv6 (js0 h s k) (h.getD k)
  · exact js0 h s k
theorem img_small {rs : List Int} (h : Smalls rs) (s : Int) : jk1 (img rs s) := js0 h s 7
theorem qa5 (t : Nat) : bit 0 t = false := by simp [bit]
theorem bit_imgK {rs : List Int} (h : Smalls rs) (s : Int) (t : Nat) : ∀ k, bit (imgK rs s k) t = true ↔ ∃ i, i < k ∧ bit s i = true ∧ bit (rs.getD i 0) t = true
 | 0 => by simp [imgK, qa5]
 | k + 1 => by
  have ih := bit_imgK h s t k
  rw [imgK]
  by_cases hb : bit s k = true
  · rw [if_pos hb, bit_lor (js0 h s k) (h.getD k), Bool.or_eq_true, ih]
    constructor
    · rintro (⟨i, h1, h2, h3⟩ | h3)
      · exact ⟨i, by omega, h2, h3⟩
      · exact ⟨k, by omega, hb, h3⟩
    · rintro ⟨i, h1, h2, h3⟩
      by_cases e : i = k
      · subst e; exact .inr h3
      · exact .inl ⟨i, by omega, h2, h3⟩
  · rw [if_neg hb, ih]
    constructor
    · rintro ⟨i, h1, h2, h3⟩
      exact ⟨i, by omega, h2, h3⟩
    · rintro ⟨i, h1, h2, h3⟩
      by_cases e : i = k
      · subst e; exact absurd h2 hb
      · exact ⟨i, by omega, h2, h3⟩
theorem bit_img {rs : List Int} (h : Smalls rs) (s : Int) (t : Nat) : bit (img rs s) t = true ↔ ∃ i, i < 7 ∧ bit s i = true ∧ bit (rs.getD i 0) t = true := bit_imgK h s t 7
end Go.Proofs.YtldagpfeaabcdaaGreatDoor
namespace Go.Proofs.YtldagpfeaabcdaaGreatDoor
open Go.RowKit
set_option linter.unusedVariables false
set_option maxHeartbeats 1000000
theorem ints_append (xs ys : List Int) : ints (xs ++ ys) = ints xs ++ ints ys := by simp [ints]
end Go.Proofs.YtldagpfeaabcdaaGreatDoor
namespace Go.Proofs.YtldagpfeaabcdaaGreatDoor
set_option maxRecDepth 100000
open Go.RowKit
set_option linter.unusedVariables false
set_option maxHeartbeats 1000000
def relV (xs : List Int) : Value := .agg (ints xs).toArray
theorem jj8 : (Tryz.prog.info? 67).map (·.size) = some 7 := by kernel_rfl
theorem jl9 : Tryz.prog.underlying 67 = some (.array 7 2) := by kernel_rfl
theorem ints_one (xs : List Int) : (ints xs).toArray.all (·.oneCell') = true := all_oneCell_toArray (fun v hv => jm5 xs v hv)
theorem jb0 {ops : Array Oper} {rest : List Oper} {op : Oper} {a : Act} {w : World} {Q : Exit → Act → World → Prop} (hgd : op.guard = none) (x : Operand) (ho : op.op = .load 67 x)
 (b o : Nat) (xs : List Int) (hx : a.eval x = .pointer (some ⟨b, o, none⟩)) (hl : xs.length = 7) (hc : w.rangeAt b o (ints xs))
 (h : wpList Tryz.prog ops Q rest (a.put op.dst (relV xs)) w) : wpList Tryz.prog ops Q (op :: rest) a w :=
 wpList_load_mid hgd 67 x ho b o hx (ints xs) _ hc jl9 rfl (by rw [jj8]; simp [ints, hl]) h
theorem jb1 {ops : Array Oper} {rest : List Oper} {op : Oper} {a : Act} {w : World} {Q : Exit → Act → World → Prop} (hgd : op.guard = none) (hdst : op.dst = none) (x y : Operand) (ho : op.op = .store 67 x y)
 (b o : Nat) (xs : List Int) (hx : a.eval x = .pointer (some ⟨b, o, none⟩)) (hy : a.eval y = relV xs) (hl : xs.length = 7) (ht : w.there b o 7)
 (h : wpList Tryz.prog ops Q rest a (w.setCells b o (ints xs))) : wpList Tryz.prog ops Q (op :: rest) a w :=
 wpList_store_mid hgd 67 x y ho b o (ints xs).toArray hx hy (by simpa [ints, hl] using ht) (by rw [jj8]; simp [ints, hl]) (ints_one xs) (by rw [hdst, List.toList_toArray]; exact h)
theorem jp5 (w : World) (cs : List Value) (t : TypeId) : (w.alloc (.cells cs.toArray t)).rangeAt w.heap.size 0 cs := fun j v hv => by
 rw [Nat.zero_add, cell_of_row _ _ j _ t (0, 0) (heap_alloc_last w _)]
 simpa using hv
theorem jd6 {fn : Func} {p : Tmp} {ty : TypeId} {R : Ending → World → Prop} {a : Act} {w : World} (h : fn.results = #[.cell p ty]) (b o : Nat) (cs : List Value) (d : TypeDesc)
 (hp : a.tmps.getD p undef = .pointer (some ⟨b, o, none⟩)) (hc : w.rangeAt b o cs) (hu : Tryz.prog.underlying ty = some d) (hd : d.isRow = true) (hi : (Tryz.prog.info? ty).map (·.size) = some cs.length)
 (hdf : a.defers = []) (hR : R (.returned (.agg cs.toArray)) w) : bodyPost Tryz.prog fn R .ret a w := by
 refine bodyPost_ret (v := .agg cs.toArray) ?_ hdf hR
 simp only [results, h]
 simp [Sem.run_bind, Result.andThen, asAddr]
 rw [← Array.getD_eq_getD_getElem?, hp]
 simp [run_loadVar_mid w b o ty cs d hc hu hd hi]
abbrev RelAt (w : World) (B : Nat) (xs : List Int) : Prop := w.heap[B]? = some (.cells (ints xs).toArray 67 (0, 0))
theorem RelAt.cell {w : World} {B : Nat} {xs : List Int} (h : RelAt w B xs) (j : Nat) (hj : j < xs.length) : w.cell? ⟨B, j, none⟩ = some (.int .i64 (xs.getD j 0)) ∧ w.frozen? ⟨B, j, none⟩ = false := by
 refine ⟨?_, frozen_of_row w B j _ _ h⟩
 rw [cell_of_row w B j _ _ (0, 0) h]
 simp [ints, List.getD, hj]
theorem RelAt.set {w : World} {B : Nat} {xs : List Int} (h : RelAt w B xs) (j : Nat) (x : Int) : RelAt (w.setCell ⟨B, j, none⟩ (.int .i64 x)) B (xs.set j x) := by
 have := heap_setCell_same w B j _ _ (.int .i64 x) h
 show (w.setCell ⟨B, j, none⟩ (.int .i64 x)).heap[B]? = _
 rw [this]
 simp [ints, List.map_set]
theorem RelAt.range {w : World} {B : Nat} {xs : List Int} (h : RelAt w B xs) : w.rangeAt B 0 (ints xs) := fun j v hv => by
 rw [Nat.zero_add, cell_of_row w B j _ _ (0, 0) h]
 simpa using hv
theorem RelAt.there {w : World} {B : Nat} {xs : List Int} (h : RelAt w B xs) : w.there B 0 xs.length := fun j hj => by
 rw [Nat.zero_add]
 obtain ⟨h1, h2⟩ := h.cell j hj
 exact ⟨by rw [h1]; rfl, h2⟩
theorem RelAt.lt {w : World} {B : Nat} {xs : List Int} (h : RelAt w B xs) : B < w.heap.size := (Array.getElem?_eq_some_iff.1 h).1
theorem RelAt.own {w : World} {B : Nat} {xs : List Int} (h : RelAt w B xs) {base : Nat} (hb : base ≤ B) (hl : xs.length = 7) : w.ownsRow base 67 1 (.slice (some ⟨B, 0, none⟩) 7 7) 7 (ints xs) :=
 ⟨by simp [ints, hl], .inr ⟨B, 7, (ints xs).toArray, rfl, hb, h, by omega, by unfold maxLen; omega, by simp [ints, hl], by rw [List.toList_toArray, Nat.mul_one]; exact List.take_of_length_le (by simp [ints, hl])⟩⟩
theorem run_indexRel (w : World) (xs : List Int) (hl : xs.length = 7) (i : Nat) (hi : i < 7) : (Instr.index 67 (relV xs) (.int .i64 (i : Int))).run Tryz.prog w = .ok (.int .i64 (xs.getD i 0)) w := by
 obtain ⟨t, ht⟩ : ∃ t, Tryz.prog.info? 2 = some t := Option.isSome_iff_exists.1 (by kernel_rfl)
 have hz : t.size = 1 := by
  have h1 := jy6
  rw [ht] at h1
  simp at h1
  exact h1.2.1
 have hu : Tryz.prog.underlying 2 = some (.int .i64) := by kernel_rfl
 have h1 : (0 : Int) ≤ (i : Int) ∧ (i : Int) < ((7 : Nat) : Int) := by omega
 have hg : (ints xs).toArray[i]? = some (.int .i64 (xs.getD i 0)) := by simp [ints, List.getD, hl, hi]
 unfold Instr.index relV
 generalize (ints xs).toArray = C at hg ⊢
 simp only [asIntOf, Sem.run_bind, Sem.run_pure, Result.andThen_ok, run_underlying jl9, if_pos h1, sizeOf, typeInfo, part, isAgg, run_underlying hu, Int.toNat_natCast]
 simp [ht, hz, hg]
theorem jl1 {ops : Array Oper} {rest : List Oper} {op : Oper} {a : Act} {w : World} {Q : Exit → Act → World → Prop} (hgd : op.guard = none) (x y : Operand) (ho : op.op = .index 67 x y)
 (xs : List Int) (i : Nat) (hx : a.eval x = relV xs) (hy : a.eval y = .int .i64 (i : Int)) (hl : xs.length = 7) (hi : i < 7) (y : Int) (hxy : xs.getD i 0 = y)
 (h : wpList Tryz.prog ops Q rest (a.put op.dst (.int .i64 y)) w) : wpList Tryz.prog ops Q (op :: rest) a w := by
 subst hxy
 refine wpList_plain hgd fun K hK => ?_
 unfold Oper.wp execOp
 simp only [ho, hx, hy, Sem.run_bind, run_indexRel w xs hl i hi, Result.andThen_ok]
 exact hK _ _ h
theorem qg9 (d : Nat) (w : World) (bs cs : List Int) : ∀ is : List Nat, (∀ i ∈ is, i < bs.length ∧ i < cs.length) →
 (Op.eqItems (d + 1) 2 1 (ints bs).toArray (ints cs).toArray is).run Tryz.prog w = .ok (is.all (fun i => decide (bs.getD i 0 = cs.getD i 0))) w
 | [], _ => by simp [Op.eqItems]
 | i :: is, h => by
  obtain ⟨h1, h2⟩ := h i (by simp)
  have ih := qg9 d w bs cs is (fun j hj => h j (by simp [hj]))
  have hu : Tryz.prog.underlying 2 = some (.int .i64) := by kernel_rfl
  have p1 : (part 2 (ints bs).toArray (i * 1)).run Tryz.prog w = .ok (.int .i64 bs[i]) w := by
   simp [part, isAgg, run_underlying hu, h1, ints]
  have p2 : (part 2 (ints cs).toArray (i * 1)).run Tryz.prog w = .ok (.int .i64 cs[i]) w := by
   simp [part, isAgg, run_underlying hu, h2, ints]
  have p3 : (Op.equalIn (d + 1) 2 (.int .i64 bs[i]) (.int .i64 cs[i])).run Tryz.prog w = .ok (decide (bs[i] = cs[i])) w := by
   simp [Op.equalIn, run_underlying hu]
   rw [Bool.eq_iff_iff]; simp
  have e1 : bs.getD i 0 = bs[i] := by simp [List.getD, h1]
  have e2 : cs.getD i 0 = cs[i] := by simp [List.getD, h2]
  simp only [Op.eqItems, Sem.run_bind, p1, p2, p3, Result.andThen_ok, List.all_cons, e1, e2]
  cases hb : (decide (bs[i] = cs[i]))
  · simp
  · simpa using ih
theorem list7 {L M : List Int} (hl : L.length = 7) (hm : M.length = 7) (h : ∀ j, j < 7 → L.getD j 0 = M.getD j 0) : L = M := by
 refine List.ext_getElem (by omega) (fun j h1 h2 => ?_)
 have := h j (by omega)
 simpa [List.getD, h1, h2] using this
end Go.Proofs.YtldagpfeaabcdaaGreatDoor
