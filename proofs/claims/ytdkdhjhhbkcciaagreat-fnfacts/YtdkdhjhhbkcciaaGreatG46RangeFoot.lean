/-
 Put together out of: HeapH, VisAt, RangeFoot.
-/
import Derived.Test.YtdkdhjhhbkcciaaGreatHeapG
import Derived.Test.YtdkdhjhhbkcciaaGreatG28VisitsM
import Derived.ArgAppend
import Derived.Test.YtdkdhjhhbkcciaaGreatG00Put
import Derived.RangeFuncNested
import Derived.RangeFuncLeaves
import Derived.RangeFuncFrom
import Derived.RangeFuncCalls
import Derived.RangeFuncBound
import Derived.Shelf.Abstract
import Derived.Shelf.RegionOpen
import Derived.OwnWalkIn
import Derived.TacticsInMore
import Derived.LoopNIn
import Derived.LoopIn
namespace Go.Proofs.YtdkdhjhhbkcciaaGreat
open Go.RowKit
set_option linter.unusedVariables false
set_option maxHeartbeats 2000000
set_option maxRecDepth 20000
theorem heapPush (L : List Vis) (base cap g Wb : Nat) (x : Vis) (w : World) (hn : L.length ≤ 90000) (hbase : base ≤ w.heap.size) (h : Hp w base Wb g cap L) (hI : IsH L L.length) (hx : w.ownsRow base 2 1 x.u x.way.length (ints x.way)) (hxs : x.way.length ≤ 100000) :
 Calls Tryz.prog 73 #[.iface 118 (.pointer (some ⟨Wb, 0, none⟩)), .iface 95 (.agg #[x.u, .int .i64 x.set])] w fun e w' =>
  (∃ v, e = .returned v) ∧ ∃ g' cap' L', Hp w' base Wb g' cap' L' ∧ Turn2 w Wb g w' ∧ (g' = g ∨ w.heap.size ≤ g') ∧ L'.length = L.length + 1 ∧ (∀ y, y ∈ L' ↔ y = x ∨ y ∈ L) ∧ IsH L' L'.length := by
 have hp := visPush L base cap g Wb x w (by omega) hbase h hx hxs
 have hst := push_start hI x
 have hl1 : (L ++ [x]).length = L.length + 1 := by simp
 have hmem : ∀ y, y ∈ L ++ [x] ↔ y = x ∨ y ∈ L := fun y => by simp [or_comm]
 have HL1 : Hid _ := hl1
 have HST : Hid _ := hst
 generalize L ++ [x] = M at *
 clear hst hl1 h hx
 go_enter Tryz.func73, Tryz.ntmps73
 go_wp2_with fail
 go_at_call 142
 refine hp.mono ?_
 rintro e w1 ⟨⟨v1, rfl⟩, g1, cap1, h1, t1, hg1⟩
 obtain ⟨c1, f1⟩ := one_cell h1.box
 have hML := fun n => vis_len n Wb _ _ _ w1 c1
 have hle := fun W => visLen (some ⟨g1, 0, none⟩) M.length cap1 W
 have hup := heapUp M base cap1 g1 Wb L.length w1 (by rw [HL1.out]; omega) h1 (by rw [HL1.out]; omega) HST.out
 have hM : (M.length : Int) - 1 = (L.length : Int) := by rw [HL1.out]; omega
 have hM2 : M.length ≤ 100000 := by rw [HL1.out]; omega
 clear hp
 go_wp2_with (first
  | (go_at_call 132; refine (hle _).mono ?_; rintro e w2 ⟨rfl, rfl⟩)
  | (go_at_call 101; refine hup.mono ?_; rintro e w3 ⟨⟨v3, rfl⟩, L', h3, t3, hl3, hm3, hi3⟩))
 go_end0
 exact ⟨⟨_, rfl⟩, g1, cap1, L', h3, t1.trans t3 hg1, hg1, by rw [hl3, HL1.out], fun y => (hm3 y).trans (hmem y), hi3⟩
theorem take_last {L : List Vis} {n : Nat} (h : L.length = n + 1) : L = L.take n ++ [L.getD n vis0] := by
 have hn : n < L.length := by omega
 have e : L.getD n vis0 = L[n] := by simp [List.getD, hn]
 rw [e, ← List.take_succ_eq_append_getElem hn, List.take_of_length_le (by omega)]
theorem heapPop (L : List Vis) (base cap g Wb n : Nat) (w : World) (hl : L.length = n + 1) (hn : n ≤ 90000) (h : Hp w base Wb g cap L) (hI : IsH L L.length) :
 Calls Tryz.prog 69 #[.iface 118 (.pointer (some ⟨Wb, 0, none⟩))] w fun e w' =>
  ∃ x, e = .returned (.iface 95 (.agg #[x.u, .int .i64 x.set])) ∧ w'.ownsRow base 2 1 x.u x.way.length (ints x.way) ∧ x.u.ownBlock ≠ some Wb ∧ x.u.ownBlock ≠ some g ∧ ∃ L', Hp w' base Wb g cap L' ∧ Turn2 w Wb g w' ∧ L'.length = n ∧ (∀ y, y ∈ L ↔ y = x ∨ y ∈ L') ∧ IsH L' L'.length ∧ (∀ y, y ∈ L' → wle x.way y.way) := by
 obtain ⟨c0, f0⟩ := one_cell h.box
 have hML := fun m => vis_len m Wb _ _ _ w c0
 have hMS := fun m => vis_swap m Wb _ _ _ w c0
 have hle := fun W => visLen (some ⟨g, 0, none⟩) L.length cap W
 have hsw := hpSwap h (i := 0) (j := n) (by omega) (by omega)
 have hM : (L.length : Int) - 1 = (n : Int) := by omega
 have hL2 : L.length ≤ 100000 := by omega
 have HL : Hid _ := hl
 have HH : Hid _ := h
 have HI : Hid _ := hI
 clear h hI hl
 go_enter Tryz.func69, Tryz.ntmps69
 go_wp2_with fail
 go_at_call 132
 refine (hle _).mono ?_
 rintro e w1 ⟨rfl, rfl⟩
 go_wp2_with fail
 go_at_call 134
 refine hsw.mono ?_
 rintro e w2 ⟨⟨v2, rfl⟩, h2, g2⟩
 have hd := heapDown (swp L 0 n) base cap g Wb n w2 (by rw [swp_length]; exact hL2) h2 (by rw [swp_length, HL.out]; omega) (pop_start (by rw [← HL.out]; exact HI.out) HL.out)
 clear c0 f0 hML hMS hle hsw
 go_wp2_with fail
 go_at_call 98
 refine hd.mono ?_
 rintro e w3 ⟨⟨v3, rfl⟩, L', h3, t3, hl3, hm3, hi3, hk3⟩
 have hl3' : L'.length = n + 1 := by rw [hl3, swp_length, HL.out]
 have hlast := take_last hl3'
 have hx : L'.getD n vis0 = L.getD 0 vis0 := by
  rw [hk3 n (Nat.le_refl _), swp_get L (by rw [HL.out]; omega) (by rw [HL.out]; omega), if_pos rfl]
 rw [hx] at hlast
 have hmm : ∀ y, y ∈ L ↔ y = L.getD 0 vis0 ∨ y ∈ L'.take n := fun y => by
  rw [← swp_mem (i := 0) (j := n) (by rw [HL.out]; omega) (by rw [HL.out]; omega), ← hm3 y]
  have e : (y ∈ L') = (y ∈ L'.take n ++ [L.getD 0 vis0]) := by rw [← hlast]
  rw [e, List.mem_append, List.mem_singleton, or_comm]
 have HMM : Hid _ := hmm
 have h4 := h3
 rw [hlast] at h4
 have hpo := visPop (L'.take n) base cap g Wb (L.getD 0 vis0) w3 (by simp; omega) h4
 have HW : Hid _ := h4.ways (L.getD 0 vis0) (by simp)
 have HAP : Hid (∀ k, (L.getD 0 vis0).u.ownBlock = some k → k ≠ Wb ∧ k ≠ g) := fun k hk => ⟨(h4.apart (x := L.getD 0 vis0) (by simp) hk).1, (h4.apart (x := L.getD 0 vis0) (by simp) hk).2.1⟩
 have HT : Hid (Turn2 w Wb g w3) := (Turn2.of_grown g2 Wb).trans t3 (.inl rfl)
 have HI2 : Hid _ := isH_take hi3 (by omega)
 have HLN : Hid ((L'.take n).length = n) := by show (L'.take n).length = n; simp; omega
 have HMIN : Hid (∀ y, y ∈ L'.take n → wle (L.getD 0 vis0).way y.way) := fun y hy => by
  obtain ⟨k, hk, e⟩ := mem_getD.1 ((hmm y).2 (.inr hy))
  have := root_min HI.out k hk
  unfold wy at this
  rwa [e] at this
 generalize L.getD 0 vis0 = x at *
 generalize L'.take n = M at *
 clear hd h4 h3 hlast hx hmm hi3 hm3 hk3 hl3 hl3' h2
 go_wp2_with fail
 go_at_call 141
 refine hpo.mono ?_
 rintro e w5 ⟨rfl, h5, t5⟩
 have HF : Hid _ := h5
 have T5 : Hid (Turn2 w Wb g w5) := HT.out.trans t5 (.inl rfl)
 have HW5 : Hid (w5.ownsRow base 2 1 x.u x.way.length (ints x.way)) := own_same HW.out (fun k hk => t5.block k ((World.ownsRow.lt HW.out) k hk).2 (HAP.out k hk).1 (HAP.out k hk).2)
 clear h5 t5 hpo
 go_wp2
 go_ret
 exact ⟨x, rfl, HW5.out, fun e => (HAP.out _ e).1 rfl, fun e => (HAP.out _ e).2 rfl, M, HF.out, T5.out, HLN.out, HMM.out, HI2.out, HMIN.out⟩
end Go.Proofs.YtdkdhjhhbkcciaaGreat
namespace Go.Proofs.YtdkdhjhhbkcciaaGreat
open Go.RowKit
set_option linter.unusedVariables false
set_option maxHeartbeats 2000000
set_option maxRecDepth 20000
theorem own_formV {w : World} {base : Nat} {e : TypeId} {v : Value} {ys : List Int} (h : w.ownsRow base e 1 v ys.length (ints ys)) (hn : 0 < ys.length) : ∃ g cap, v = .slice (some ⟨g, 0, none⟩) ys.length cap ∧ ys.length ≤ cap ∧ cap ≤ maxLen ∧ g < w.heap.size ∧ (∀ j, j < ys.length → w.cell? ⟨g, j, none⟩ = some (.int .i64 (ys.getD j 0))) := by
 rcases h.2 with ⟨_, h0⟩ | ⟨g, cap, cur, rfl, k1, k2, k3, k4, k5, k6⟩
 · omega
 · refine ⟨g, cap, rfl, k3, k4, (Array.getElem?_eq_some_iff.1 k2).1, fun j hj => ?_⟩
   rw [h.cellAt j (by omega)]
   simp [ints, List.getD, hj]
theorem visitAt (x : Vis) (base : Nat) (w : World) (hx : w.ownsRow base 2 1 x.u x.way.length (ints x.way)) (hn : 0 < x.way.length) (hs : x.way.length ≤ 100000) :
 Calls Tryz.prog 48 #[.agg #[x.u, .int .i64 x.set]] w fun e w' => e = .returned (.int .i64 (lastI x.way)) ∧ Below w.heap.size w w' := by
 obtain ⟨g, cap, hu, k1, k2, k3, k4⟩ := own_formV hx hn
 rw [hu]
 obtain ⟨m, hm⟩ : ∃ m, x.way.length = m + 1 := ⟨x.way.length - 1, by omega⟩
 have c0 := k4 m (by omega)
 rw [← lastI_at hm] at c0
 rw [hm]
 generalize lastI x.way = y at *
 have hm' : m ≤ 100000 := by omega
 clear k4 hx hu
 go_enter Tryz.func48, Tryz.ntmps48
 go_wp2
 go_ret
 exact ⟨rfl, by go_grown⟩
theorem longer (way : List Int) (y : Int) (u : Value) (base : Nat) (w : World) (hx : w.ownsRow base 2 1 u way.length (ints way)) (hn : 0 < way.length) (hs : way.length ≤ 90000) :
 Calls Tryz.prog 74 #[u, .int .i64 y] w fun e w' => ∃ u', e = .returned u' ∧ w'.ownsRow w.heap.size 2 1 u' (way ++ [y]).length (ints (way ++ [y])) ∧ Below w.heap.size w w' := by
 obtain ⟨i0, hi, hz0, hz1, hz2⟩ := info_parts infoInt
 obtain ⟨g, cap, hu, k1, k2, k3, k4⟩ := own_formV hx hn
 subst hu
 have HC : Hid (∀ b, (some ⟨g, 0, none⟩ : Option Addr) = some b → ∀ j v, (ints way)[j]? = some v → (w.alloc (.cells #[.int .i64 y] 2)).cell? (b.add j) = some v) := by
  intro b hb j v hv
  cases hb
  have hj : j < way.length := by have := (List.getElem?_eq_some_iff.1 hv).1; simpa [ints] using this
  rw [Addr.add_lit, Nat.zero_add]
  have bW : Below w.heap.size w (w.alloc (.cells #[.int .i64 y] 2)) := by go_grown
  rw [bW.cell (p := ⟨g, j, none⟩) k3, k4 j hj, ← hv]
  simp [ints, List.getD, hj]
 have hone : ∀ u ∈ [Value.int .i64 y], u.oneCell' = true := fun u hu => by simp at hu; subst hu; rfl
 have hmx : way.length + 1 ≤ maxLen := by unfold maxLen; omega
 have hby : (way.length + 1) * 8 ≤ 140737488355328 := by omega
 have e1 : (way ++ [y]).length = way.length + 1 := by simp
 have e2 : ints (way ++ [y]) = ints way ++ [.int .i64 y] := by simp [ints]
 rw [e1, e2]
 unfold maxLen at k2
 have hil : (ints way).length = way.length * 1 := by simp [ints]
 clear k4 hx e1 e2
 generalize hcs : ints way = cs at *
 generalize hnn : way.length = n at *
 clear hcs hnn
 go_enter Tryz.func74, Tryz.ntmps74
 go_wp2_with (at_builtin; refine wpList_append_grows _ rfl (.tmp 10) (.tmp 12) 39 rfl 2 i0 (.int .i64 0) 1 8 Tryz.underlying39 hi hz0 hz1 hz2 rfl (by decide) (some ⟨g, 0, none⟩) n n cs rfl (fun h => by cases h) hil HC.out ⟨w.heap.size, 0, none⟩ 1 1 [.int .i64 y] rfl rfl (cell_one w y) hone (by omega) hmx hby ?_; intro v7 w7 own7 grow7)
 go_ret
 have bW : Below w.heap.size w (w.alloc (.cells #[.int .i64 y] 2)) := by go_grown
 exact ⟨_, rfl, own_mono own7 bW.size, bW.grown grow7 bW.size (by simp)⟩
theorem visitsWithNews (v : Value) (a b c d : Value) (s : Int) (w : World) :
 Calls Tryz.prog 47 #[.agg #[v], .agg #[a, b, c, d], .int .i64 s] w fun e w' => e = .returned (.func (.func 68) #[] #[.pointer (some ⟨w.heap.size + 1 + 1, 0, none⟩), .pointer (some ⟨w.heap.size + 1, 0, none⟩), .pointer (some ⟨w.heap.size, 0, none⟩)]) ∧ w' = ((w.alloc (.cells #[v] 46)).alloc (.cells #[a, b, c, d] 87)).alloc (.cells #[.int .i64 s] 2) := by
 go_enter Tryz.func47, Tryz.ntmps47
 go_wp2
 go_ret
 exact ⟨rfl, rfl⟩
end Go.Proofs.YtdkdhjhhbkcciaaGreat
namespace Go.Proofs.YtdkdhjhhbkcciaaGreat
open Go.RowKit
structure Outside (f : Nat → Prop) (W : World) (f' : Nat → Prop) (W' : World) : Prop where
 os : W'.os = W.os
 tape : W'.tape = W.tape
 output : W'.output = W.output
 size : W.heap.size ≤ W'.heap.size
 block : ∀ r, r < W.heap.size → ¬ f r → W'.heap[r]? = W.heap[r]?
 more : ∀ r, f r → f' r
 less : ∀ r, r < W.heap.size → f' r → f r
 lt : ∀ r, f' r → r < W'.heap.size
theorem Outside.trans {f g h : Nat → Prop} {A B C : World} (x : Outside f A g B) (y : Outside g B h C) : Outside f A h C :=
 ⟨y.os.trans x.os, y.tape.trans x.tape, y.output.trans x.output, Nat.le_trans x.size y.size, fun r hr hf => (y.block r (Nat.lt_of_lt_of_le hr x.size) (fun hg => hf (x.less r hr hg))).trans (x.block r hr hf),
  fun r hf => y.more r (x.more r hf), fun r hr hh => x.less r hr (y.less r (Nat.lt_of_lt_of_le hr x.size) hh), y.lt⟩
theorem Outside.refl {f : Nat → Prop} {A : World} (h : ∀ r, f r → r < A.heap.size) : Outside f A f A :=
 ⟨rfl, rfl, rfl, Nat.le_refl _, fun _ _ _ => rfl, fun _ h => h, fun _ _ h => h, h⟩
theorem Outside.grown {f : Nat → Prop} {A B : World} {row : Option Nat} (hg : A.grownBy B row) (h : ∀ r, f r → r < A.heap.size) (hr : ∀ r, row = some r → f r) : Outside f A f B :=
 ⟨hg.os, hg.tape, hg.output, hg.size, fun r hr' hf => hg.block r hr' (fun e => hf (hr r e.symm)), fun _ h => h, fun _ _ h => h, fun r hf => Nat.lt_of_lt_of_le (h r hf) hg.size⟩
def footPost {α : Type} (I : List α → (Nat → Prop) → World → Prop) (Ix : Code → List α → (Nat → Prop) → World → Prop) (xs : List α) (f : Nat → Prop) (W : World) : Exit → Act → World → Prop
 | .normal, _, W' => KeepsOthers W W' ∧ ∃ f', Outside f W f' W' ∧ I xs f' W'
 | .ret, _, W' => KeepsOthers W W' ∧ ∃ f', Outside f W f' W' ∧ Ix .ret xs f' W'
 | .exit id, _, W' => KeepsOthers W W' ∧ ∃ f', Outside f W f' W' ∧ Ix (.exit id) xs f' W'
 | .goto t, _, W' => KeepsOthers W W' ∧ ∃ f', Outside f W f' W' ∧ Ix (.goto t) xs f' W'
 | .panic _, _, _ => False
 | .outgrown, _, _ => False
def FootOwn {α : Type} (B : Nat) (I : List α → (Nat → Prop) → World → Prop) : Prop :=
 ∀ s f W W' row, I s f W → W.grownBy W' row → (∀ r, row = some r → B ≤ r ∧ (¬ f r ∨ ∃ o : Obj, W.heap[r]? = some o ∧ o.isCells = false)) → I s f W'
theorem FootOwn.put {α : Type} {B : Nat} {I : List α → (Nat → Prop) → World → Prop} (h : FootOwn B I) {s : List α} {f : Nat → Prop} {W : World} {l : Nat} {o : Obj} (o' : Obj) (hs : I s f W) (hB : B ≤ l) (hl : W.heap[l]? = some o) (ho : o.isCells = false) : I s f (W.putObj l o') :=
 h s f W _ (some l) hs (grownBy_putObj' W l o') (fun r e => by cases e; exact ⟨hB, .inr ⟨o, hl, ho⟩⟩)
theorem FootOwn.alloc {α : Type} {B : Nat} {I : List α → (Nat → Prop) → World → Prop} (h : FootOwn B I) {s : List α} {f : Nat → Prop} {W : World} (o : Obj) (hs : I s f W) : I s f (W.alloc o) :=
 h s f W _ none hs (World.grownBy_alloc W o none) (fun r e => by cases e)
section
variable {F : Fence} {n : Nat} {P : Program}
theorem outside_put {f : Nat → Prop} {W : World} {l : Nat} (o' : Obj) (h : ∀ r, f r → r < W.heap.size) (hl : f l) : Outside f W f (W.putObj l o') :=
 Outside.grown (grownBy_putObj' W l o') h (fun r e => by cases e; exact hl)
end
end Go.Proofs.YtdkdhjhhbkcciaaGreat
