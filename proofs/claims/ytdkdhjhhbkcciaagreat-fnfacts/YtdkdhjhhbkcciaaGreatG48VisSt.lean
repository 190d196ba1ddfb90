/-
 Put together out of: InTop, VisSt.
-/
import Derived.Test.YtdkdhjhhbkcciaaGreatG27WaysM
import Derived.Test.YtdkdhjhhbkcciaaGreatG06SpecFlow
import Derived.Test.YtdkdhjhhbkcciaaGreatG46RangeFoot
import Derived.Test.YtdkdhjhhbkcciaaGreatG47RangeFootH
import Derived.Test.YtdkdhjhhbkcciaaGreatG09Nexts
namespace Go.Proofs.YtdkdhjhhbkcciaaGreat
open Go.RowKit
set_option linter.unusedVariables false
set_option maxHeartbeats 2000000
set_option maxRecDepth 4000
theorem isNoSet (s : Int) (w : World) : Calls Tryz.prog 67 #[.int .i64 s] w fun e w' => e = .returned (.bool (!inB s 0 127)) ∧ w = w' := by
 go_enter Tryz.func67, Tryz.ntmps67
 go_wp2_with (go_at_call 97; refine (within _ _ _).mono ?_; rintro e w' ⟨rfl, rfl⟩; simp only [wiB_inB])
 go_ret
 exact ⟨rfl, rfl⟩
theorem hasAll (a b : Int) (ha : Small a) (hb : Small b) (w : World) : Calls Tryz.prog 32 #[.int .i64 a, .int .i64 b] w fun e w' => e = .returned (.bool (hasA a b)) ∧ w = w' := by
 have h := cut_has ha hb
 have h' : (bits .andNot .i64 b a == 0) = hasA a b := by rw [← h]; rw [Bool.eq_iff_iff]; simp
 clear h
 go_enter Tryz.func32, Tryz.ntmps32
 go_wp2
 go_ret
 exact ⟨by first | rfl | (rw [h']), rfl⟩
theorem four_frozen {W : World} {B : Nat} {v0 v1 v2 v3 : Value} {t : TypeId} (q : W.heap[B]? = some (.cells #[v0, v1, v2, v3] t (0, 0))) (j : Nat) : W.frozen? ⟨B, j, none⟩ = false := frozen_of_row W B j _ _ q
theorem four_set {W : World} {B : Nat} {v0 v1 v2 v3 : Value} {t : TypeId} (q : W.heap[B]? = some (.cells #[v0, v1, v2, v3] t (0, 0))) (x0 x1 x2 x3 : Value) :
 ((((W.setCell ⟨B, 0, none⟩ x0).setCell ⟨B, 1, none⟩ x1).setCell ⟨B, 2, none⟩ x2).setCell ⟨B, 3, none⟩ x3).heap[B]? = some (.cells #[x0, x1, x2, x3] t (0, 0)) := by
 have h0 := heap_setCell_same W B 0 _ t x0 q
 have h1 := heap_setCell_same _ B 1 _ t x1 h0
 have h2 := heap_setCell_same _ B 2 _ t x2 h1
 have h3 := heap_setCell_same _ B 3 _ t x3 h2
 rw [h3]
 rfl
theorem flowsInside (ss : List Stm) (c s : Int) (v : Value) (w : World) (hl : ss.length ≤ maxLen) (hv : Reads3 w v ss) :
 Calls Tryz.prog 46 #[.agg #[v], .int .i64 c, .int .i64 s] w fun e w' => e = .returned (.tuple #[if procOk ss && isCl c && inB s 0 127 then flowsV (markFn c) else .agg #[.nilFunc, .nilFunc, .nilFunc, .nilFunc], .bool (procOk ss && isCl c && inB s 0 127)]) ∧ Below w.heap.size w w' := by
 obtain ⟨W0, hW0⟩ : ∃ W0, (w.alloc (.cells #[v] 46)).alloc (.cells #[.nilFunc, .nilFunc, .nilFunc, .nilFunc] 87) = W0 := ⟨_, rfl⟩
 have hb0 : Below w.heap.size w W0 := by rw [← hW0]; go_grown
 have s0 : W0.heap.size = w.heap.size + 2 := by rw [← hW0]; simp
 have Q0 : W0.heap[w.heap.size + 1]? = some (.cells #[.nilFunc, .nilFunc, .nilFunc, .nilFunc] 87 (0, 0)) := by
  rw [← hW0]
  have := heap_alloc_new (w.alloc (.cells #[v] 46)) (.cells #[.nilFunc, .nilFunc, .nilFunc, .nilFunc] 87)
  simpa using this
 have he := implProcOk ss v W0 hl (reads3_below hv hb0)
 have HW : Hid ((w.alloc (.cells #[v] 46)).alloc (.cells #[.nilFunc, .nilFunc, .nilFunc, .nilFunc] 87) = W0) := hW0
 clear hW0
 have hns := fun W => isNoSet s W
 cases hok : procOk ss
 · rw [hok] at he
   simp only [Bool.false_and, Bool.false_eq_true, if_false]
   go_enter Tryz.func46, Tryz.ntmps46
   go_wp2_with fail
   go_at_call 66
   rw [HW.out]
   refine he.mono ?_
   rintro e w2 ⟨rfl, b2⟩
   have q2 := (b2.block (w.heap.size + 1) (by omega)).trans Q0
   have L2 := hb0.trans (b2.mono hb0.size)
   have l2 : w.heap.size + 1 < w2.heap.size := by have := b2.size; omega
   clear he HW
   obtain ⟨c0, c1, c2, c3⟩ := four_cells q2
   have f0 := four_frozen q2 0
   have f1 := four_frozen q2 1
   have f2 := four_frozen q2 2
   have f3 := four_frozen q2 3
   have Q2 := four_set q2 (.nilFunc) (.nilFunc) (.nilFunc) (.nilFunc)
   obtain ⟨d0, d1, d2, d3⟩ := four_cells Q2
   clear q2 Q2
   go_wp2
   refine bodyPost_ret (v := .tuple #[.agg #[.nilFunc, .nilFunc, .nilFunc, .nilFunc], .bool false]) (by simp [results, Tryz.results46, go_sem, d0, d1, d2, d3]) rfl ?_
   exact ⟨rfl, (((L2.setCell (by simp) _).setCell (by simp) _).setCell (by simp) _).setCell (by simp) _⟩
 rw [hok] at he
 cases hs : inB s 0 127
 · rw [hs] at hns
   simp only [Bool.and_false, Bool.false_eq_true, if_false]
   go_enter Tryz.func46, Tryz.ntmps46
   go_wp2_with fail
   go_at_call 66
   rw [HW.out]
   refine he.mono ?_
   rintro e w2 ⟨rfl, b2⟩
   have q2 := (b2.block (w.heap.size + 1) (by omega)).trans Q0
   have L2 := hb0.trans (b2.mono hb0.size)
   have l2 : w.heap.size + 1 < w2.heap.size := by have := b2.size; omega
   clear he HW
   go_wp2_with fail
   go_at_call 67
   refine (hns _).mono ?_
   rintro e w3 ⟨rfl, rfl⟩
   obtain ⟨c0, c1, c2, c3⟩ := four_cells q2
   have f0 := four_frozen q2 0
   have f1 := four_frozen q2 1
   have f2 := four_frozen q2 2
   have f3 := four_frozen q2 3
   have Q2 := four_set q2 (.nilFunc) (.nilFunc) (.nilFunc) (.nilFunc)
   obtain ⟨d0, d1, d2, d3⟩ := four_cells Q2
   clear q2 Q2
   go_wp2
   refine bodyPost_ret (v := .tuple #[.agg #[.nilFunc, .nilFunc, .nilFunc, .nilFunc], .bool false]) (by simp [results, Tryz.results46, go_sem, d0, d1, d2, d3]) rfl ?_
   exact ⟨rfl, (((L2.setCell (by simp) _).setCell (by simp) _).setCell (by simp) _).setCell (by simp) _⟩
 rw [hs] at hns
 by_cases hc : c = 1 ∨ c = 2
 · have hic : isCl c = true := by simpa [isCl] using hc
   simp only [hic, Bool.and_self, if_true]
   have hfo := fun W => flowsOf c hc W
   generalize markFn c = m at *
   unfold flowsV at hfo ⊢
   go_enter Tryz.func46, Tryz.ntmps46
   go_wp2_with fail
   go_at_call 66
   rw [HW.out]
   refine he.mono ?_
   rintro e w2 ⟨rfl, b2⟩
   have q2 := (b2.block (w.heap.size + 1) (by omega)).trans Q0
   have L2 := hb0.trans (b2.mono hb0.size)
   have l2 : w.heap.size + 1 < w2.heap.size := by have := b2.size; omega
   clear he HW
   go_wp2_with fail
   go_at_call 67
   refine (hns _).mono ?_
   rintro e w3 ⟨rfl, rfl⟩
   go_wp2_with fail
   go_at_call 49
   refine (hfo _).mono ?_
   rintro e w4 ⟨rfl, b4⟩
   have q2 := (b4.block (w.heap.size + 1) (by omega)).trans q2
   have L2 := L2.trans (b4.mono L2.size)
   obtain ⟨c0, c1, c2, c3⟩ := four_cells q2
   have f0 := four_frozen q2 0
   have f1 := four_frozen q2 1
   have f2 := four_frozen q2 2
   have f3 := four_frozen q2 3
   have Q2 := four_set q2 (.func (.func 75) #[] #[]) (.func (.func 76) #[] #[]) (.func (.func 77) #[] #[]) (.func (.func m) #[] #[])
   obtain ⟨d0, d1, d2, d3⟩ := four_cells Q2
   clear q2 Q2
   go_wp2
   refine bodyPost_ret (v := .tuple #[.agg #[.func (.func 75) #[] #[], .func (.func 76) #[] #[], .func (.func 77) #[] #[], .func (.func m) #[] #[]], .bool true]) (by simp [results, Tryz.results46, go_sem, d0, d1, d2, d3]) rfl ?_
   exact ⟨rfl, (((L2.setCell (by simp) _).setCell (by simp) _).setCell (by simp) _).setCell (by simp) _⟩
 · have hic : isCl c = false := by simpa [isCl] using hc
   simp only [hic, Bool.and_false, Bool.false_and, Bool.false_eq_true, if_false]
   have hfo := fun W => flowsOfNo c (fun e => hc (.inl e)) (fun e => hc (.inr e)) W
   go_enter Tryz.func46, Tryz.ntmps46
   go_wp2_with fail
   go_at_call 66
   rw [HW.out]
   refine he.mono ?_
   rintro e w2 ⟨rfl, b2⟩
   have q2 := (b2.block (w.heap.size + 1) (by omega)).trans Q0
   have L2 := hb0.trans (b2.mono hb0.size)
   have l2 : w.heap.size + 1 < w2.heap.size := by have := b2.size; omega
   clear he HW
   go_wp2_with fail
   go_at_call 67
   refine (hns _).mono ?_
   rintro e w3 ⟨rfl, rfl⟩
   go_wp2_with fail
   go_at_call 49
   refine (hfo _).mono ?_
   rintro e w4 ⟨rfl, b4⟩
   have q2 := (b4.block (w.heap.size + 1) (by omega)).trans q2
   have L2 := L2.trans (b4.mono L2.size)
   obtain ⟨c0, c1, c2, c3⟩ := four_cells q2
   have f0 := four_frozen q2 0
   have f1 := four_frozen q2 1
   have f2 := four_frozen q2 2
   have f3 := four_frozen q2 3
   have Q2 := four_set q2 (.nilFunc) (.nilFunc) (.nilFunc) (.nilFunc)
   obtain ⟨d0, d1, d2, d3⟩ := four_cells Q2
   clear q2 Q2
   go_wp2
   refine bodyPost_ret (v := .tuple #[.agg #[.nilFunc, .nilFunc, .nilFunc, .nilFunc], .bool false]) (by simp [results, Tryz.results46, go_sem, d0, d1, d2, d3]) rfl ?_
   exact ⟨rfl, (((L2.setCell (by simp) _).setCell (by simp) _).setCell (by simp) _).setCell (by simp) _⟩
end Go.Proofs.YtdkdhjhhbkcciaaGreat
namespace Go.Proofs.YtdkdhjhhbkcciaaGreat
open Go.RowKit Go.Shelf
set_option linter.unusedVariables false
set_option maxHeartbeats 4000000
set_option maxRecDepth 20000
def rem (fs : List Int) : Nat := (fs.map (fun x => (127 - x).toNat)).sum
def remV : Value → Nat
 | .int _ n => (127 - n).toNat
 | _ => 0
def remW (w : World) (B : Nat) : Nat :=
 match w.heap[B]? with
 | some (.cells cur _ _) => (cur.toList.map remV).sum
 | _ => 0
def lenS : Value → Nat
 | .slice _ n _ => n
 | _ => 0
def lenW (w : World) (B : Nat) : Nat :=
 match w.heap[B]? with
 | some (.cells cur _ _) => lenS (cur.getD 0 undef)
 | _ => 0
theorem remW_eq {w : World} {B : Nat} {t : TypeId} {z : Nat × Nat} {fs : List Int} (h : w.heap[B]? = some (.cells (ints fs).toArray t z)) : remW w B = rem fs := by
 unfold remW rem
 rw [h]
 simp only [ints, List.map_map]
 rfl
theorem lenW_eq {w : World} {B : Nat} {t : TypeId} {z : Nat × Nat} {a : Option Addr} {n c : Nat} (h : w.heap[B]? = some (.cells #[.slice a n c] t z)) : lenW w B = n := by
 unfold lenW
 rw [h]
 rfl
theorem lor_ge {a b : Int} (ha : Small a) (hb : Small b) (h : hasA a b = false) : a + 1 ≤ lor a b := by
 obtain ⟨m, rfl, hm⟩ := small_nat ha
 obtain ⟨n, rfl, hn⟩ := small_nat hb
 unfold hasA at h
 rw [decide_eq_false_iff_not] at h
 rw [lor_nat m n hm hn] at h ⊢
 have : m ≤ m ||| n := Nat.left_le_or
 omega
theorem rem_set : ∀ (fs : List Int) (i : Nat) (x : Int), i < fs.length → fs.getD i 0 + 1 ≤ x → x ≤ 127 → rem (fs.set i x) + 1 ≤ rem fs
 | [], i, x, h, _, _ => by simp at h
 | y :: fs, 0, x, _, h1, h2 => by
  simp at h1
  simp only [rem, List.set_cons_zero, List.map_cons, List.sum_cons]
  omega
 | y :: fs, i + 1, x, h, h1, h2 => by
  have := rem_set fs i x (by simpa using h) (by simpa using h1) h2
  simp only [rem, List.set_cons_succ, List.map_cons, List.sum_cons] at this ⊢
  omega
theorem blk_ne {w : World} {a b : Nat} {c1 c2 : Array Value} {t1 t2 : TypeId} {z1 z2 : Nat × Nat} (h1 : w.heap[a]? = some (.cells c1 t1 z1)) (h2 : w.heap[b]? = some (.cells c2 t2 z2)) (ht : t1 ≠ t2) : a ≠ b := by
 rintro rfl
 have := h1.symm.trans h2
 simp only [Option.some.injEq, Obj.cells.injEq] at this
 exact ht this.2.1
theorem own_blk {w : World} {base : Nat} {e : TypeId} {s : Nat} {v : Value} {n : Nat} {xs : List Value} (h : w.ownsRow base e s v n xs) {k : Nat} (hk : v.ownBlock = some k) : ∃ cur, w.heap[k]? = some (.cells cur e (0, 0)) := by
 rcases h.2 with ⟨rfl, _⟩ | ⟨g, cap, cur, rfl, _, hg, _⟩
 · simp [Value.ownBlock] at hk
 · simp [Value.ownBlock] at hk
   subst hk
   exact ⟨cur, hg⟩
structure VS (v : Value) (m : Nat) (w : World) (B Bp Bf Fb Wb : Nat) (J : List Vis → (Nat → Prop) → World → Prop) (pre : List Vis) (f : Nat → Prop) (g cap : Nat) (L : List Vis) (fs : List Int) (wr : World) : Prop where
 hp : Hp wr w.heap.size Wb g cap L
 fd : wr.heap[Fb]? = some (.cells (ints fs).toArray 90 (0, 0))
 j : J pre f wr
 flt : ∀ r, f r → r < wr.heap.size
 low : ∀ r, r < w.heap.size → ¬ f r
 nW : ¬ f Wb
 nF : ¬ f Fb
 ng : ¬ f g
 nP : ¬ f Bp
 nB : ¬ f Bf
 nu : ∀ x ∈ L, ∀ k, x.u.ownBlock = some k → ¬ f k
 bl : Below w.heap.size w wr
 bp : wr.heap[Bp]? = some (.cells #[v] 46 (0, 0))
 bf : wr.heap[Bf]? = some (.cells #[.func (.func 75) #[] #[], .func (.func 76) #[] #[], .func (.func 77) #[] #[], .func (.func m) #[] #[]] 87 (0, 0))
 hW : B ≤ Wb
 hF : B ≤ Fb
 hg : B ≤ g
section
variable {v : Value} {m : Nat} {w : World} {B Bp Bf Fb Wb : Nat} {J J' : List Vis → (Nat → Prop) → World → Prop} {pre pre' : List Vis} {f f' : Nat → Prop} {g cap g' cap' : Nat} {L L' : List Vis} {fs : List Int} {wr wr' : World}
theorem VS.rowB (h : VS v m w B Bp Bf Fb Wb J pre f g cap L fs wr) : ∃ cur, wr.heap[g]? = some (.cells cur 95 (0, 0)) := own_blk h.hp.row rfl
theorem VS.grow (hJ : FootAbidesA B J) (h : VS v m w B Bp Bf Fb Wb J pre f g cap L fs wr) (hb : Below wr.heap.size wr wr') : VS v m w B Bp Bf Fb Wb J pre f g cap L fs wr' :=
 { h with hp := h.hp.below hb, fd := (hb.block _ (Array.getElem?_eq_some_iff.1 h.fd).1).trans h.fd, j := hJ _ _ _ _ (fun _ => False) h.j ⟨hb.os, hb.tape, hb.output, hb.size, fun r hr _ => hb.block r hr⟩ (fun r hr => hr.elim),
          flt := fun r hr => Nat.lt_of_lt_of_le (h.flt r hr) hb.size, bl := h.bl.trans (hb.mono h.bl.size), bp := (hb.block _ (Array.getElem?_eq_some_iff.1 h.bp).1).trans h.bp, bf := (hb.block _ (Array.getElem?_eq_some_iff.1 h.bf).1).trans h.bf }
theorem VS.heap (hJ : FootAbidesA B J) (hBw : w.heap.size ≤ B) (h : VS v m w B Bp Bf Fb Wb J pre f g cap L fs wr) (hp : Hp wr' w.heap.size Wb g' cap' L') (ht : Turn2 wr Wb g wr') (hg' : g' = g ∨ wr.heap.size ≤ g') (hu : ∀ x ∈ L', ∀ k, x.u.ownBlock = some k → ¬ f k) : VS v m w B Bp Bf Fb Wb J pre f g' cap' L' fs wr' := by
 obtain ⟨cur, hrow⟩ := h.rowB
 have nFW : Fb ≠ Wb := blk_ne h.fd h.hp.box (by decide)
 have nFg : Fb ≠ g := blk_ne h.fd hrow (by decide)
 have nPW : Bp ≠ Wb := blk_ne h.bp h.hp.box (by decide)
 have nPg : Bp ≠ g := blk_ne h.bp hrow (by decide)
 have nBW : Bf ≠ Wb := blk_ne h.bf h.hp.box (by decide)
 have nBg : Bf ≠ g := blk_ne h.bf hrow (by decide)
 have hga : GrownA wr (fun r => r = Wb ∨ r = g) wr' := ⟨ht.os, ht.tape, ht.output, ht.size, fun r hr hn => ht.block r hr (fun e => hn (.inl e)) (fun e => hn (.inr e))⟩
 exact { h with
  hp := hp
  fd := (ht.block _ (Array.getElem?_eq_some_iff.1 h.fd).1 nFW nFg).trans h.fd
  j := hJ _ _ _ _ _ h.j hga (fun r hr => by
   rcases hr with rfl | rfl
   · exact ⟨h.hW, h.nW⟩
   · exact ⟨h.hg, h.ng⟩)
  flt := fun r hr => Nat.lt_of_lt_of_le (h.flt r hr) ht.size
  ng := by
   rcases hg' with rfl | e
   · exact h.ng
   · exact fun hf => by have := h.flt _ hf; omega
  nu := hu
  bl := Below.grownA h.bl hga h.bl.size (fun r hr => by
   rcases hr with rfl | rfl
   · exact Nat.le_trans hBw h.hW
   · exact Nat.le_trans hBw h.hg)
  bp := (ht.block _ (Array.getElem?_eq_some_iff.1 h.bp).1 nPW nPg).trans h.bp
  bf := (ht.block _ (Array.getElem?_eq_some_iff.1 h.bf).1 nBW nBg).trans h.bf
  hg := by
   rcases hg' with rfl | e
   · exact h.hg
   · have := h.hg; have := h.hp.ltg; omega }
theorem VS.found (hJ : FootAbidesA B J) (hBw : w.heap.size ≤ B) (h : VS v m w B Bp Bf Fb Wb J pre f g cap L fs wr) (i : Nat) (x : Int) : VS v m w B Bp Bf Fb Wb J pre f g cap L (fs.set i x) (wr.setCell ⟨Fb, i, none⟩ (.int .i64 x)) := by
 obtain ⟨cur, hrow⟩ := h.rowB
 have nFW : Wb ≠ Fb := blk_ne h.hp.box h.fd (by decide)
 have nFg : g ≠ Fb := blk_ne hrow h.fd (by decide)
 have nPF : Bp ≠ Fb := blk_ne h.bp h.fd (by decide)
 have nBF : Bf ≠ Fb := blk_ne h.bf h.fd (by decide)
 have gs := grown_setCell1H wr Fb i (.int .i64 x)
 refine { h with hp := ⟨(gs.block _ h.hp.lt (fun e => nFW (by simpa using e))).trans h.hp.box, own_grown h.hp.row gs (fun k hk e => by simp [Value.ownBlock] at hk; simp at e; omega), fun y hy => own_grown (h.hp.ways y hy) gs (fun k hk e => ?_), h.hp.short⟩, fd := ?_, j := ?_, flt := fun r hr => Nat.lt_of_lt_of_le (h.flt r hr) gs.size, bl := h.bl.setCell (Nat.le_trans hBw h.hF) _, bp := (gs.block _ (Array.getElem?_eq_some_iff.1 h.bp).1 (fun e => nPF (by simpa using e))).trans h.bp, bf := (gs.block _ (Array.getElem?_eq_some_iff.1 h.bf).1 (fun e => nBF (by simpa using e))).trans h.bf }
 · obtain ⟨c2, h2⟩ := own_blk (h.hp.ways y hy) hk
   simp at e
   subst e
   exact blk_ne h2 h.fd (by decide) rfl
 · have := heap_setCell_same wr Fb i _ 90 (.int .i64 x) h.fd
   rw [this]
   simp [ints, List.map_set]
 · exact hJ _ _ _ _ _ h.j (GrownA.of gs) (fun r e => by cases e; exact ⟨h.hF, h.nF⟩)
theorem VS.round (h : VS v m w B Bp Bf Fb Wb J pre f g cap L fs wr) (hO : Outside f wr f' wr') (hj : J' pre' f' wr') : VS v m w B Bp Bf Fb Wb J' pre' f' g cap L fs wr' where
 hp := ⟨(hO.block _ h.hp.lt h.nW).trans h.hp.box, own_same h.hp.row (fun k hk => by simp [Value.ownBlock] at hk; subst hk; exact hO.block _ h.hp.ltg h.ng), fun x hx => own_same (h.hp.ways x hx) (fun k hk => hO.block k ((h.hp.ways x hx).lt k hk).2 (h.nu x hx k hk)), h.hp.short⟩
 fd := (hO.block _ (Array.getElem?_eq_some_iff.1 h.fd).1 h.nF).trans h.fd
 j := hj
 flt := hO.lt
 low := fun r hr hf => h.low r hr (hO.less r (Nat.lt_of_lt_of_le hr h.bl.size) hf)
 nW := fun hf => h.nW (hO.less _ h.hp.lt hf)
 nF := fun hf => h.nF (hO.less _ (Array.getElem?_eq_some_iff.1 h.fd).1 hf)
 ng := fun hf => h.ng (hO.less _ h.hp.ltg hf)
 nP := fun hf => h.nP (hO.less _ (Array.getElem?_eq_some_iff.1 h.bp).1 hf)
 nB := fun hf => h.nB (hO.less _ (Array.getElem?_eq_some_iff.1 h.bf).1 hf)
 nu := fun x hx k hk hf => h.nu x hx k hk (hO.less k ((h.hp.ways x hx).lt k hk).2 hf)
 bl := ⟨hO.os.trans h.bl.os, hO.tape.trans h.bl.tape, hO.output.trans h.bl.output, Nat.le_trans h.bl.size hO.size, fun k hk => (hO.block k (Nat.lt_of_lt_of_le hk h.bl.size) (h.low k hk)).trans (h.bl.block k hk)⟩
 bp := (hO.block _ (Array.getElem?_eq_some_iff.1 h.bp).1 h.nP).trans h.bp
 bf := (hO.block _ (Array.getElem?_eq_some_iff.1 h.bf).1 h.nB).trans h.bf
 hW := h.hW
 hF := h.hF
 hg := h.hg
end
theorem found_cell {w : World} {B : Nat} {t : TypeId} {ds : List Int} (h : w.heap[B]? = some (.cells (ints ds).toArray t (0, 0))) (j : Nat) (hj : j < ds.length) : w.cell? ⟨B, j, none⟩ = some (.int .i64 (ds.getD j 0)) ∧ w.frozen? ⟨B, j, none⟩ = false := by
 refine ⟨?_, frozen_of_row w B j _ t h⟩
 rw [cell_of_row w B j _ t (0, 0) h]
 simp [ints, hj, List.getD]
def VG (c : Int) (ss : List Stm) (s : Int) (base : Nat) (x : Vis) (f : Nat → Prop) (W : World) : Prop :=
 W.ownsRow base 2 1 x.u x.way.length (ints x.way) ∧ (∀ k, x.u.ownBlock = some k → ¬ f k) ∧ x.way.length ≤ 100000 ∧ RW ss x.way ∧ x.set = st c ss s x.way
structure VPush (v : Value) (m : Nat) (w : World) (B Bp Bf Fb Wb : Nat) (J : List Vis → (Nat → Prop) → World → Prop) (pre : List Vis) (f : Nat → Prop) (fs : List Int) (x : Vis) (xv : Value) (Vb : Nat) (un : Value) (ns : List Int) (L1 : List Vis) (b : Int) (k g cap : Nat) (L : List Vis) (wr : World) : Prop where
 vs : VS v m w B Bp Bf Fb Wb J pre f g cap L fs wr
 vb : wr.heap[Vb]? = some (.cells #[xv, .int .i64 x.set] 95 (0, 0))
 nvg : Vb ≠ g
 xo : wr.ownsRow w.heap.size 2 1 xv x.way.length (ints x.way)
 no : wr.ownsRow w.heap.size 2 1 un ns.length (ints ns)
 ih : IsH L L.length
 len : L.length = L1.length + k
 frm : ∀ y ∈ L, y ∈ L1 ∨ ∃ n ∈ ns.take k, y.way = x.way ++ [n] ∧ y.set = b
 old : ∀ y ∈ L1, y ∈ L
 new : ∀ n ∈ ns.take k, ∃ y ∈ L, y.way = x.way ++ [n]
theorem VPush.step {v : Value} {m : Nat} {w : World} {B Bp Bf Fb Wb : Nat} {J : List Vis → (Nat → Prop) → World → Prop} {pre : List Vis} {f : Nat → Prop} {fs : List Int} {x : Vis} {xv : Value} {Vb : Nat} {un : Value} {ns : List Int} {L1 : List Vis} {b : Int} {k g cap : Nat} {L : List Vis} {wr : World}
 (hJ : FootAbidesA B J) (hBw : w.heap.size ≤ B) (h : VPush v m w B Bp Bf Fb Wb J pre f fs x xv Vb un ns L1 b k g cap L wr) (hk : k < ns.length) {w1 w2 : World} (hb : Below wr.heap.size wr w1) {u : Value} (hu : ∀ q, u.ownBlock = some q → wr.heap.size ≤ q) {g' cap' : Nat} {L' : List Vis}
 (hp : Hp w2 w.heap.size Wb g' cap' L') (ht : Turn2 w1 Wb g w2) (hg' : g' = g ∨ w1.heap.size ≤ g') (hl : L'.length = L.length + 1) (hm : ∀ y, y ∈ L' ↔ y = ⟨u, x.way ++ [ns[k]], b⟩ ∨ y ∈ L) (hi : IsH L' L'.length) :
 VPush v m w B Bp Bf Fb Wb J pre f fs x xv Vb un ns L1 b (k + 1) g' cap' L' w2 := by
 have v1 := h.vs.grow hJ hb
 have tk : ns.take (k + 1) = ns.take k ++ [ns[k]] := List.take_succ_eq_append_getElem hk
 have hxo1 := own_kept h.xo hb
 have hno1 := own_kept h.no hb
 have hvb1 := (hb.block Vb (Array.getElem?_eq_some_iff.1 h.vb).1).trans h.vb
 have ltV := (Array.getElem?_eq_some_iff.1 hvb1).1
 obtain ⟨cur, hrow⟩ := v1.rowB
 have nVW : Vb ≠ Wb := blk_ne hvb1 v1.hp.box (by decide)
 have keep : ∀ {u2 : Value} {l : Nat} {xs : List Value}, w1.ownsRow w.heap.size 2 1 u2 l xs → w2.ownsRow w.heap.size 2 1 u2 l xs := fun {u2 l xs} ho => own_same ho (fun q hq => by
  obtain ⟨c2, h2⟩ := own_blk ho hq
  exact ht.block q (ho.lt q hq).2 (blk_ne h2 v1.hp.box (by decide)) (blk_ne h2 hrow (by decide)))
 refine ⟨v1.heap hJ hBw hp ht hg' (fun y hy q hq hf => ?_), (ht.block Vb ltV nVW h.nvg).trans hvb1, ?_, keep hxo1, keep hno1, hi, by rw [hl, h.len]; omega, fun y hy => ?_, fun y hy => (hm y).2 (.inr (h.old y hy)), fun n hn => ?_⟩
 · rcases (hm y).1 hy with rfl | hy
   · have h1 := hu q hq
     have h2 := h.vs.flt q hf
     omega
   · exact h.vs.nu y hy q hq hf
 · rcases hg' with rfl | e
   · exact h.nvg
   · omega
 · rcases (hm y).1 hy with rfl | hy
   · exact .inr ⟨ns[k], by rw [tk]; exact List.mem_append.2 (.inr (List.mem_singleton.2 rfl)), rfl, rfl⟩
   · rcases h.frm y hy with hy | ⟨n, hn, h1, h2⟩
     · exact .inl hy
     · exact .inr ⟨n, by rw [tk]; exact List.mem_append.2 (.inl hn), h1, h2⟩
 · rw [tk] at hn
   rcases List.mem_append.1 hn with hn | hn
   · obtain ⟨y, hy, e⟩ := h.new n hn
     exact ⟨y, (hm y).2 (.inr hy), e⟩
   · simp at hn
     subst hn
     exact ⟨_, (hm _).2 (.inl rfl), rfl⟩
end Go.Proofs.YtdkdhjhhbkcciaaGreat
