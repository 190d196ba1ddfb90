/-
  Put together out of: InTop, VisSt, SpecSolved, LayersB, SpecLess.
-/
import Derived.Test.YtciccbbgamklbaaG04VisitsM
import Derived.Test.YtciccbbgamklbaaG03Proc
import Derived.Test.YtciccbbgamklbaaG06RangeFootH
import Derived.Test.YtciccbbgamklbaaG05Lists
import Derived.OwnWalk
import Derived.BigRegion
import Derived.Test.YtciccbbgamklbaaG00RelA
/-
  Chapter 8, the program's small functions: isNoSet, hasAll, flowsInside.
-/
namespace Go.Proofs.Ytciccbbgamklbaa
open Go.RowKit
set_option linter.unusedVariables false
set_option maxHeartbeats 2000000
set_option maxRecDepth 4000

theorem isNoSet (s : Int) (w : World) : Calls Try.prog 51 #[.int .i64 s] w fun e w' => e = .returned (.bool (!inB s 0 127)) ∧ w = w' := by
  go_enter Try.func51, Try.ntmps51
  go_wp2_with (go_at_call 31; refine (within _ _ _).mono ?_; rintro e w' ⟨rfl, rfl⟩; simp only [wiB_inB])
  go_ret
  exact ⟨rfl, rfl⟩

theorem hasAll (a b : Int) (ha : Small a) (hb : Small b) (w : World) : Calls Try.prog 34 #[.int .i64 a, .int .i64 b] w fun e w' => e = .returned (.bool (hasA a b)) ∧ w = w' := by
  have h := cut_has ha hb
  have h' : (bits .andNot .i64 b a == 0) = hasA a b := by rw [← h]; rw [Bool.eq_iff_iff]; simp
  clear h
  go_enter Try.func34, Try.ntmps34
  go_wp2
  go_ret
  exact ⟨by first | rfl | (rw [h']), rfl⟩

theorem four_frozen {W : World} {B : Nat} {v0 v1 v2 v3 : Value} {t : TypeId} (q : W.heap[B]? = some (.cells #[v0, v1, v2, v3] t (0, 0))) (j : Nat) : W.frozen? ⟨B, j, none⟩ = false := frozen_of_row W B j _ _ q

theorem four_set {W : World} {B : Nat} {v0 v1 v2 v3 : Value} {t : TypeId} (q : W.heap[B]? = some (.cells #[v0, v1, v2, v3] t (0, 0))) (x0 x1 x2 x3 : Value) :
    ((((W.setCell ⟨B, 0, none⟩ x0).setCell ⟨B, 1, none⟩ x1).setCell ⟨B, 2, none⟩ x2).setCell ⟨B, 3, none⟩ x3).heap[B]? = some (.cells #[x0, x1, x2, x3] t (0, 0)) := by
  have h0 := heap_setCell_same W B 0 _ t x0 q
  have h1 := heap_setCell_same _ B 1 _ t x1 h0
  have h2 := heap_setCell_same _ B 2 _ t x2 h1
  have h3 := heap_setCell_same _ B 3 _ t x3 h2
  rw [h3]
  rfl

theorem flowsInside (ss : List Stm) (c s : Int) (v : Value) (w : World) (hl : ss.length ≤ maxLen) (hv : Reads3 w v ss) :
    Calls Try.prog 30 #[.agg #[v], .int .i64 c, .int .i64 s] w fun e w' => e = .returned (.tuple #[if procOk ss && isCl c && inB s 0 127 then flowsV (markFn c) else .agg #[.nilFunc, .nilFunc, .nilFunc, .nilFunc], .bool (procOk ss && isCl c && inB s 0 127)]) ∧ Below w.heap.size w w' := by
  obtain ⟨W0, hW0⟩ : ∃ W0, (w.alloc (.cells #[v] 30)).alloc (.cells #[.nilFunc, .nilFunc, .nilFunc, .nilFunc] 59) = W0 := ⟨_, rfl⟩
  have hb0 : Below w.heap.size w W0 := by rw [← hW0]; go_grown
  have s0 : W0.heap.size = w.heap.size + 2 := by rw [← hW0]; simp
  have Q0 : W0.heap[w.heap.size + 1]? = some (.cells #[.nilFunc, .nilFunc, .nilFunc, .nilFunc] 59 (0, 0)) := by
    rw [← hW0]
    have := heap_alloc_new (w.alloc (.cells #[v] 30)) (.cells #[.nilFunc, .nilFunc, .nilFunc, .nilFunc] 59)
    simpa using this
  have he := implProcOk ss v W0 hl (reads3_below hv hb0)
  have HW : Hid ((w.alloc (.cells #[v] 30)).alloc (.cells #[.nilFunc, .nilFunc, .nilFunc, .nilFunc] 59) = W0) := hW0
  clear hW0
  have hns := fun W => isNoSet s W
  cases hok : procOk ss
  · rw [hok] at he
    simp only [Bool.false_and, Bool.false_eq_true, if_false]
    go_enter Try.func30, Try.ntmps30
    go_wp2_with fail
    go_at_call 43
    rw [HW.out]
    refine he.mono ?_
    rintro e w2 ⟨rfl, b2⟩
    have q2 := (b2.block (w.heap.size + 1) (by omega)).trans Q0
    have L2 := hb0.trans (b2.mono hb0.size)
    have l2 : w.heap.size + 1 < w2.heap.size := by have := b2.size; omega
    clear he HW
    obtain ⟨c0, c1, c2, c3⟩ := four_cells q2
    have f0 := four_frozen q2 0
    have f1 := four_frozen q2 1
    have f2 := four_frozen q2 2
    have f3 := four_frozen q2 3
    have Q2 := four_set q2 (.nilFunc) (.nilFunc) (.nilFunc) (.nilFunc)
    obtain ⟨d0, d1, d2, d3⟩ := four_cells Q2
    clear q2 Q2
    go_wp2
    refine bodyPost_ret (v := .tuple #[.agg #[.nilFunc, .nilFunc, .nilFunc, .nilFunc], .bool false]) (by simp [results, Try.results30, go_sem, d0, d1, d2, d3]) rfl ?_
    exact ⟨rfl, (((L2.setCell (by simp) _).setCell (by simp) _).setCell (by simp) _).setCell (by simp) _⟩
  rw [hok] at he
  cases hs : inB s 0 127
  · rw [hs] at hns
    simp only [Bool.and_false, Bool.false_eq_true, if_false]
    go_enter Try.func30, Try.ntmps30
    go_wp2_with fail
    go_at_call 43
    rw [HW.out]
    refine he.mono ?_
    rintro e w2 ⟨rfl, b2⟩
    have q2 := (b2.block (w.heap.size + 1) (by omega)).trans Q0
    have L2 := hb0.trans (b2.mono hb0.size)
    have l2 : w.heap.size + 1 < w2.heap.size := by have := b2.size; omega
    clear he HW
    go_wp2_with fail
    go_at_call 51
    refine (hns _).mono ?_
    rintro e w3 ⟨rfl, rfl⟩
    obtain ⟨c0, c1, c2, c3⟩ := four_cells q2
    have f0 := four_frozen q2 0
    have f1 := four_frozen q2 1
    have f2 := four_frozen q2 2
    have f3 := four_frozen q2 3
    have Q2 := four_set q2 (.nilFunc) (.nilFunc) (.nilFunc) (.nilFunc)
    obtain ⟨d0, d1, d2, d3⟩ := four_cells Q2
    clear q2 Q2
    go_wp2
    refine bodyPost_ret (v := .tuple #[.agg #[.nilFunc, .nilFunc, .nilFunc, .nilFunc], .bool false]) (by simp [results, Try.results30, go_sem, d0, d1, d2, d3]) rfl ?_
    exact ⟨rfl, (((L2.setCell (by simp) _).setCell (by simp) _).setCell (by simp) _).setCell (by simp) _⟩
  rw [hs] at hns
  by_cases hc : c = 1 ∨ c = 2
  · have hic : isCl c = true := by simpa [isCl] using hc
    simp only [hic, Bool.and_self, if_true]
    have hfo := fun W => flowsOf c hc W
    generalize markFn c = m at *
    unfold flowsV at hfo ⊢
    go_enter Try.func30, Try.ntmps30
    go_wp2_with fail
    go_at_call 43
    rw [HW.out]
    refine he.mono ?_
    rintro e w2 ⟨rfl, b2⟩
    have q2 := (b2.block (w.heap.size + 1) (by omega)).trans Q0
    have L2 := hb0.trans (b2.mono hb0.size)
    have l2 : w.heap.size + 1 < w2.heap.size := by have := b2.size; omega
    clear he HW
    go_wp2_with fail
    go_at_call 51
    refine (hns _).mono ?_
    rintro e w3 ⟨rfl, rfl⟩
    go_wp2_with fail
    go_at_call 52
    refine (hfo _).mono ?_
    rintro e w4 ⟨rfl, b4⟩
    have q2 := (b4.block (w.heap.size + 1) (by omega)).trans q2
    have L2 := L2.trans (b4.mono L2.size)
    obtain ⟨c0, c1, c2, c3⟩ := four_cells q2
    have f0 := four_frozen q2 0
    have f1 := four_frozen q2 1
    have f2 := four_frozen q2 2
    have f3 := four_frozen q2 3
    have Q2 := four_set q2 (.func (.func 70) #[] #[]) (.func (.func 71) #[] #[]) (.func (.func 72) #[] #[]) (.func (.func m) #[] #[])
    obtain ⟨d0, d1, d2, d3⟩ := four_cells Q2
    clear q2 Q2
    go_wp2
    refine bodyPost_ret (v := .tuple #[.agg #[.func (.func 70) #[] #[], .func (.func 71) #[] #[], .func (.func 72) #[] #[], .func (.func m) #[] #[]], .bool true]) (by simp [results, Try.results30, go_sem, d0, d1, d2, d3]) rfl ?_
    exact ⟨rfl, (((L2.setCell (by simp) _).setCell (by simp) _).setCell (by simp) _).setCell (by simp) _⟩
  · have hic : isCl c = false := by simpa [isCl] using hc
    simp only [hic, Bool.and_false, Bool.false_and, Bool.false_eq_true, if_false]
    have hfo := fun W => flowsOfNo c (fun e => hc (.inl e)) (fun e => hc (.inr e)) W
    go_enter Try.func30, Try.ntmps30
    go_wp2_with fail
    go_at_call 43
    rw [HW.out]
    refine he.mono ?_
    rintro e w2 ⟨rfl, b2⟩
    have q2 := (b2.block (w.heap.size + 1) (by omega)).trans Q0
    have L2 := hb0.trans (b2.mono hb0.size)
    have l2 : w.heap.size + 1 < w2.heap.size := by have := b2.size; omega
    clear he HW
    go_wp2_with fail
    go_at_call 51
    refine (hns _).mono ?_
    rintro e w3 ⟨rfl, rfl⟩
    go_wp2_with fail
    go_at_call 52
    refine (hfo _).mono ?_
    rintro e w4 ⟨rfl, b4⟩
    have q2 := (b4.block (w.heap.size + 1) (by omega)).trans q2
    have L2 := L2.trans (b4.mono L2.size)
    obtain ⟨c0, c1, c2, c3⟩ := four_cells q2
    have f0 := four_frozen q2 0
    have f1 := four_frozen q2 1
    have f2 := four_frozen q2 2
    have f3 := four_frozen q2 3
    have Q2 := four_set q2 (.nilFunc) (.nilFunc) (.nilFunc) (.nilFunc)
    obtain ⟨d0, d1, d2, d3⟩ := four_cells Q2
    clear q2 Q2
    go_wp2
    refine bodyPost_ret (v := .tuple #[.agg #[.nilFunc, .nilFunc, .nilFunc, .nilFunc], .bool false]) (by simp [results, Try.results30, go_sem, d0, d1, d2, d3]) rfl ?_
    exact ⟨rfl, (((L2.setCell (by simp) _).setCell (by simp) _).setCell (by simp) _).setCell (by simp) _⟩

end Go.Proofs.Ytciccbbgamklbaa

/-
  The iterator visitsWithNews$1: its state.
-/
namespace Go.Proofs.Ytciccbbgamklbaa
open Go.RowKit Go.Shelf
set_option linter.unusedVariables false
set_option maxHeartbeats 4000000
set_option maxRecDepth 20000

/-- How much may still be found. -/
def rem (fs : List Int) : Nat := (fs.map (fun x => (127 - x).toNat)).sum

def remV : Value → Nat
  | .int _ n => (127 - n).toNat
  | _ => 0

def remW (w : World) (B : Nat) : Nat :=
  match w.heap[B]? with
  | some (.cells cur _ _) => (cur.toList.map remV).sum
  | _ => 0

def lenS : Value → Nat
  | .slice _ n _ => n
  | _ => 0

def lenW (w : World) (B : Nat) : Nat :=
  match w.heap[B]? with
  | some (.cells cur _ _) => lenS (cur.getD 0 undef)
  | _ => 0

theorem remW_eq {w : World} {B : Nat} {t : TypeId} {z : Nat × Nat} {fs : List Int} (h : w.heap[B]? = some (.cells (ints fs).toArray t z)) : remW w B = rem fs := by
  unfold remW rem
  rw [h]
  simp only [ints, List.map_map]
  rfl

theorem lenW_eq {w : World} {B : Nat} {t : TypeId} {z : Nat × Nat} {a : Option Addr} {n c : Nat} (h : w.heap[B]? = some (.cells #[.slice a n c] t z)) : lenW w B = n := by
  unfold lenW
  rw [h]
  rfl

theorem lor_ge {a b : Int} (ha : Small a) (hb : Small b) (h : hasA a b = false) : a + 1 ≤ lor a b := by
  obtain ⟨m, rfl, hm⟩ := small_nat ha
  obtain ⟨n, rfl, hn⟩ := small_nat hb
  unfold hasA at h
  rw [decide_eq_false_iff_not] at h
  rw [lor_nat m n hm hn] at h ⊢
  have : m ≤ m ||| n := Nat.left_le_or
  omega

theorem rem_set : ∀ (fs : List Int) (i : Nat) (x : Int), i < fs.length → fs.getD i 0 + 1 ≤ x → x ≤ 127 → rem (fs.set i x) + 1 ≤ rem fs
  | [], i, x, h, _, _ => by simp at h
  | y :: fs, 0, x, _, h1, h2 => by
    simp at h1
    simp only [rem, List.set_cons_zero, List.map_cons, List.sum_cons]
    omega
  | y :: fs, i + 1, x, h, h1, h2 => by
    have := rem_set fs i x (by simpa using h) (by simpa using h1) h2
    simp only [rem, List.set_cons_succ, List.map_cons, List.sum_cons] at this ⊢
    omega

theorem blk_ne {w : World} {a b : Nat} {c1 c2 : Array Value} {t1 t2 : TypeId} {z1 z2 : Nat × Nat} (h1 : w.heap[a]? = some (.cells c1 t1 z1)) (h2 : w.heap[b]? = some (.cells c2 t2 z2)) (ht : t1 ≠ t2) : a ≠ b := by
  rintro rfl
  have := h1.symm.trans h2
  simp only [Option.some.injEq, Obj.cells.injEq] at this
  exact ht this.2.1

theorem own_blk {w : World} {base : Nat} {e : TypeId} {s : Nat} {v : Value} {n : Nat} {xs : List Value} (h : w.ownsRow base e s v n xs) {k : Nat} (hk : v.ownBlock = some k) : ∃ cur, w.heap[k]? = some (.cells cur e (0, 0)) := by
  rcases h.2 with ⟨rfl, _⟩ | ⟨g, cap, cur, rfl, _, hg, _⟩
  · simp [Value.ownBlock] at hk
  · simp [Value.ownBlock] at hk
    subst hk
    exact ⟨cur, hg⟩

/-- The iterator's own state. -/
structure VS (v : Value) (m : Nat) (w : World) (B Bp Bf Fb Wb : Nat) (J : List Vis → (Nat → Prop) → World → Prop) (pre : List Vis) (f : Nat → Prop) (g cap : Nat) (L : List Vis) (fs : List Int) (wr : World) : Prop where
  hp : Hp wr w.heap.size Wb g cap L
  fd : wr.heap[Fb]? = some (.cells (ints fs).toArray 78 (0, 0))
  j : J pre f wr
  flt : ∀ r, f r → r < wr.heap.size
  low : ∀ r, r < w.heap.size → ¬ f r
  nW : ¬ f Wb
  nF : ¬ f Fb
  ng : ¬ f g
  nP : ¬ f Bp
  nB : ¬ f Bf
  nu : ∀ x ∈ L, ∀ k, x.u.ownBlock = some k → ¬ f k
  bl : Below w.heap.size w wr
  bp : wr.heap[Bp]? = some (.cells #[v] 30 (0, 0))
  bf : wr.heap[Bf]? = some (.cells #[.func (.func 70) #[] #[], .func (.func 71) #[] #[], .func (.func 72) #[] #[], .func (.func m) #[] #[]] 59 (0, 0))
  hW : B ≤ Wb
  hF : B ≤ Fb
  hg : B ≤ g

section
variable {v : Value} {m : Nat} {w : World} {B Bp Bf Fb Wb : Nat} {J J' : List Vis → (Nat → Prop) → World → Prop} {pre pre' : List Vis} {f f' : Nat → Prop} {g cap g' cap' : Nat} {L L' : List Vis} {fs : List Int} {wr wr' : World}

theorem VS.rowB (h : VS v m w B Bp Bf Fb Wb J pre f g cap L fs wr) : ∃ cur, wr.heap[g]? = some (.cells cur 67 (0, 0)) := own_blk h.hp.row rfl

/-- New blocks. -/
theorem VS.grow (hJ : FootAbidesA B J) (h : VS v m w B Bp Bf Fb Wb J pre f g cap L fs wr) (hb : Below wr.heap.size wr wr') : VS v m w B Bp Bf Fb Wb J pre f g cap L fs wr' :=
  { h with hp := h.hp.below hb, fd := (hb.block _ (Array.getElem?_eq_some_iff.1 h.fd).1).trans h.fd, j := hJ _ _ _ _ (fun _ => False) h.j ⟨hb.os, hb.tape, hb.output, hb.size, fun r hr _ => hb.block r hr⟩ (fun r hr => hr.elim),
           flt := fun r hr => Nat.lt_of_lt_of_le (h.flt r hr) hb.size, bl := h.bl.trans (hb.mono h.bl.size), bp := (hb.block _ (Array.getElem?_eq_some_iff.1 h.bp).1).trans h.bp, bf := (hb.block _ (Array.getElem?_eq_some_iff.1 h.bf).1).trans h.bf }

/-- The heap has turned. -/
theorem VS.heap (hJ : FootAbidesA B J) (hBw : w.heap.size ≤ B) (h : VS v m w B Bp Bf Fb Wb J pre f g cap L fs wr) (hp : Hp wr' w.heap.size Wb g' cap' L') (ht : Turn2 wr Wb g wr') (hg' : g' = g ∨ wr.heap.size ≤ g') (hu : ∀ x ∈ L', ∀ k, x.u.ownBlock = some k → ¬ f k) : VS v m w B Bp Bf Fb Wb J pre f g' cap' L' fs wr' := by
  obtain ⟨cur, hrow⟩ := h.rowB
  have nFW : Fb ≠ Wb := blk_ne h.fd h.hp.box (by decide)
  have nFg : Fb ≠ g := blk_ne h.fd hrow (by decide)
  have nPW : Bp ≠ Wb := blk_ne h.bp h.hp.box (by decide)
  have nPg : Bp ≠ g := blk_ne h.bp hrow (by decide)
  have nBW : Bf ≠ Wb := blk_ne h.bf h.hp.box (by decide)
  have nBg : Bf ≠ g := blk_ne h.bf hrow (by decide)
  have hga : GrownA wr (fun r => r = Wb ∨ r = g) wr' := ⟨ht.os, ht.tape, ht.output, ht.size, fun r hr hn => ht.block r hr (fun e => hn (.inl e)) (fun e => hn (.inr e))⟩
  exact { h with
    hp := hp
    fd := (ht.block _ (Array.getElem?_eq_some_iff.1 h.fd).1 nFW nFg).trans h.fd
    j := hJ _ _ _ _ _ h.j hga (fun r hr => by
      rcases hr with rfl | rfl
      · exact ⟨h.hW, h.nW⟩
      · exact ⟨h.hg, h.ng⟩)
    flt := fun r hr => Nat.lt_of_lt_of_le (h.flt r hr) ht.size
    ng := by
      rcases hg' with rfl | e
      · exact h.ng
      · exact fun hf => by have := h.flt _ hf; omega
    nu := hu
    bl := Below.grownA h.bl hga h.bl.size (fun r hr => by
      rcases hr with rfl | rfl
      · exact Nat.le_trans hBw h.hW
      · exact Nat.le_trans hBw h.hg)
    bp := (ht.block _ (Array.getElem?_eq_some_iff.1 h.bp).1 nPW nPg).trans h.bp
    bf := (ht.block _ (Array.getElem?_eq_some_iff.1 h.bf).1 nBW nBg).trans h.bf
    hg := by
      rcases hg' with rfl | e
      · exact h.hg
      · have := h.hg; have := h.hp.ltg; omega }

/-- Something has been found. -/
theorem VS.found (hJ : FootAbidesA B J) (hBw : w.heap.size ≤ B) (h : VS v m w B Bp Bf Fb Wb J pre f g cap L fs wr) (i : Nat) (x : Int) : VS v m w B Bp Bf Fb Wb J pre f g cap L (fs.set i x) (wr.setCell ⟨Fb, i, none⟩ (.int .i64 x)) := by
  obtain ⟨cur, hrow⟩ := h.rowB
  have nFW : Wb ≠ Fb := blk_ne h.hp.box h.fd (by decide)
  have nFg : g ≠ Fb := blk_ne hrow h.fd (by decide)
  have nPF : Bp ≠ Fb := blk_ne h.bp h.fd (by decide)
  have nBF : Bf ≠ Fb := blk_ne h.bf h.fd (by decide)
  have gs := grown_setCell1H wr Fb i (.int .i64 x)
  refine { h with hp := ⟨(gs.block _ h.hp.lt (fun e => nFW (by simpa using e))).trans h.hp.box, own_grown h.hp.row gs (fun k hk e => by simp [Value.ownBlock] at hk; simp at e; omega), fun y hy => own_grown (h.hp.ways y hy) gs (fun k hk e => ?_), h.hp.short⟩, fd := ?_, j := ?_, flt := fun r hr => Nat.lt_of_lt_of_le (h.flt r hr) gs.size, bl := h.bl.setCell (Nat.le_trans hBw h.hF) _, bp := (gs.block _ (Array.getElem?_eq_some_iff.1 h.bp).1 (fun e => nPF (by simpa using e))).trans h.bp, bf := (gs.block _ (Array.getElem?_eq_some_iff.1 h.bf).1 (fun e => nBF (by simpa using e))).trans h.bf }
  · obtain ⟨c2, h2⟩ := own_blk (h.hp.ways y hy) hk
    simp at e
    subst e
    exact blk_ne h2 h.fd (by decide) rfl
  · have := heap_setCell_same wr Fb i _ 78 (.int .i64 x) h.fd
    rw [this]
    simp [ints, List.map_set]
  · exact hJ _ _ _ _ _ h.j (GrownA.of gs) (fun r e => by cases e; exact ⟨h.hF, h.nF⟩)

/-- A round has been made. -/
theorem VS.round (h : VS v m w B Bp Bf Fb Wb J pre f g cap L fs wr) (hO : Outside f wr f' wr') (hj : J' pre' f' wr') : VS v m w B Bp Bf Fb Wb J' pre' f' g cap L fs wr' where
  hp := ⟨(hO.block _ h.hp.lt h.nW).trans h.hp.box, own_same h.hp.row (fun k hk => by simp [Value.ownBlock] at hk; subst hk; exact hO.block _ h.hp.ltg h.ng), fun x hx => own_same (h.hp.ways x hx) (fun k hk => hO.block k ((h.hp.ways x hx).lt k hk).2 (h.nu x hx k hk)), h.hp.short⟩
  fd := (hO.block _ (Array.getElem?_eq_some_iff.1 h.fd).1 h.nF).trans h.fd
  j := hj
  flt := hO.lt
  low := fun r hr hf => h.low r hr (hO.less r (Nat.lt_of_lt_of_le hr h.bl.size) hf)
  nW := fun hf => h.nW (hO.less _ h.hp.lt hf)
  nF := fun hf => h.nF (hO.less _ (Array.getElem?_eq_some_iff.1 h.fd).1 hf)
  ng := fun hf => h.ng (hO.less _ h.hp.ltg hf)
  nP := fun hf => h.nP (hO.less _ (Array.getElem?_eq_some_iff.1 h.bp).1 hf)
  nB := fun hf => h.nB (hO.less _ (Array.getElem?_eq_some_iff.1 h.bf).1 hf)
  nu := fun x hx k hk hf => h.nu x hx k hk (hO.less k ((h.hp.ways x hx).lt k hk).2 hf)
  bl := ⟨hO.os.trans h.bl.os, hO.tape.trans h.bl.tape, hO.output.trans h.bl.output, Nat.le_trans h.bl.size hO.size, fun k hk => (hO.block k (Nat.lt_of_lt_of_le hk h.bl.size) (h.low k hk)).trans (h.bl.block k hk)⟩
  bp := (hO.block _ (Array.getElem?_eq_some_iff.1 h.bp).1 h.nP).trans h.bp
  bf := (hO.block _ (Array.getElem?_eq_some_iff.1 h.bf).1 h.nB).trans h.bf
  hW := h.hW
  hF := h.hF
  hg := h.hg

end

theorem found_cell {w : World} {B : Nat} {t : TypeId} {ds : List Int} (h : w.heap[B]? = some (.cells (ints ds).toArray t (0, 0))) (j : Nat) (hj : j < ds.length) : w.cell? ⟨B, j, none⟩ = some (.int .i64 (ds.getD j 0)) ∧ w.frozen? ⟨B, j, none⟩ = false := by
  refine ⟨?_, frozen_of_row w B j _ t h⟩
  rw [cell_of_row w B j _ t (0, 0) h]
  simp [ints, hj, List.getD]

/-- What the body may know of what it is handed. -/
def VG (c : Int) (ss : List Stm) (s : Int) (base : Nat) (x : Vis) (f : Nat → Prop) (W : World) : Prop :=
  W.ownsRow base 2 1 x.u x.way.length (ints x.way) ∧ (∀ k, x.u.ownBlock = some k → ¬ f k) ∧ x.way.length ≤ 100000 ∧ RW ss x.way ∧ x.set = st c ss s x.way

/-- While the longer ways come in. -/
structure VPush (v : Value) (m : Nat) (w : World) (B Bp Bf Fb Wb : Nat) (J : List Vis → (Nat → Prop) → World → Prop) (pre : List Vis) (f : Nat → Prop) (fs : List Int) (x : Vis) (xv : Value) (Vb : Nat) (un : Value) (ns : List Int) (L1 : List Vis) (b : Int) (k g cap : Nat) (L : List Vis) (wr : World) : Prop where
  vs : VS v m w B Bp Bf Fb Wb J pre f g cap L fs wr
  vb : wr.heap[Vb]? = some (.cells #[xv, .int .i64 x.set] 67 (0, 0))
  nvg : Vb ≠ g
  xo : wr.ownsRow w.heap.size 2 1 xv x.way.length (ints x.way)
  no : wr.ownsRow w.heap.size 2 1 un ns.length (ints ns)
  ih : IsH L L.length
  len : L.length = L1.length + k
  frm : ∀ y ∈ L, y ∈ L1 ∨ ∃ n ∈ ns.take k, y.way = x.way ++ [n] ∧ y.set = b
  old : ∀ y ∈ L1, y ∈ L
  new : ∀ n ∈ ns.take k, ∃ y ∈ L, y.way = x.way ++ [n]

theorem VPush.step {v : Value} {m : Nat} {w : World} {B Bp Bf Fb Wb : Nat} {J : List Vis → (Nat → Prop) → World → Prop} {pre : List Vis} {f : Nat → Prop} {fs : List Int} {x : Vis} {xv : Value} {Vb : Nat} {un : Value} {ns : List Int} {L1 : List Vis} {b : Int} {k g cap : Nat} {L : List Vis} {wr : World}
    (hJ : FootAbidesA B J) (hBw : w.heap.size ≤ B) (h : VPush v m w B Bp Bf Fb Wb J pre f fs x xv Vb un ns L1 b k g cap L wr) (hk : k < ns.length) {w1 w2 : World} (hb : Below wr.heap.size wr w1) {u : Value} (hu : ∀ q, u.ownBlock = some q → wr.heap.size ≤ q) {g' cap' : Nat} {L' : List Vis}
    (hp : Hp w2 w.heap.size Wb g' cap' L') (ht : Turn2 w1 Wb g w2) (hg' : g' = g ∨ w1.heap.size ≤ g') (hl : L'.length = L.length + 1) (hm : ∀ y, y ∈ L' ↔ y = ⟨u, x.way ++ [ns[k]], b⟩ ∨ y ∈ L) (hi : IsH L' L'.length) :
    VPush v m w B Bp Bf Fb Wb J pre f fs x xv Vb un ns L1 b (k + 1) g' cap' L' w2 := by
  have v1 := h.vs.grow hJ hb
  have tk : ns.take (k + 1) = ns.take k ++ [ns[k]] := List.take_succ_eq_append_getElem hk
  have hxo1 := own_kept h.xo hb
  have hno1 := own_kept h.no hb
  have hvb1 := (hb.block Vb (Array.getElem?_eq_some_iff.1 h.vb).1).trans h.vb
  have ltV := (Array.getElem?_eq_some_iff.1 hvb1).1
  obtain ⟨cur, hrow⟩ := v1.rowB
  have nVW : Vb ≠ Wb := blk_ne hvb1 v1.hp.box (by decide)
  have keep : ∀ {u2 : Value} {l : Nat} {xs : List Value}, w1.ownsRow w.heap.size 2 1 u2 l xs → w2.ownsRow w.heap.size 2 1 u2 l xs := fun {u2 l xs} ho => own_same ho (fun q hq => by
    obtain ⟨c2, h2⟩ := own_blk ho hq
    exact ht.block q (ho.lt q hq).2 (blk_ne h2 v1.hp.box (by decide)) (blk_ne h2 hrow (by decide)))
  refine ⟨v1.heap hJ hBw hp ht hg' (fun y hy q hq hf => ?_), (ht.block Vb ltV nVW h.nvg).trans hvb1, ?_, keep hxo1, keep hno1, hi, by rw [hl, h.len]; omega, fun y hy => ?_, fun y hy => (hm y).2 (.inr (h.old y hy)), fun n hn => ?_⟩
  · rcases (hm y).1 hy with rfl | hy
    · have h1 := hu q hq
      have h2 := h.vs.flt q hf
      omega
    · exact h.vs.nu y hy q hq hf
  · rcases hg' with rfl | e
    · exact h.nvg
    · omega
  · rcases (hm y).1 hy with rfl | hy
    · exact .inr ⟨ns[k], by rw [tk]; exact List.mem_append.2 (.inr (List.mem_singleton.2 rfl)), rfl, rfl⟩
    · rcases h.frm y hy with hy | ⟨n, hn, h1, h2⟩
      · exact .inl hy
      · exact .inr ⟨n, by rw [tk]; exact List.mem_append.2 (.inl hn), h1, h2⟩
  · rw [tk] at hn
    rcases List.mem_append.1 hn with hn | hn
    · obtain ⟨y, hy, e⟩ := h.new n hn
      exact ⟨y, (hm y).2 (.inr hy), e⟩
    · simp at hn
      subst hn
      exact ⟨_, (hm _).2 (.inl rfl), rfl⟩

end Go.Proofs.Ytciccbbgamklbaa

/-
  spec.Solved.
-/
namespace Go.Proofs.Ytciccbbgamklbaa
open Go.RowKit
set_option linter.unusedVariables false
set_option maxHeartbeats 4000000
set_option maxRecDepth 20000

theorem intAt_made {w : World} {base g n : Nat} (h : w.ownsRow base 2 1 (.slice (some ⟨g, 0, none⟩) n n) n (madeCells #[.int .i64 0] (n * 1)).toList) : IntAt w g (List.replicate n 0) := by
  rcases h.2 with ⟨e, _⟩ | ⟨g', cap, cur, e, _, h2, _, _, h5, h6⟩
  · cases e
  · cases e
    show w.heap[g]? = _
    rw [h2]
    have : cur.toList = ints (List.replicate n 0) := by
      rw [toList_madeCells_one] at h6
      rw [← List.take_of_length_le (l := cur.toList) (i := n * 1) (by simp [h5]), h6]
      simp [ints]
    rw [← this]

def agN : Value → Nat
  | .bool true => 1
  | _ => 0

structure SWt (v : Value) (w : World) (G : Nat) (xs : List Int) (wr : World) : Prop where
  o : IntAt wr G xs
  bl : Below w.heap.size w wr
  bx : wr.heap[w.heap.size]? = some (.cells #[v] 30 (0, 0))

theorem SWt.below {v : Value} {w : World} {G : Nat} {xs : List Int} {wr wr' : World} (h : SWt v w G xs wr) (hb : Below wr.heap.size wr wr') : SWt v w G xs wr' :=
  ⟨(hb.block _ h.o.lt).trans h.o, h.bl.trans (hb.mono h.bl.size), (hb.block _ (Array.getElem?_eq_some_iff.1 h.bx).1).trans h.bx⟩

theorem SWt.set {v : Value} {w : World} {G : Nat} {xs : List Int} {wr : World} (h : SWt v w G xs wr) (hG : w.heap.size < G) (j : Nat) (x : Int) : SWt v w G (xs.set j x) (wr.setCell ⟨G, j, none⟩ (.int .i64 x)) :=
  ⟨h.o.set j x, h.bl.setCell (Nat.le_of_lt hG) _, ((grown_setCell1H wr G j (.int .i64 x)).block _ (Array.getElem?_eq_some_iff.1 h.bx).1 (fun e => by simp at e; omega)).trans h.bx⟩

theorem rem_lor {xs : List Int} {j : Nat} {z : Int} (hs : ∀ k, Small (xs.getD k 0)) (hz : Small z) (hj : j < xs.length) (h : hasA (xs.getD j 0) z = false) : rem (xs.set j (lor (xs.getD j 0) z)) + 1 ≤ rem xs :=
  rem_set xs j _ hj (lor_ge (hs j) hz h) (lor_small (hs j) hz).2

end Go.Proofs.Ytciccbbgamklbaa

/-
  Mathematics of spec.Proof: what is seen, item by item; how many items there can be.
-/
namespace Go.Proofs.Ytciccbbgamklbaa
set_option linter.unusedVariables false

/-- The items that can be: a statement of the procedure, a fact. -/
def OkI (n : Nat) (e : Itm) : Prop := ∃ i t : Nat, i < n ∧ t < 7 ∧ lastI e.1 = (i : Int) ∧ e.2 = (t : Int)

def see1 (seen : List Int) (e : Itm) : List Int := seen.set (lastI e.1).toNat (lor (seen.getD (lastI e.1).toNat 0) (2 ^ e.2.toNat))

/-- What is seen behind the items. -/
def seeN : List Int → List Itm → List Int
  | seen, [] => seen
  | seen, e :: N => seeN (see1 seen e) N

theorem seeN_snoc : ∀ (seen : List Int) (N : List Itm) (e : Itm), seeN seen (N ++ [e]) = see1 (seeN seen N) e
  | seen, [], e => rfl
  | seen, x :: N, e => seeN_snoc (see1 seen x) N e

theorem pow_small {t : Nat} (ht : t < 7) : Small (2 ^ t) := by
  have hc : t = 0 ∨ t = 1 ∨ t = 2 ∨ t = 3 ∨ t = 4 ∨ t = 5 ∨ t = 6 := by omega
  rcases hc with rfl | rfl | rfl | rfl | rfl | rfl | rfl <;> exact ⟨by decide, by decide⟩

theorem see1_len (seen : List Int) (e : Itm) : (see1 seen e).length = seen.length := by simp [see1]

theorem see1_get {seen : List Int} {e : Itm} {i t : Nat} (hi : i < seen.length) (h1 : lastI e.1 = (i : Int)) (h2 : e.2 = (t : Int)) (k : Nat) : (see1 seen e).getD k 0 = if k = i then lor (seen.getD i 0) (2 ^ t) else seen.getD k 0 := by
  have e1 : (lastI e.1).toNat = i := by omega
  have e2 : e.2.toNat = t := by omega
  unfold see1
  rw [e1, e2]
  by_cases hk : i = k
  · subst hk
    simp [List.getD, hi]
  · rw [if_neg (fun h => hk h.symm)]
    simp [List.getD, List.getElem?_set_ne hk]

theorem see1_small {seen : List Int} (hs : ∀ k, Small (seen.getD k 0)) {e : Itm} (he : OkI seen.length e) (k : Nat) : Small ((see1 seen e).getD k 0) := by
  obtain ⟨i, t, hi, ht, h1, h2⟩ := he
  rw [see1_get hi h1 h2]
  split
  · exact lor_small (hs i) (pow_small ht)
  · exact hs k

theorem see1_bit {seen : List Int} (hs : ∀ k, Small (seen.getD k 0)) {e : Itm} (he : OkI seen.length e) (k u : Nat) (hu : u < 7) : bit ((see1 seen e).getD k 0) u = true ↔ bit (seen.getD k 0) u = true ∨ (lastI e.1 = (k : Int) ∧ e.2 = (u : Int)) := by
  obtain ⟨i, t, hi, ht, h1, h2⟩ := he
  rw [see1_get hi h1 h2, h1, h2]
  split
  · rename_i hk
    subst hk
    rw [bit_lor (hs k) (pow_small ht), Bool.or_eq_true, bit_pow t ht u hu, decide_eq_true_eq]
    constructor
    · rintro (h | h)
      · exact .inl h
      · exact .inr ⟨rfl, by omega⟩
    · rintro (h | ⟨_, h⟩)
      · exact .inl h
      · exact .inr (by omega)
  · rename_i hk
    constructor
    · exact .inl
    · rintro (h | ⟨h, _⟩)
      · exact h
      · omega

theorem seeN_all : ∀ (N : List Itm) (seen : List Int), (∀ k, Small (seen.getD k 0)) → (∀ e ∈ N, OkI seen.length e) →
    (seeN seen N).length = seen.length ∧ (∀ k, Small ((seeN seen N).getD k 0)) ∧ (∀ k u : Nat, u < 7 → (bit ((seeN seen N).getD k 0) u = true ↔ bit (seen.getD k 0) u = true ∨ ∃ e ∈ N, lastI e.1 = (k : Int) ∧ e.2 = (u : Int))) ∧ rem (seeN seen N) ≤ rem seen
  | [], seen, hs, _ => ⟨rfl, hs, by simp [seeN], Nat.le_refl _⟩
  | e :: N, seen, hs, h => by
    have he := h e (by simp)
    obtain ⟨h1, h2, h3, h4⟩ := seeN_all N (see1 seen e) (fun k => see1_small hs he k) (fun x hx => by rw [see1_len]; exact h x (by simp [hx]))
    refine ⟨h1.trans (see1_len _ _), h2, fun k u hu => ?_, ?_⟩
    · show bit ((seeN (see1 seen e) N).getD k 0) u = true ↔ _
      rw [h3 k u hu, see1_bit hs he k u hu]
      constructor
      · rintro ((g | g) | ⟨x, hx, g⟩)
        · exact .inl g
        · exact .inr ⟨e, by simp, g⟩
        · exact .inr ⟨x, by simp [hx], g⟩
      · rintro (g | ⟨x, hx, g⟩)
        · exact .inl (.inl g)
        · rcases List.mem_cons.1 hx with rfl | hx
          · exact .inl (.inr g)
          · exact .inr ⟨x, hx, g⟩
    · refine Nat.le_trans h4 ?_
      obtain ⟨i, t, hi, ht, e1, e2⟩ := he
      have q1 : (lastI e.1).toNat = i := by omega
      have q2 : e.2.toNat = t := by omega
      unfold see1
      rw [q1, q2]
      cases hh : hasA (seen.getD i 0) (2 ^ t) with
      | false =>
        have := rem_lor hs (pow_small ht) hi hh
        omega
      | true =>
        have e0 : lor (seen.getD i 0) (2 ^ t) = seen.getD i 0 := by simpa [hasA] using hh
        rw [e0]
        have : seen.set i (seen.getD i 0) = seen := by
          apply List.ext_getElem?
          intro k
          by_cases hk : i = k
          · subst hk
            rw [List.getElem?_set_self hi]; simp [List.getD, hi]
          · rw [List.getElem?_set_ne hk]
        rw [this]
        exact Nat.le_refl _

theorem seeN_rem {N : List Itm} {seen : List Int} (hs : ∀ k, Small (seen.getD k 0)) (h : ∀ e ∈ N, OkI seen.length e) (hn : ∀ e ∈ N, ∀ i t : Nat, lastI e.1 = (i : Int) → e.2 = (t : Int) → bit (seen.getD i 0) t = false) (hne : N ≠ []) : rem (seeN seen N) + 1 ≤ rem seen := by
  match N, hne with
  | e :: N, _ =>
    have he := h e (by simp)
    obtain ⟨_, _, _, h4⟩ := seeN_all N (see1 seen e) (fun k => see1_small hs he k) (fun x hx => by rw [see1_len]; exact h x (by simp [hx]))
    obtain ⟨i, t, hi, ht, e1, e2⟩ := he
    have q1 : (lastI e.1).toNat = i := by omega
    have q2 : e.2.toNat = t := by omega
    have hb := hn e (by simp) i t e1 e2
    have := rem_lor hs (pow_small ht) hi (by rw [hasA_pow (hs i) ht]; exact hb)
    have h5 : rem (see1 seen e) + 1 ≤ rem seen := by unfold see1; rw [q1, q2]; exact this
    show rem (seeN (see1 seen e) N) + 1 ≤ rem seen
    omega

theorem pigeonL : ∀ (m : Nat) (l : List Nat), l.Nodup → (∀ x ∈ l, x < m) → l.length ≤ m
  | 0, l, _, h => by
    match l, h with
    | [], _ => exact Nat.le_refl _
    | x :: l, h => have := h x (by simp); omega
  | m + 1, l, hn, h => by
    have ih := pigeonL m (l.erase m) (hn.erase m) (fun x hx => by
      have h1 := (hn.mem_erase_iff).1 hx
      have := h x h1.2
      have := h1.1
      omega)
    by_cases hm : m ∈ l
    · rw [List.length_erase_of_mem hm] at ih
      omega
    · rw [List.erase_of_not_mem hm] at ih
      omega

/-- There are no more items than statements and facts. -/
theorem items_len {n : Nat} {N : List Itm} (hok : ∀ e ∈ N, OkI n e) (huniq : ∀ (a b : Nat) (e f : Itm), N[a]? = some e → N[b]? = some f → lastI e.1 = lastI f.1 → e.2 = f.2 → a = b) : N.length ≤ 7 * n := by
  have hnd : (N.map (fun e => (lastI e.1).toNat * 7 + e.2.toNat)).Nodup := by
    unfold List.Nodup
    rw [List.pairwise_iff_getElem]
    intro a b ha hb hab hne
    simp only [List.length_map] at ha hb
    simp only [List.getElem_map] at hne
    obtain ⟨i, t, hi, ht, e1, e2⟩ := hok _ (List.getElem_mem (by omega : a < N.length))
    obtain ⟨j, u, hj, hu, f1, f2⟩ := hok _ (List.getElem_mem hb)
    rw [e1, e2, f1, f2] at hne
    simp only [Int.toNat_natCast] at hne
    have := huniq a b _ _ (List.getElem?_eq_getElem (by omega : a < N.length)) (List.getElem?_eq_getElem hb) (by rw [e1, f1]; omega) (by rw [e2, f2]; omega)
    omega
  have hsub : ∀ x ∈ N.map (fun e => (lastI e.1).toNat * 7 + e.2.toNat), x < 7 * n := by
    intro x hx
    obtain ⟨e, he, rfl⟩ := List.mem_map.1 hx
    obtain ⟨i, t, hi, ht, e1, e2⟩ := hok e he
    rw [e1, e2]
    simp only [Int.toNat_natCast]
    omega
  have := pigeonL _ _ hnd hsub
  simpa using this

end Go.Proofs.Ytciccbbgamklbaa

/-
  spec.l8Less, spec.l8Facts.
-/
namespace Go.Proofs.Ytciccbbgamklbaa
open Go.RowKit
set_option linter.unusedVariables false
set_option maxHeartbeats 4000000
set_option maxRecDepth 4000

theorem lexB_at {xs ys : List Int} {k : Nat} (hx : k < xs.length) (hy : k < ys.length) : lexB (xs.drop k) (ys.drop k) = (decide (xs.getD k 0 < ys.getD k 0) || (decide (xs.getD k 0 = ys.getD k 0) && lexB (xs.drop (k + 1)) (ys.drop (k + 1)))) := by
  rw [List.drop_eq_getElem_cons hx, List.drop_eq_getElem_cons hy]
  simp only [lexB, List.getD, List.getElem?_eq_getElem hx, List.getElem?_eq_getElem hy, Option.getD_some]

theorem l8Less (xs ys : List Int) (hn : xs.length = ys.length) (v u : Value) (w : World) (hx : xs.length ≤ maxLen) (hv : Reads w v (ints xs)) (hu : Reads w u (ints ys)) :
    Calls Try.prog 26 #[v, u] w fun e w' => e = .returned (.bool (lexB xs ys)) ∧ Below w.heap.size w w' := by
  have hy : ys.length ≤ maxLen := by omega
  unfold maxLen at hx hy
  obtain ⟨ao, cap, rfl, hc⟩ := hv
  obtain ⟨bo, bcap, rfl, hd⟩ := hu
  rw [ints_length, ints_length]
  obtain ⟨R, hR⟩ : ∃ R, lexB xs ys = R := ⟨_, rfl⟩
  rw [hR]
  have HR : Hid _ := hR
  have HN0 : Hid (xs.length = ys.length) := hn
  clear hR hn
  go_enter Try.func26, Try.ntmps26
  go_wp2
  go_loopw [5] (fun i wr => ∃ k : Nat, k ≤ xs.length ∧ i = .int .i64 k ∧ lexB (xs.drop k) (ys.drop k) = R ∧ Below w.heap.size w wr) (fun i _ => xs.length - (intOf i).toNat)
  case atStart => exact ⟨0, Nat.zero_le _, rfl, HR.out, Below.refl _ _⟩
  case round =>
    obtain ⟨k, hk, rfl, hrr, hb⟩ := hrel
    have HQ : Hid _ := hrr
    clear hrr
    by_cases hlt : k < xs.length
    · have hlt' : (k : Int) < (xs.length : Int) := by omega
      have hlu : k < ys.length := by rw [← HN0.out]; exact hlt
      have hlu' : (k : Int) < (ys.length : Int) := by omega
      obtain ⟨g, off, rfl, hg⟩ := hc k (.int .i64 (xs.getD k 0)) (by simp [ints, List.getD, hlt])
      obtain ⟨g2, off2, rfl, hg2⟩ := hd k (.int .i64 (ys.getD k 0)) (by simp [ints, List.getD, hlu])
      have hg := (hb.cell (World.block_lt_of_cell? w _ hg)).trans hg
      have hg2 := (hb.cell (World.block_lt_of_cell? w _ hg2)).trans hg2
      have HL : Hid _ := lexB_at hlt hlu
      generalize xs.getD k 0 = x at *
      generalize ys.getD k 0 = y at *
      clear hc hd
      by_cases hz : x = y
      · have hz' : (x != y) = false := by simpa using hz
        have HN : Hid (lexB (xs.drop (k + 1)) (ys.drop (k + 1)) = R) := by
          show _ = R
          rw [← HQ.out, HL.out]; simp [hz]
        clear HL HQ
        subst hz
        go_wp2_with fail
        go_region
        go_wp2
        go_roundw
        case rel => exact ⟨k + 1, by omega, by go_num, HN.out, by go_grown⟩
        case measure => simp [intOf]; omega
      · have hz' : (x != y) = true := by simpa using hz
        have HN : Hid (decide (x < y) = R) := by
          show _ = R
          rw [← HQ.out, HL.out]; simp [hz]
        clear HL HQ
        go_wp2_with fail
        go_region
        go_wp2_with fail
        go_region
        go_wp2
        go_ret
        exact ⟨by rw [← HN.out]; rfl, by go_grown⟩
    · obtain rfl : k = xs.length := by omega
      have HN : Hid (R = false) := by
        show R = false
        rw [← HQ.out, List.drop_length, HN0.out, List.drop_length]; rfl
      clear HQ hc hd
      go_wp2
      go_ret
      exact ⟨by rw [HN.out]; rfl, hb⟩

/-- The facts of a set below k, rising. -/
def factsL (s : Int) : Nat → List Int
  | 0 => []
  | k + 1 => if bit s k = true then factsL s k ++ [(k : Int)] else factsL s k

theorem factsL_len (s : Int) : ∀ k, (factsL s k).length ≤ k
  | 0 => by simp [factsL]
  | k + 1 => by
    have := factsL_len s k
    unfold factsL
    split
    · simp; omega
    · omega

theorem mem_factsL {s x : Int} : ∀ {k}, x ∈ factsL s k ↔ ∃ t : Nat, t < k ∧ x = (t : Int) ∧ bit s t = true
  | 0 => by simp [factsL]
  | k + 1 => by
    have ih := mem_factsL (s := s) (x := x) (k := k)
    unfold factsL
    split
    · rename_i h
      rw [List.mem_append, ih]
      constructor
      · rintro (⟨t, h1, h2, h3⟩ | h1)
        · exact ⟨t, by omega, h2, h3⟩
        · exact ⟨k, by omega, by simpa using h1, h⟩
      · rintro ⟨t, h1, h2, h3⟩
        rcases Nat.lt_or_ge t k with h4 | h4
        · exact .inl ⟨t, h4, h2, h3⟩
        · obtain rfl : t = k := by omega
          exact .inr (by simp [h2])
    · rename_i h
      rw [ih]
      constructor
      · rintro ⟨t, h1, h2, h3⟩; exact ⟨t, by omega, h2, h3⟩
      · rintro ⟨t, h1, h2, h3⟩
        rcases Nat.lt_or_ge t k with h4 | h4
        · exact ⟨t, h4, h2, h3⟩
        · obtain rfl : t = k := by omega
          exact absurd h3 h

theorem l8Facts (s : Int) (hs : Small s) (w : World) :
    Calls Try.prog 25 #[.int .i64 s] w fun e w' => ∃ u, e = .returned u ∧ w'.ownsRow w.heap.size 2 1 u (factsL s 7).length (ints (factsL s 7)) ∧ Below w.heap.size w w' := by
  obtain ⟨i0, hi, hz0, hz1, hz2⟩ := info_parts infoInt
  go_enter Try.func25, Try.ntmps25
  go_wp2
  have B0 : Below w.heap.size w (w.alloc (.cells #[] 2)) := by go_grown
  go_loopw [3, 4] (fun o i wr => ∃ k : Nat, k ≤ 7 ∧ i = .int .i64 k ∧ wr.ownsRow w.heap.size 2 1 o (factsL s k).length (ints (factsL s k)) ∧ Below w.heap.size w wr) (fun _ i _ => 7 - (intOf i).toNat)
  case atStart => exact ⟨0, by omega, rfl, by simpa [ints, factsL] using made0 w, B0⟩
  case round =>
    obtain ⟨k, hk, rfl, hown, hb⟩ := hrel
    by_cases hlt : k < 7
    · have hlt' : (k : Int) < 7 := by omega
      have hll := factsL_len s k
      have hbt := bit_tmod k hs
      have hnn := hs.1
      have hu64 : IntKind.u64.wrap (k : Int) = (k : Int) := by
        have hc : k = 0 ∨ k = 1 ∨ k = 2 ∨ k = 3 ∨ k = 4 ∨ k = 5 ∨ k = 6 := by omega
        rcases hc with rfl | rfl | rfl | rfl | rfl | rfl | rfl <;> rfl
      cases hbit : bit s k
      · rw [hbit] at hbt
        simp only [Bool.false_eq_true, if_false] at hbt
        have HN : Hid (factsL s (k + 1) = factsL s k) := by show factsL s (k + 1) = _; rw [factsL, hbit]; simp
        go_wp2
        go_roundw
        case rel => exact ⟨k + 1, by omega, by go_num, by rw [HN.out]; exact hown, hb⟩
        case measure => simp [intOf]; omega
      · rw [hbit] at hbt
        simp only [if_true] at hbt
        have HN : Hid (factsL s (k + 1) = factsL s k ++ [(k : Int)]) := by show factsL s (k + 1) = _; rw [factsL, hbit]; simp
        have hb0 := hb.size
        have B1 : Hid (Below w.heap.size w (wr.alloc (.cells #[.int .i64 (k : Int)] 2))) := hb.alloc hb0 _
        have HSZ : Hid (w.heap.size ≤ (wr.alloc (.cells #[.int .i64 (k : Int)] 2)).heap.size) := by exact B1.out.size
        go_wp2_with (first
          | (at_builtin; refine wpList_append_own _ rfl (.tmp 16) (.tmp 18) 26 rfl w.heap.size 2 i0 (.int .i64 0) 1 8 Try.underlying26 hi hz0 hz1 hz2 rfl (by decide) _ _ _ rfl (hown.alloc _) ⟨wr.heap.size, 0, none⟩ 1 _ [.int .i64 (k : Int)] rfl rfl (cell_one wr _) (ints_oneCell [(k : Int)]) (by unfold maxLen; omega) (by omega) HSZ.out ?_; intro v2 w2 own2 grow2 _; have L2 := below_app B1.out grow2 (fun q hq => (hown.lt q hq).1))
          | go_in)
        go_roundw
        case rel =>
          refine ⟨k + 1, by omega, by go_num, ?_, L2⟩
          rw [HN.out, ints_append, List.length_append]
          exact own2
        case measure => simp [intOf]; omega
    · have hkk : k = 7 := by omega
      subst hkk
      go_wp2
      go_ret
      exact ⟨_, rfl, hown, hb⟩

end Go.Proofs.Ytciccbbgamklbaa
