/-
  impl.Reach: a closure that calls itself.
-/
import Derived.Test.YtmloeldgeegddaaReach9M
import Derived.Laws.EntriesVeiled
namespace Go.Proofs.Ytmloeldgeegddaa
open Go.RowKit
set_option linter.unusedVariables false
set_option maxHeartbeats 4000000
set_option maxRecDepth 20000

/-- The set f lies in block R. -/
def BAt (W : World) (R : Nat) (f : Nat → Bool) : Prop := W.heap[R]? = some (.cells #[.bool (f 0), .bool (f 1), .bool (f 2), .bool (f 3)] 62 (0, 0))

theorem BAt.cell {W : World} {R : Nat} {f : Nat → Bool} (h : BAt W R f) {i : Nat} (hi : i < 4) : W.cell? ⟨R, i, none⟩ = some (.bool (f i)) ∧ W.frozen? ⟨R, i, none⟩ = false := by
  obtain ⟨c0, c1, c2, c3, f0, f1, f2, f3⟩ := four_cellsC h
  have : i = 0 ∨ i = 1 ∨ i = 2 ∨ i = 3 := by omega
  rcases this with rfl | rfl | rfl | rfl
  · exact ⟨c0, f0⟩
  · exact ⟨c1, f1⟩
  · exact ⟨c2, f2⟩
  · exact ⟨c3, f3⟩

theorem BAt.set {W : World} {R : Nat} {f : Nat → Bool} (h : BAt W R f) {i : Nat} (hi : i < 4) : BAt (W.setCell ⟨R, i, none⟩ (.bool true)) R (upd f i) := by
  have := heap_setCell_same W R i _ 62 (.bool true) h
  have hc : i = 0 ∨ i = 1 ∨ i = 2 ∨ i = 3 := by omega
  unfold BAt
  rcases hc with rfl | rfl | rfl | rfl <;> simpa [upd] using this

/-- The cells of the search. -/
structure RSt (ps : List (List Stm)) (v : Value) (w : World) (R P K : Nat) (f : Nat → Bool) (W : World) : Prop where
  set : BAt W R f
  box : W.heap[P]? = some (.cells #[v] 26 (0, 0))
  fn : W.heap[K]? = some (.cells #[.func (.func 88) #[] #[.pointer (some ⟨R, 0, none⟩), .pointer (some ⟨P, 0, none⟩), .pointer (some ⟨K, 0, none⟩)]] 106 (0, 0))
  below : Below w.heap.size w W
  r : w.heap.size ≤ R
  p : w.heap.size ≤ P
  k : w.heap.size ≤ K
  rp : R ≠ P
  rk : R ≠ K

theorem RSt.kept {ps : List (List Stm)} {v : Value} {w : World} {R P K : Nat} {f : Nat → Bool} {W W' : World} (h : RSt ps v w R P K f W) (hb : Below W.heap.size W W') : RSt ps v w R P K f W' :=
  ⟨(hb.block R (Array.getElem?_eq_some_iff.1 h.set).1).trans h.set, (hb.block P (Array.getElem?_eq_some_iff.1 h.box).1).trans h.box, (hb.block K (Array.getElem?_eq_some_iff.1 h.fn).1).trans h.fn,
    h.below.trans (hb.mono h.below.size), h.r, h.p, h.k, h.rp, h.rk⟩

theorem comeTo (ps : List (List Stm)) (v : Value) (w : World) (R P K : Nat) (hok : programOk ps = true) (hl : ps.length ≤ maxLen) (hp : ∀ p ∈ ps, p.length ≤ maxLen) (hv : ReadsP w v ps) :
    ∀ (m : Nat) (f : Nat → Bool) (i : Nat) (W : World), unr f ≤ m → i < ps.length → RSt ps v w R P K f W →
    Calls Try.prog 88 #[.int .i64 (i : Int), .pointer (some ⟨R, 0, none⟩), .pointer (some ⟨P, 0, none⟩), .pointer (some ⟨K, 0, none⟩)] W fun e W' =>
      (∃ u, e = .returned u) ∧ ∃ f', DR (callG ps) i f f' ∧ f' i = true ∧ RSt ps v w R P K f' W' ∧ W.grownBy W' (some R) := by
  intro m
  induction m with
  | zero =>
    intro f i W hm hil hS
    obtain ⟨h4, _, _⟩ := programOk_len hok
    have hfi : f i = true := by
      unfold unr at hm
      have : i = 0 ∨ i = 1 ∨ i = 2 ∨ i = 3 := by omega
      rcases this with rfl | rfl | rfl | rfl
      · cases h : f 0 <;> simp [h] at hm ⊢
      · cases h : f 1 <;> simp [h] at hm ⊢
      · cases h : f 2 <;> simp [h] at hm ⊢
      · cases h : f 3 <;> simp [h] at hm ⊢
    obtain ⟨c0, f0⟩ := hS.set.cell (i := i) (by omega)
    rw [hfi] at c0
    have hi4 : (i : Int) < 4 := by omega
    go_enter Try.func88, Try.ntmps88
    go_wp2
    go_returns
    exact ⟨⟨_, rfl⟩, f, DR.refl, hfi, hS, World.grownBy.refl _ _⟩
  | succ m ih =>
    intro f i W hm hil hS
    obtain ⟨h4, _, _⟩ := programOk_len hok
    have hi4 : (i : Int) < 4 := by omega
    obtain ⟨c0, f0⟩ := hS.set.cell (i := i) (by omega)
    cases hfi : f i
    case true =>
      rw [hfi] at c0
      go_enter Try.func88, Try.ntmps88
      go_wp2
      go_returns
      exact ⟨⟨_, rfl⟩, f, DR.refl, hfi, hS, World.grownBy.refl _ _⟩
    rw [hfi] at c0
    have hun := unr_upd (by omega : i < 4) hfi
    have hcl := hS.below.size
    obtain ⟨W1, hW1⟩ : ∃ W1, W.setCell ⟨R, i, none⟩ (.bool true) = W1 := ⟨_, rfl⟩
    have hgr : W.grownBy W1 (some R) := by rw [← hW1]; exact grown_setCell1 W R i _
    have hR1 : R < W.heap.size := (Array.getElem?_eq_some_iff.1 hS.set).1
    have hP1 : P < W.heap.size := (Array.getElem?_eq_some_iff.1 hS.box).1
    have hK1 : K < W.heap.size := (Array.getElem?_eq_some_iff.1 hS.fn).1
    have S1 : RSt ps v w R P K (upd f i) W1 := ⟨by rw [← hW1]; exact hS.set.set (by omega), (hgr.block P hP1 (fun e => hS.rp (by simpa using e.symm))).trans hS.box, (hgr.block K hK1 (fun e => hS.rk (by simpa using e.symm))).trans hS.fn,
      hS.below.grown hgr hS.below.size (fun k e => by cases e; exact hS.r), hS.r, hS.p, hS.k, hS.rp, hS.rk⟩
    have z1 : W.heap.size ≤ W1.heap.size := hgr.size
    obtain ⟨cP, _⟩ := one_cell S1.box
    rw [← hW1] at cP
    have hca := implCalls ps (i : Int) v W1 hl hp (readsP_below hv S1.below)
    rw [callsAns_callG hok hil] at hca
    have hgl := (graph_of hok).len i
    have hgi := (graph_of hok).inn i hil
    have HW : Hid _ := hW1
    have HS1 : Hid (RSt ps v w R P K (upd f i) W1) := S1
    have HGR : Hid (W.grownBy W1 (some R)) := hgr
    clear hW1 hS hgr S1
    go_enter Try.func88, Try.ntmps88
    go_wp2_with fail
    rw [HW.out]
    go_at_call 9
    refine hca.mono ?_
    rintro e w2 ⟨u, rfl, ou, b2⟩
    clear hca
    have S2 : RSt ps v w R P K (upd f i) w2 := HS1.out.kept b2
    have z2 := b2.size
    have G2 : Hid (W.grownBy w2 (some R)) := grown_trans HGR.out (grown_of_below b2 _)
    obtain ⟨uo, uc, hu⟩ : ∃ a cp, u = .slice a (callG ps i).length cp := by
      rcases ou.2 with ⟨e, e2⟩ | ⟨g, cap, cur, e, _⟩
      · exact ⟨none, 0, by rw [e, e2]⟩
      · exact ⟨_, _, e⟩
    have rd := reads_own ou
    have hul : ∀ k, u.ownBlock = some k → W1.heap.size ≤ k ∧ k < w2.heap.size := fun k hk => ou.lt k hk
    obtain ⟨C, hC⟩ : ∃ C, callG ps i = C := ⟨_, rfl⟩
    rw [hC] at hgl hgi rd ou hu
    have HC : Hid _ := hC
    subst hu
    have hRlt : R < W1.heap.size := by omega
    have DM0 : Hid (DM (callG ps) i 0 f (upd f i)) := DM.start
    have OU : Hid (w2.ownsRow W1.heap.size 2 1 (.slice uo C.length uc) C.length (ints C)) := ou
    clear cP c0 f0 hC HW HS1 ou rd
    go_wp2
    go_loopw [16] (fun q wr => ∃ (k : Nat) (g : Nat → Bool), k ≤ C.length ∧ q = .int .i64 k ∧ DM (callG ps) i k f g ∧ RSt ps v w R P K g wr ∧ W.grownBy wr (some R) ∧ wr.ownsRow W1.heap.size 2 1 (.slice uo C.length uc) C.length (ints C)) (fun q _ => C.length - (intOf q).toNat)
    case atStart => exact ⟨0, upd f i, Nat.zero_le _, rfl, DM0.out, S2, G2.out, OU.out⟩
    case round =>
      obtain ⟨k, g, hk, rfl, hD, hS, hsz, hown⟩ := hrel
      by_cases hlt : k < C.length
      · have hlt' : (k : Int) < (C.length : Int) := by omega
        obtain ⟨y, hy, hyl⟩ := hgi C[k] (List.getElem_mem hlt)
        obtain ⟨gu, hue⟩ : ∃ gu, uo = some ⟨gu, 0, none⟩ := by
          rcases own_shape hown with ⟨_, e, _⟩ | ⟨gu, cp, e, _⟩
          · omega
          · exact ⟨gu, by cases e; rfl⟩
        subst hue
        have cu : wr.cell? ⟨gu, k, none⟩ = some (.int .i64 (y : Int)) := by
          rw [hown.cellAt k (by omega)]
          simp [ints, hlt, hy]
        obtain ⟨cK, _⟩ := one_cell hS.fn
        have hgy : (callG ps i)[k]? = some (y : Int) := by rw [HC.out]; simp [hlt, hy]
        have hug : unr g ≤ m := by
          have := unr_mono (f := upd f i) (f' := g) (fun x hx => by
            by_cases e : x = i
            · rw [e]; exact hD.self
            · exact hD.mono x (by unfold upd at hx; rw [if_neg e] at hx; exact hx))
          omega
        have hcall := ih g y wr hug hyl hS
        have HD : Hid _ := hD
        have HGY : Hid _ := hgy
        have HO : Hid (wr.ownsRow W1.heap.size 2 1 (.slice (some ⟨gu, 0, none⟩) C.length uc) C.length (ints C)) := hown
        have hgu := hown.lt gu rfl
        clear hD hgy hown hS hgi ih
        go_wp2_with fail
        go_at_call 88
        refine hcall.mono ?_
        rintro e w3 ⟨⟨x, rfl⟩, h, hr, hself, hS3, g3⟩
        clear hcall
        have HD3 : Hid (DM (callG ps) i (k + 1) f h) := HD.out.next HGY.out hr hself
        have HO3 : Hid (w3.ownsRow W1.heap.size 2 1 (.slice (some ⟨gu, 0, none⟩) C.length uc) C.length (ints C)) := own_grown HO.out g3 (fun q hq e => by
          have e1 : gu = q := by simpa [Value.ownBlock] using hq
          have e2 : R = q := by simpa using e
          omega)
        have HG3 : Hid (W.grownBy w3 (some R)) := grown_trans hsz g3
        have HS3 : Hid (RSt ps v w R P K h w3) := hS3
        clear hr hself hS3 g3 HO HD HGY hsz
        go_wp2
        go_roundw
        case rel => exact ⟨k + 1, h, by omega, by go_num, HD3.out, HS3.out, HG3.out, HO3.out⟩
        case measure => simp [intOf]; omega
      · obtain rfl : k = C.length := by omega
        have hfin := hD.done (by rw [HC.out]; omega)
        have HF : Hid _ := hfin
        have HSX : Hid (RSt ps v w R P K g wr) := hS
        have hgs := hD.self
        clear hD hfin hS
        go_wp2
        go_returns
        exact ⟨⟨_, rfl⟩, g, HF.out, hgs, HSX.out, hsz⟩

theorem implReach (ps : List (List Stm)) (i : Int) (A : List Int) (hA : ReachA ps i A) (v : Value) (w : World) (hl : ps.length ≤ maxLen) (hp : ∀ p ∈ ps, p.length ≤ maxLen) (hv : ReadsP w v ps) :
    Calls Try.prog 37 #[.agg #[v], .int .i64 i] w fun e w' => ∃ u, e = .returned u ∧ w'.ownsRow w.heap.size 2 1 u A.length (ints A) ∧ Below w.heap.size w w' := by
  have hb0 : Below w.heap.size w (w.alloc (.cells #[v] 26)) := by go_grown
  have he := hasProc ps i v _ hl hp (readsP_below hv hb0)
  have H0 := heap_alloc_new w (.cells #[v] 26)
  have s0 : (w.alloc (.cells #[v] 26)).heap.size = w.heap.size + 1 := by simp
  cases hok : hasB ps i
  · rw [hok] at he
    obtain rfl := hA.2 hok
    go_enter Try.func37, Try.ntmps37
    go_wp2_with (go_at_call 47; refine he.mono ?_; rintro e w2 ⟨rfl, b2⟩)
    go_ret
    have L2 := hb0.trans (b2.mono hb0.size)
    exact ⟨_, rfl, nilOwn _ _, L2⟩
  · rw [hok] at he
    have hA1 := hA.1 hok
    obtain ⟨hpok, j, hj, rfl, _⟩ := hasB_true hok
    rw [Int.toNat_natCast] at hA1
    go_enter Try.func37, Try.ntmps37
    go_wp2_with fail
    go_at_call 47
    refine he.mono ?_
    rintro e w2 ⟨rfl, b2⟩
    have X2 := (b2.block w.heap.size (by omega)).trans H0
    have L2 := hb0.trans (b2.mono hb0.size)
    have s2 := b2.size
    clear he
    go_wp2_with fail
    have B3 : Below w2.heap.size w2 ((w2.alloc (.cells #[.bool false, .bool false, .bool false, .bool false] 62)).alloc (.cells #[.func (.func 88) #[] #[.pointer (some ⟨w2.heap.size, 0, none⟩), .pointer (some ⟨w.heap.size, 0, none⟩), .pointer (some ⟨w2.heap.size + 1, 0, none⟩)]] 106)) := by go_grown
    have SR : RSt ps v w w2.heap.size w.heap.size (w2.heap.size + 1) (fun _ => false) ((w2.alloc (.cells #[.bool false, .bool false, .bool false, .bool false] 62)).alloc (.cells #[.func (.func 88) #[] #[.pointer (some ⟨w2.heap.size, 0, none⟩), .pointer (some ⟨w.heap.size, 0, none⟩), .pointer (some ⟨w2.heap.size + 1, 0, none⟩)]] 106)) := by
      refine ⟨?_, (B3.block w.heap.size (by omega)).trans X2, ?_, L2.trans (B3.mono L2.size), by omega, by omega, by omega, by omega, by omega⟩
      · unfold BAt
        rw [old_block (by simp)]
        exact heap_alloc_new w2 _
      · have := heap_alloc_new (w2.alloc (.cells #[.bool false, .bool false, .bool false, .bool false] 62)) (.cells #[.func (.func 88) #[] #[.pointer (some ⟨w2.heap.size, 0, none⟩), .pointer (some ⟨w.heap.size, 0, none⟩), .pointer (some ⟨w2.heap.size + 1, 0, none⟩)]] 106)
        simpa using this
    refine (comeTo ps v w w2.heap.size w.heap.size (w2.heap.size + 1) hpok hl hp hv 4 (fun _ => false) j _ (by simp [unr]) hj SR).mono ?_
    rintro e w3 ⟨⟨x, rfl⟩, f, hr, hself, hS3, g3⟩
    have hAf := isReach_unique hA1 (hr.all (graph_of hpok) hj hself)
    have HAF : Hid _ := hAf
    have HS3 : Hid (RSt ps v w w2.heap.size w.heap.size (w2.heap.size + 1) f w3) := hS3
    have rd : Reads w3 (.slice (some ⟨w2.heap.size, 0, none⟩) 4 4) ([f 0, f 1, f 2, f 3].map .bool) := by
      refine ⟨some ⟨w2.heap.size, 0, none⟩, 4, rfl, fun k x hx => ⟨w2.heap.size, 0, rfl, ?_⟩⟩
      obtain ⟨d0, d1, d2, d3, _⟩ := four_cellsC hS3.set
      have hk : k < 4 := (List.getElem?_eq_some_iff.1 hx).1
      have : k = 0 ∨ k = 1 ∨ k = 2 ∨ k = 3 := by omega
      rcases this with rfl | rfl | rfl | rfl <;> simp at hx <;> subst hx <;> assumption
    have hn := numbersIn [f 0, f 1, f 2, f 3] _ w3 (by simp) rd
    rw [← hAf] at hn
    have z3 := hS3.below.size
    clear SR B3 hr hself hS3 hAf rd X2 L2 hA1
    go_wp2_with fail
    go_at_call 49
    refine hn.mono ?_
    rintro e w5 ⟨u5, rfl, own5, b5⟩
    go_wp2
    go_ret
    exact ⟨_, rfl, own_mono own5 z3, HS3.out.below.trans (b5.mono z3)⟩

end Go.Proofs.Ytmloeldgeegddaa
