/-
  impl.nearestFirst: the iterator's contract.
-/
import Derived.Test.YtjlfmjoallnojacRangeFoot
import Derived.Test.YtjlfmjoallnojacBfs2
import Derived.Test.YtjlfmjoallnojacQueueS
namespace Go.Proofs.Ytjlfmjoallnojac
open Go.RowKit Go.Shelf
set_option linter.unusedVariables false
set_option maxHeartbeats 2000000
attribute [local go_sem] Oper.semAt_some

abbrev DPs (ss : List Stm) : Type := { p : Int × Int // DP ss p }

def isZ : Value → Bool
  | .int _ n => n == 0
  | _ => false

/-- How many noughts block B holds. -/
def zw (w : World) (B : Nat) : Nat :=
  match w.heap[B]? with
  | some (.cells cur _ _) => cur.toList.countP isZ
  | _ => 0

def lenV : Value → Nat
  | .slice _ n _ => n
  | _ => 0

theorem zw_eq {w : World} {B : Nat} {t : TypeId} {fz : Nat × Nat} {ds : List Int} (h : w.heap[B]? = some (.cells (ints ds).toArray t fz)) : zw w B = zeros ds := by
  unfold zw
  rw [h]
  simp only [ints, zeros]
  rw [List.countP_map]
  rfl

theorem sizes_cell {w : World} {B : Nat} {t : TypeId} {ds : List Int} (h : w.heap[B]? = some (.cells (ints ds).toArray t (0, 0))) (j : Nat) (hj : j < ds.length) : w.cell? ⟨B, j, none⟩ = some (.int .i64 (ds.getD j 0)) ∧ w.frozen? ⟨B, j, none⟩ = false := by
  refine ⟨?_, frozen_of_row w B j _ t h⟩
  rw [cell_of_row w B j _ t (0, 0) h]
  simp [ints, hj, List.getD]

theorem sizes_set {w : World} {B : Nat} {t : TypeId} {ds : List Int} (h : w.heap[B]? = some (.cells (ints ds).toArray t (0, 0))) (j : Nat) (x : Int) : (w.setCell ⟨B, j, none⟩ (.int .i64 x)).heap[B]? = some (.cells (ints (ds.set j x)).toArray t (0, 0)) := by
  have := heap_setCell_same w B j _ t (.int .i64 x) h
  rw [this]
  simp [ints, List.map_set]

/-- Nothing of the foot is the iterator's. -/
structure Apart (w : World) (B Bn : Nat) (f : Nat → Prop) (line : Value) (wr : World) : Prop where
  lt : ∀ r, f r → r < wr.heap.size
  low : ∀ r, r < w.heap.size → ¬ f r
  box : ¬ f Bn
  siz : ¬ f B
  row : ∀ k, line.ownBlock = some k → ¬ f k

/-- The iterator's own state. -/
structure NSt {α : Type} (v : Value) (w : World) (B Bn : Nat) (J : List α → (Nat → Prop) → World → Prop) (pre : List α) (f : Nat → Prop) (line : Value) (xs ds : List Int) (wr : World) : Prop where
  q : Queue wr (B + 1) line xs
  s : wr.heap[B]? = some (.cells (ints ds).toArray 62 (0, 0))
  j : J pre f wr
  ap : Apart w B Bn f line wr
  bl : Below w.heap.size w wr
  bx : wr.heap[Bn]? = some (.cells #[v] 26 (0, 0))

section
variable {α : Type} {v : Value} {w : World} {B Bn : Nat} {J J' : List α → (Nat → Prop) → World → Prop} {pre pre' : List α} {f f' : Nat → Prop} {line : Value} {xs ds : List Int} {wr wr' : World}

theorem NSt.sz (h : NSt v w B Bn J pre f line xs ds wr) : B < wr.heap.size := (Array.getElem?_eq_some_iff.1 h.s).1
theorem NSt.bxlt (h : NSt v w B Bn J pre f line xs ds wr) : Bn < wr.heap.size := (Array.getElem?_eq_some_iff.1 h.bx).1

/-- New blocks. -/
theorem NSt.grow (hJ : FootAbides B J) (h : NSt v w B Bn J pre f line xs ds wr) (hg : wr.grownBy wr' none) : NSt v w B Bn J pre f line xs ds wr' where
  q := h.q.kept hg (by simp)
  s := (hg.block _ h.sz (by simp)).trans h.s
  j := hJ _ _ _ _ none h.j hg (by simp)
  ap := { h.ap with lt := fun r hr => Nat.lt_of_lt_of_le (h.ap.lt r hr) hg.size }
  bl := h.bl.grown hg h.bl.size (by simp)
  bx := (hg.block _ h.bxlt (by simp)).trans h.bx

/-- A size is laid. -/
theorem NSt.set (hJ : FootAbides B J) (hB : w.heap.size ≤ B) (hne : Bn ≠ B) (h : NSt v w B Bn J pre f line xs ds wr) (j : Nat) (x : Int) : NSt v w B Bn J pre f line xs (ds.set j x) (wr.setCell ⟨B, j, none⟩ (.int .i64 x)) where
  q := h.q.kept (grown_setCell1 wr B j _) (fun k hk e => by have := (h.q.lt k hk).1; simp at e; omega)
  s := sizes_set h.s j x
  j := hJ _ _ _ _ (some B) h.j (grown_setCell1 wr B j _) (fun r e => by cases e; exact ⟨Nat.le_refl _, h.ap.siz⟩)
  ap := { h.ap with lt := fun r hr => Nat.lt_of_lt_of_le (h.ap.lt r hr) (grown_setCell1 wr B j (.int .i64 x)).size }
  bl := h.bl.setCell (by simpa using hB) _
  bx := ((grown_setCell1 wr B j (.int .i64 x)).block _ h.bxlt (fun e => hne (by simpa using e))).trans h.bx

/-- The list has been appended to. -/
theorem NSt.app (hJ : FootAbides B J) (hB : w.heap.size ≤ B) (hne : Bn < B) (h : NSt v w B Bn J pre f line xs ds wr) {line' : Value} {ys : List Int} (hq : Queue wr' (B + 1) line' ys) (hg : wr.grownBy wr' line.ownBlock)
    (hk : ∀ k, line'.ownBlock = some k → line.ownBlock = some k ∨ wr.heap.size ≤ k) : NSt v w B Bn J pre f line' ys ds wr' where
  q := hq
  s := (hg.block _ h.sz (fun e => by have := (h.q.lt _ e.symm).1; omega)).trans h.s
  j := hJ _ _ _ _ line.ownBlock h.j hg (fun r e => ⟨by have := (h.q.lt _ e).1; omega, h.ap.row r e⟩)
  ap := { lt := fun r hr => Nat.lt_of_lt_of_le (h.ap.lt r hr) hg.size, low := h.ap.low, box := h.ap.box, siz := h.ap.siz, row := fun k hk' hf => by
            rcases hk k hk' with e | e
            · exact h.ap.row k e hf
            · have := h.ap.lt k hf; omega }
  bl := h.bl.grown hg h.bl.size (fun k e => by have := (h.q.lt k e).1; omega)
  bx := (hg.block _ h.bxlt (fun e => by have := (h.q.lt _ e.symm).1; omega)).trans h.bx

/-- A round has been made. -/
theorem NSt.round (h : NSt v w B Bn J pre f line xs ds wr) (hO : Outside f wr f' wr') (hj : J' pre' f' wr') : NSt v w B Bn J' pre' f' line xs ds wr' where
  q := h.q.same hO.size (fun k hk => hO.block k (h.q.lt k hk).2 (h.ap.row k hk))
  s := (hO.block _ h.sz h.ap.siz).trans h.s
  j := hj
  ap := { lt := hO.lt, low := fun r hr hf => h.ap.low r hr (hO.less r (Nat.lt_of_lt_of_le hr h.bl.size) hf), box := fun hf => h.ap.box (hO.less _ h.bxlt hf), siz := fun hf => h.ap.siz (hO.less _ h.sz hf), row := fun k hk hf => h.ap.row k hk (hO.less k (h.q.lt k hk).2 hf) }
  bl := ⟨hO.os.trans h.bl.os, hO.tape.trans h.bl.tape, hO.output.trans h.bl.output, Nat.le_trans h.bl.size hO.size, fun k hk => (hO.block k (Nat.lt_of_lt_of_le hk h.bl.size) (h.ap.low k hk)).trans (h.bl.block k hk)⟩
  bx := (hO.block _ h.bxlt h.ap.box).trans h.bx

/-- Another list of the iterator's own. -/
theorem NSt.other (h : NSt v w B Bn J pre f line xs ds wr) {line' : Value} {ys : List Int} (hq : Queue wr (B + 1) line' ys) (hk : line'.ownBlock = line.ownBlock) : NSt v w B Bn J pre f line' ys ds wr :=
  { h with q := hq, ap := { h.ap with row := fun k e => h.ap.row k (hk ▸ e) } }

end

theorem nearest1 (n l Bn : Nat) (ss : List Stm) (v : Value) (w W : World) (hp : procOk ss = true) (hv : Reads3 w v ss) (hw : Below w.heap.size w W) (hBn : W.heap[Bn]? = some (.cells #[v] 26 (0, 0))) (hBn' : w.heap.size ≤ Bn)
    (J Jx : List (DPs ss) → (Nat → Prop) → World → Prop) (hJ : FootAbides W.heap.size J) (f : Nat → Prop) (hPf : ∀ r, f r → w.heap.size ≤ r ∧ r ≠ Bn) (hflt : ∀ r, f r → r < W.heap.size)
    (hY : ∀ pre x f W1, J pre f W1 → pre.length < 12 → YieldAt Fence.wide (n - 1) Try.prog l #[.int .i64 x.1.1, .int .i64 x.1.2] W1 fun e W' =>
      (e = .returned (.bool true) ∧ ∃ f', Outside f W1 f' W' ∧ J (pre ++ [x]) f' W') ∨ (e = .returned (.bool false) ∧ ∃ f', Outside f W1 f' W' ∧ Jx (pre ++ [x]) f' W'))
    (h0 : J [] f W) :
    CallsIn Fence.wide n Try.prog 37 #[.func (.yield l) #[] #[], .pointer (some ⟨Bn, 0, none⟩)] W fun e W' => (∃ v, e = .returned v) ∧
      ((∃ xs f', (∀ j : Nat, Rch ss (-1) j → ∃ p ∈ xs, p.1.1 = (j : Int)) ∧ J xs f' W') ∨ (∃ pre f', True ∧ Jx pre f' W')) := by
  obtain ⟨i0, hi, hz0, hz1, hz2⟩ := info_parts infoInt
  obtain ⟨_, h12, _⟩ := procOk_parts hp
  have BnB := (Array.getElem?_eq_some_iff.1 hBn).1
  refine callsIn_of_wp Try.func37 rfl trivial ?_ rfl
  simp only [Try.ntmps37, List.size_toArray, List.length_cons, List.length_nil, Nat.reduceAdd, Nat.reduceSub, Array.replicate_succ, Array.replicate_zero, List.push_toArray, List.append_toArray, List.nil_append, List.cons_append]
  gi_wp2
  have s0 : (W.alloc (.cells (ints [1, 0, 0, 0, 0, 0, 0, 0, 0, 0, 0, 0]).toArray 62)).heap.size = W.heap.size + 1 := by simp
  have K0 : ((W.alloc (.cells (ints [1, 0, 0, 0, 0, 0, 0, 0, 0, 0, 0, 0]).toArray 62)).alloc (.cells #[.int .i64 0] 2)).heap[W.heap.size]? = some (.cells (ints [1, 0, 0, 0, 0, 0, 0, 0, 0, 0, 0, 0]).toArray 62 (0, 0)) := by
    rw [old_block (by simp)]; exact heap_alloc_new W _
  have q0 : Queue ((W.alloc (.cells (ints [1, 0, 0, 0, 0, 0, 0, 0, 0, 0, 0, 0]).toArray 62)).alloc (.cells #[.int .i64 0] 2)) (W.heap.size + 1) (.slice (some ⟨W.heap.size + 1, 0, none⟩) 1 1) [0] :=
    queue_own (xs := [0]) (made1_at s0 (Nat.le_refl _) 0)
  have g0 : W.grownBy ((W.alloc (.cells (ints [1, 0, 0, 0, 0, 0, 0, 0, 0, 0, 0, 0]).toArray 62)).alloc (.cells #[.int .i64 0] 2)) none := grown_trans (World.grownBy_alloc W _ none) (World.grownBy_alloc _ _ none)
  have J0 : J [] f ((W.alloc (.cells (ints [1, 0, 0, 0, 0, 0, 0, 0, 0, 0, 0, 0]).toArray 62)).alloc (.cells #[.int .i64 0] 2)) := hJ _ _ _ _ none h0 g0 (by simp)
  have L0 : Below w.heap.size w ((W.alloc (.cells (ints [1, 0, 0, 0, 0, 0, 0, 0, 0, 0, 0, 0]).toArray 62)).alloc (.cells #[.int .i64 0] 2)) := hw.grown g0 hw.size (by simp)
  have X0 : ((W.alloc (.cells (ints [1, 0, 0, 0, 0, 0, 0, 0, 0, 0, 0, 0]).toArray 62)).alloc (.cells #[.int .i64 0] 2)).heap[Bn]? = some (.cells #[v] 26 (0, 0)) := (g0.block Bn BnB (by simp)).trans hBn
  gi_loopw [4] (fun line wr => ∃ (pre : List (DPs ss)) (qs ds : List Int) (f : Nat → Prop), NSt v w W.heap.size Bn J pre f line qs ds wr ∧ BInv ss (pre.map (·.1.1)) qs ds) (fun line wr => 2 * zw wr W.heap.size + lenV line)
  case atStart =>
    refine ⟨[], [0], [1, 0, 0, 0, 0, 0, 0, 0, 0, 0, 0, 0], f, ⟨q0, K0, J0, ⟨fun r hr => by have := hflt r hr; simp; omega, fun r hr hf => by have := (hPf r hf).1; omega, fun hf => (hPf Bn hf).2 rfl, fun hf => by have := hflt _ hf; omega, fun k hk hf => ?_⟩, L0, X0⟩, BInv.start hp⟩
    have := (q0.lt k hk).1
    have := hflt k hf
    omega
  case round =>
    obtain ⟨pre, qs, ds, f, hN, hB⟩ := hrel
    clear q0 K0 J0 L0 X0 g0 h0
    cases qs with
    | nil =>
      obtain ⟨g, off, cap, rfl, _⟩ := hN.q
      gi_wp2
      go_end0
      refine ⟨⟨_, rfl⟩, .inl ⟨pre, f, fun j hj => ?_, hN.j⟩⟩
      have := hB.end_ j hj
      simp only [List.mem_map] at this
      obtain ⟨p, hp1, hp2⟩ := this
      exact ⟨p, hp1, hp2⟩
    | cons x qs =>
      obtain ⟨a, rfl⟩ := hB.nat x (by simp)
      obtain ⟨px, e1, e2⟩ : ∃ px : DPs ss, px.1.1 = (a : Int) ∧ px.1.2 = ds.getD a 0 := ⟨⟨_, hB.dp⟩, rfl, rfl⟩
      have hda : ds.getD a 0 ≠ 0 := (hB.disc a).2 (.inr (by simp))
      have hal : a < ss.length := hB.inr a hda
      have hal' : (a : Int) < 12 := by omega
      have hal0 : (0 : Int) ≤ (a : Int) := by omega
      have hcnt := hB.cnt
      have hdl := hB.len
      have hyl : pre.length < 12 := by simp at hcnt; omega
      obtain ⟨fn, tmps, assign, body, hy, hR⟩ := hY pre px f wr hN.j hyl
      rw [e1, e2] at hy
      have E1 : Hid (px.1.1 = (a : Int)) := e1
      clear e1 e2
      have hq := hN.q
      obtain ⟨g, off, cap, rfl, hgb, hgl, hle, hcq, hsq⟩ := id hq
      have hhead := hcq 0 a rfl
      obtain ⟨hsc, hsf⟩ := sizes_cell hN.s a (by omega)
      rw [Nat.add_zero] at hhead
      have hlen0 : (0 : Int) < ((((a : Int) :: qs).length : Nat) : Int) := by simp
      have hlenA : ((a : Int) :: qs).length ≤ 12 := by simp only [List.length_map, List.length_cons] at hcnt ⊢; omega
      obtain ⟨M, hM⟩ : ∃ M, ((a : Int) :: qs).length = M := ⟨_, rfl⟩
      have HZ : Hid (2 * zw wr W.heap.size + lenV (.slice (some ⟨g, off, none⟩) ((a : Int) :: qs).length cap) = 2 * zeros ds + (1 + qs.length)) := by
        show 2 * zw wr W.heap.size + lenV (.slice (some ⟨g, off, none⟩) ((a : Int) :: qs).length cap) = 2 * zeros ds + (1 + qs.length)
        rw [zw_eq hN.s]
        simp only [lenV, List.length_cons]
        omega
      have HN : Hid _ := hN
      rw [hM] at HZ
      rw [hM] at hlen0 hlenA hle HN ⊢
      have HM : Hid _ := hM
      generalize ds.getD a 0 = d at *
      clear hcq hsq hM hq hN
      gi_wp2
      refine ⟨fun h => absurd h (by decide), ?_⟩
      refine hR.mono ?_
      rintro e W3 (⟨rfl, f3, hO, hJ3⟩ | ⟨rfl, f3, hO, hJx3⟩)
      case inr =>
        gi_wp2
        refine bodyPost_ret (results_none rfl _ _ _) rfl ?_
        exact ⟨⟨_, rfl⟩, .inr ⟨_, f3, trivial, hJx3⟩⟩
      have N3 := HN.out.round hO hJ3
      have hnx := nextsOf ss a v W3 hal h12 (reads3_below hv N3.bl)
      obtain ⟨c0, fz0⟩ := one_cell N3.bx
      have H3 : Hid _ := N3
      clear HN hhead hsc hsf hy hR hO hJ3 N3
      have hnl := nextsS_length ss[a] a
      gi_wp2
      refine ⟨trivial, fun h => absurd h (by decide), ?_⟩
      refine (callsIn_wide.2 hnx).mono ?_
      rintro e W4 ⟨u, rfl, own4, b4⟩
      clear hnx c0 fz0
      have N4 := H3.out.grow hJ (grown_of_below b4 none)
      have z3 : W.heap.size < W3.heap.size := H3.out.sz
      have z4 := b4.size
      have gl3 : g < W3.heap.size := (H3.out.q.lt g rfl).2
      have ulo : ∀ k, u.ownBlock = some k → W3.heap.size ≤ k ∧ k < W4.heap.size := fun k hk => own4.lt k hk
      obtain ⟨ua, un, uc, hu⟩ := own_slice own4
      have hun : un = (nextsS ss[a] a).length := by
        have := reads_own own4
        rw [hu] at this
        obtain ⟨_, _, e, _⟩ := this
        rw [ints_length] at e
        simp at e
        exact e.2.1
      subst hu
      have HX : Hid _ := nx_eq hal
      have HO4 : Hid _ := own4
      have H4 : Hid _ := N4
      have HB : Hid _ := hB
      have hpl : pre.length ≤ 11 := by omega
      clear own4 N4 H3 hB
      obtain ⟨Z, hZ⟩ : ∃ Z, zeros ds = Z := ⟨_, rfl⟩
      have HZZ : Hid _ := hZ
      gi_wp2
      gi_loopw [4, 29] (fun line i wr => ∃ (m : Nat) (qs ds : List Int), i = .int .i64 m ∧ m ≤ un ∧ NSt v w W.heap.size Bn J (pre ++ [px]) f3 line ((a : Int) :: qs) ds wr ∧ BMid ss (pre.map (·.1.1)) a qs ds m ∧ zeros ds ≤ Z ∧
          (∀ k, line.ownBlock = some k → k < W3.heap.size ∨ W4.heap.size ≤ k) ∧ wr.ownsRow W3.heap.size 2 1 (.slice ua un uc) (nextsS ss[a] a).length (ints (nextsS ss[a] a)) ∧ W4.heap.size ≤ wr.heap.size) (fun _ i _ => un - (intOf i).toNat)
      case atStart =>
        refine ⟨0, qs, ds, rfl, Nat.zero_le _, H4.out, HB.out.open, Nat.le_of_eq hZ, fun k hk => .inl ?_, HO4.out, Nat.le_refl _⟩
        simp [Value.ownBlock] at hk
        omega
      case round =>
        obtain ⟨m, qs2, ds2, rfl, hm, hN2, hB2, hz2', hk2, hu2, hsz2⟩ := hrel
        have hd2 := hB2.len
        by_cases hlt : m < un
        · have hlt' : (m : Int) < (un : Int) := by omega
          rcases own_shape hu2 with ⟨_, e, _⟩ | ⟨gu, capu, eu, hul, hcu⟩
          · omega
          have hmn : m < (nextsS ss[a] a).length := by omega
          obtain ⟨j, hj, hjl⟩ := nextsS_in hp hal _ (List.getElem_mem hmn)
          have hxj : (nx ss a)[m]? = some (j : Int) := by rw [HX.out, List.getElem?_eq_getElem hmn, hj]
          have hcj := hcu m (.int .i64 j) (by simp [ints, hmn, hj])
          rw [Addr.add_lit, Nat.zero_add] at hcj
          simp only [Value.slice.injEq] at eu
          obtain ⟨rfl, _, rfl⟩ := eu
          have hj12 : (j : Int) < 12 := by omega
          have hj0 : (0 : Int) ≤ (j : Int) := by omega
          obtain ⟨hsa, hfa⟩ := sizes_cell hN2.s a (by omega)
          obtain ⟨hsj, hfj⟩ := sizes_cell hN2.s j (by omega)
          have hmax := hB2.maxA
          rw [List.length_map] at hmax
          have hda2 : 0 ≤ ds2.getD a 0 := by
            obtain ⟨k, e, _⟩ := hB2.path a ((hB2.disc a).2 (.inr (.inl rfl)))
            omega
          by_cases h0j : ds2.getD j 0 = 0
          · have hfound := hB2.found hxj hjl h12 h0j
            have hzz : zeros (ds2.set j (ds2.getD a 0 + 1)) + 1 = zeros ds2 := by
              refine zeros_set ds2 j _ ?_ (by omega)
              rw [List.getElem?_eq_getElem (by omega)]
              rw [List.getD, List.getElem?_eq_getElem (by omega)] at h0j
              simpa using h0j
            have N5 := hN2.set hJ hw.size (by omega) j (ds2.getD a 0 + 1)
            have N6 := N5.grow hJ (World.grownBy_alloc _ (.cells #[.int .i64 j] 2) none)
            have hlq : qs2.length ≤ 11 := by have := hB2.cnt; omega
            rw [h0j] at hsj
            have HF : Hid _ := hfound
            have HZ2 : Hid _ := hzz
            have H6 : Hid _ := N6
            have hU6 : Hid _ := (hu2.kept (grown_setCell1 wr W.heap.size j (.int .i64 (ds2.getD a 0 + 1))) (.inr (by simp [Value.ownBlock]; have := (hu2.lt gu rfl).1; omega))).alloc (.cells #[.int .i64 j] 2)
            have hs6 : Hid (((wr.setCell ⟨W.heap.size, j, none⟩ (.int .i64 (ds2.getD a 0 + 1))).alloc (.cells #[.int .i64 j] 2)).heap.size = wr.heap.size + 1) := by
              show ((wr.setCell ⟨W.heap.size, j, none⟩ (.int .i64 (ds2.getD a 0 + 1))).alloc (.cells #[.int .i64 j] 2)).heap.size = wr.heap.size + 1
              simp [World.setCell]
            have hone : Hid (∀ jj uu, (ints [(j : Int)])[jj]? = some uu → ((wr.setCell ⟨W.heap.size, j, none⟩ (.int .i64 (ds2.getD a 0 + 1))).alloc (.cells #[.int .i64 j] 2)).cell? ((⟨wr.heap.size, 0, none⟩ : Addr).add jj) = some uu) := by
              show ∀ jj uu, (ints [(j : Int)])[jj]? = some uu → ((wr.setCell ⟨W.heap.size, j, none⟩ (.int .i64 (ds2.getD a 0 + 1))).alloc (.cells #[.int .i64 j] 2)).cell? ((⟨wr.heap.size, 0, none⟩ : Addr).add jj) = some uu
              have e : (wr.setCell ⟨W.heap.size, j, none⟩ (.int .i64 (ds2.getD a 0 + 1))).heap.size = wr.heap.size := by simp [World.setCell]
              have := cell_one (wr.setCell ⟨W.heap.size, j, none⟩ (.int .i64 (ds2.getD a 0 + 1))) (j : Int)
              rw [e] at this
              exact this
            have HN2 : Hid _ := hN2
            obtain ⟨g2, off2, cap2, rfl, _⟩ := hN2.q
            generalize ds2.getD a 0 = da at *
            clear hfound hzz N5 N6 hN2 hB2 hu2 hcu h0j hxj
            gi_wp2_with (first
              | (gi_at_builtin; refine wpListIn_append_queue (v := .slice (some ⟨g2, off2, none⟩) ((a : Int) :: qs2).length cap2) rfl (.tmp 43) (.tmp 45) 29 rfl i0 Try.underlying29 hi hz0 hz1 hz2 rfl H6.out.q ⟨wr.heap.size, 0, none⟩ 1 _ [(j : Int)] rfl rfl hone.out (by simp; omega) (by rw [hs6.out]; omega) ?_; intro v7 w7 q7 g7 k7)
              | gi_in)
            have N7 := H6.out.app hJ hw.size BnB q7 g7 k7
            have hsz6 := hs6.out
            have hgs7 := g7.size
            have hgu := ulo gu rfl
            have hU7 := World.ownsRow.kept (v := .slice (some ⟨gu, 0, none⟩) un uc) (base := W3.heap.size) (e := 2) (size := 1) (n := (nextsS ss[a] a).length) (xs := ints (nextsS ss[a] a)) hU6.out g7 (.inr (by
              simp only [Value.ownBlock, ne_eq, Option.some.injEq]
              rcases hk2 g2 rfl with h | h <;> omega))
            go_roundw
            case rel =>
              refine ⟨m + 1, qs2 ++ [(j : Int)], _, by go_num, by omega, N7, HF.out, by have := HZ2.out; omega, fun k hk => ?_, hU7, by omega⟩
              rcases k7 k hk with h | h
              · exact hk2 k h
              · right; omega
            case measure => simp [intOf]; omega
          · have hknown := hB2.known hxj h0j
            have HK : Hid _ := hknown
            have HN2 : Hid _ := hN2
            have HU : Hid _ := hu2
            obtain ⟨g2, off2, cap2, rfl, _⟩ := hN2.q
            have hsjv : (ds2.getD j 0 == 0) = false := by simpa using h0j
            generalize ds2.getD j 0 = dj at *
            clear hknown hN2 hB2 hu2 hcu hxj
            gi_wp2
            go_roundw
            case rel => exact ⟨m + 1, qs2, ds2, by go_num, by omega, HN2.out, HK.out, hz2', hk2, HU.out, hsz2⟩
            case measure => simp [intOf]; omega
        · have hmu : m = un := by omega
          subst hmu
          have hcl := hB2.close (by rw [HX.out]; omega)
          have hlq : qs2.length ≤ 11 := by have := hB2.cnt; omega
          have hcn := hB2.cnt
          obtain ⟨g2, off2, cap2, hg2, _⟩ := id hN2.q
          obtain ⟨t1, t2, t3, t4⟩ := (hg2 ▸ hN2.q : Queue wr (W.heap.size + 1) (.slice (some ⟨g2, off2, none⟩) (qs2.length + 1) cap2) ((a : Int) :: qs2)).tail
          subst hg2
          have HN2 : Hid _ := hN2
          have HC : Hid _ := hcl
          have hlen1 : (1 : Int) ≤ ((((a : Int) :: qs2).length : Nat) : Int) := by simp only [List.length_cons]; omega
          have HT3 : Hid _ := t3
          have HT4 : Hid _ := t4
          have hz3 : ((a : Int) :: qs2).length - 1 = qs2.length := by simp
          have hcap : ((a : Int) :: qs2).length ≤ cap2 := by simpa using t2
          obtain ⟨M2, hM2⟩ : ∃ M2, ((a : Int) :: qs2).length = M2 := ⟨_, rfl⟩
          have HM2 : Hid _ := hM2
          rw [hM2] at hlen1 hz3 hcap ⊢
          clear hN2 hcl hB2 t1 t3 t4 hM2
          gi_wp2
          have hN8 : NSt v w W.heap.size Bn J (pre ++ [px]) f3 (.slice (if cap2 = 1 then some ⟨g2, off2, none⟩ else some ⟨g2, off2 + 1, none⟩) qs2.length (cap2 - 1)) qs2 ds2 wr := by
            have hN2 := HN2.out
            by_cases hc1 : cap2 = 1
            · rw [if_pos hc1]
              have hq0 : qs2.length = 0 := by omega
              rw [hq0, hc1]
              exact hN2.other (HT3.out hc1) rfl
            · rw [if_neg hc1]
              exact hN2.other HT4.out rfl
          have hB8 : BInv ss ((pre ++ [px]).map (·.1.1)) qs2 ds2 := by
            rw [List.map_append, List.map_cons, List.map_nil, E1.out]
            exact HC.out
          refine ⟨⟨pre ++ [px], qs2, ds2, f3, hN8, hB8⟩, ?_⟩
          rw [zw_eq hN8.s, HZ.out]
          have h1 := HZZ.out
          simp only [lenV, List.length_map] at hcn hcnt ⊢
          simp only [List.length_cons] at hcnt
          omega

end Go.Proofs.Ytjlfmjoallnojac
