/-
  Put together out of: VisIt, RegionInvIn, RangeFootV, FillIn.
-/
import Derived.Test.YtciccbbgamklbaaG07SpecLess
import Derived.Test.YtciccbbgamklbaaG01FlowTop
import Derived.OrdersIn
import Derived.TacticsIn
import Derived.Test.YtciccbbgamklbaaG06RangeFootH
import Derived.Laws.CopyOwn
/-
  impl.visitsWithNews$1: the iterator's contract.
-/
namespace Go.Proofs.Ytciccbbgamklbaa
open Go.RowKit Go.Shelf
set_option linter.unusedVariables false
set_option maxHeartbeats 4000000
set_option maxRecDepth 20000
attribute [local go_sem] Oper.semAt_some

theorem laterP {P Q : Prop} (h : (Unit → P) → Q) (hp : P) : Q := h (fun _ => hp)

theorem laterW {G : Prop} {F P : World → Prop} (h : (∀ y, F y → P y) → G) (k : ∀ y, F y → P y) : G := h k

/-- Where it is stopped: at the least way of those that were to be done. -/
def VStop (c : Int) (ss : List Stm) (s : Int) (pre : List Vis) : Prop :=
  ∃ pre' x work fs, pre = pre' ++ [x] ∧ VInv c ss s pre' work fs ∧ x ∈ work ∧ ∀ y ∈ work, wle x.way y.way

theorem laid4 (W : World) (a b c d : Obj) : (((W.alloc a).alloc b).alloc c |>.alloc d).heap[W.heap.size]? = some a ∧ (((W.alloc a).alloc b).alloc c |>.alloc d).heap[W.heap.size + 1]? = some b ∧ (((W.alloc a).alloc b).alloc c |>.alloc d).heap[W.heap.size + 1 + 1]? = some c ∧ (((W.alloc a).alloc b).alloc c |>.alloc d).heap[W.heap.size + 1 + 1 + 1]? = some d ∧ (((W.alloc a).alloc b).alloc c |>.alloc d).heap.size = W.heap.size + 4 ∧ Below W.heap.size W (((W.alloc a).alloc b).alloc c |>.alloc d) := by
  have z1 : (W.alloc a).heap.size = W.heap.size + 1 := by simp
  have z2 : ((W.alloc a).alloc b).heap.size = W.heap.size + 1 + 1 := by simp
  have z3 : (((W.alloc a).alloc b).alloc c).heap.size = W.heap.size + 1 + 1 + 1 := by simp
  refine ⟨?_, ?_, ?_, ?_, by simp, by go_grown⟩
  · rw [old_block (by omega), old_block (by omega), old_block (by omega)]; exact heap_alloc_new W a
  · rw [old_block (by omega), old_block (by omega), ← z1]; exact heap_alloc_new _ b
  · rw [old_block (by omega), ← z2]; exact heap_alloc_new _ c
  · rw [← z3]; exact heap_alloc_new _ d

theorem VS.begin {v : Value} {m : Nat} {w W W4 : World} {Bp Bf : Nat} {J : List Vis → (Nat → Prop) → World → Prop} {f : Nat → Prop} (s : Int) (hW4 : W4 = (((W.alloc (.cells (ints (List.replicate 12 0)).toArray 78)).alloc (.cells #[.int .i64 0] 2)).alloc (.cells #[.slice (some ⟨W.heap.size + 1, 0, none⟩) 1 1, .int .i64 s] 67)).alloc (.cells #[.slice (some ⟨W.heap.size + 1 + 1, 0, none⟩) 1 1] 92))
    (hw : Below w.heap.size w W) (hBp : W.heap[Bp]? = some (.cells #[v] 30 (0, 0)))
    (hBf : W.heap[Bf]? = some (.cells #[.func (.func 70) #[] #[], .func (.func 71) #[] #[], .func (.func 72) #[] #[], .func (.func m) #[] #[]] 59 (0, 0)))
    (hJ : FootAbidesA W.heap.size J) (hPf : ∀ r, f r → w.heap.size ≤ r ∧ r ≠ Bp ∧ r ≠ Bf) (hflt : ∀ r, f r → r < W.heap.size) (h0 : J [] f W) :
    VS v m w W.heap.size Bp Bf W.heap.size (W.heap.size + 1 + 1 + 1) J [] f (W.heap.size + 1 + 1) 1 [⟨.slice (some ⟨W.heap.size + 1, 0, none⟩) 1 1, [0], s⟩] (List.replicate 12 0) W4 := by
  have hl := laid4 W (.cells (ints (List.replicate 12 0)).toArray 78) (.cells #[.int .i64 0] 2) (.cells #[.slice (some ⟨W.heap.size + 1, 0, none⟩) 1 1, .int .i64 s] 67) (.cells #[.slice (some ⟨W.heap.size + 1 + 1, 0, none⟩) 1 1] 92)
  rw [← hW4] at hl
  obtain ⟨q0, q1, q2, q3, hz, hb⟩ := hl
  have ltP := (Array.getElem?_eq_some_iff.1 hBp).1
  have ltF := (Array.getElem?_eq_some_iff.1 hBf).1
  have hws := hw.size
  refine { hp := ⟨q3, ⟨rfl, .inr ⟨W.heap.size + 1 + 1, 1, _, rfl, by omega, q2, Nat.le_refl _, by decide, rfl, rfl⟩⟩, fun x hx => ?_, fun x hx => ?_⟩, fd := q0, j := hJ _ _ _ _ (fun _ => False) h0 ⟨hb.os, hb.tape, hb.output, hb.size, fun r hr _ => hb.block r hr⟩ (fun r hr => hr.elim), flt := fun r hr => by have := hflt r hr; omega, low := fun r hr hf => by have := (hPf r hf).1; omega, nW := fun hf => by have := hflt _ hf; omega, nF := fun hf => by have := hflt _ hf; omega, ng := fun hf => by have := hflt _ hf; omega, nP := fun hf => (hPf _ hf).2.1 rfl, nB := fun hf => (hPf _ hf).2.2 rfl, nu := fun x hx k hk hf => ?_, bl := hw.trans (hb.mono hw.size), bp := (hb.block _ ltP).trans hBp, bf := (hb.block _ ltF).trans hBf, hW := by omega, hF := Nat.le_refl _, hg := by omega }
  · simp at hx; subst hx
    exact ⟨rfl, .inr ⟨W.heap.size + 1, 1, _, rfl, by omega, q1, Nat.le_refl _, by decide, rfl, rfl⟩⟩
  · simp at hx; subst hx; simp
  · simp at hx; subst hx
    simp [Value.ownBlock] at hk
    subst hk
    have := hflt _ hf; omega

theorem visits1 (n l Bp Bf Bs : Nat) (ss : List Stm) (c s : Int) (v : Value) (m : Nat) (w W : World) (hp : procOk ss = true) (hs : Small s) (hc : c = 1 ∨ c = 2) (hm : markFn c = m) (hv : Reads3 w v ss) (hw : Below w.heap.size w W)
    (hBp : W.heap[Bp]? = some (.cells #[v] 30 (0, 0)))
    (hBf : W.heap[Bf]? = some (.cells #[.func (.func 70) #[] #[], .func (.func 71) #[] #[], .func (.func 72) #[] #[], .func (.func m) #[] #[]] 59 (0, 0)))
    (hBs : W.heap[Bs]? = some (.cells #[.int .i64 s] 2 (0, 0)))
    (J Jx : List Vis → (Nat → Prop) → World → Prop) (hJ : FootAbidesA W.heap.size J) (f : Nat → Prop) (hPf : ∀ r, f r → w.heap.size ≤ r ∧ r ≠ Bp ∧ r ≠ Bf) (hflt : ∀ r, f r → r < W.heap.size)
    (hY : ∀ pre x f W1, J pre f W1 → VG c ss s w.heap.size x f W1 → pre.length < 5000 → YieldAt Fence.wide (n - 1) Try.prog l #[.agg #[x.u, .int .i64 x.set]] W1 fun e W' =>
      (e = .returned (.bool true) ∧ ∃ f', Outside f W1 f' W' ∧ J (pre ++ [x]) f' W') ∨ (e = .returned (.bool false) ∧ ∃ f', Outside f W1 f' W' ∧ Jx (pre ++ [x]) f' W'))
    (h0 : J [] f W) :
    CallsIn Fence.wide n Try.prog 53 #[.func (.yield l) #[] #[], .pointer (some ⟨Bs, 0, none⟩), .pointer (some ⟨Bf, 0, none⟩), .pointer (some ⟨Bp, 0, none⟩)] W fun e W' => (∃ v, e = .returned v) ∧
      ((∃ xs f', (∃ fs, VInv c ss s xs [] fs) ∧ J xs f' W') ∨ (∃ pre f', VStop c ss s pre ∧ Jx pre f' W')) := by
  obtain ⟨_, h12, _⟩ := procOk_parts hp
  have ltP := (Array.getElem?_eq_some_iff.1 hBp).1
  have ltF := (Array.getElem?_eq_some_iff.1 hBf).1
  have ltS := (Array.getElem?_eq_some_iff.1 hBs).1
  obtain ⟨cs0, fs0⟩ := one_cell hBs
  refine callsIn_of_wp Try.func53 rfl trivial ?_ rfl
  simp only [Try.ntmps53, List.size_toArray, List.length_cons, List.length_nil, Nat.reduceAdd, Nat.reduceSub, Array.replicate_succ, Array.replicate_zero, List.push_toArray, List.append_toArray, List.nil_append, List.cons_append]
  gi_wp2
  obtain ⟨W4, hW4⟩ : ∃ x, x = (((W.alloc (.cells (ints (List.replicate 12 0)).toArray 78)).alloc (.cells #[.int .i64 0] 2)).alloc (.cells #[.slice (some ⟨W.heap.size + 1, 0, none⟩) 1 1, .int .i64 s] 67)).alloc (.cells #[.slice (some ⟨W.heap.size + 1 + 1, 0, none⟩) 1 1] 92) := ⟨_, rfl⟩
  have V0 := VS.begin (v := v) (m := m) (J := J) (f := f) s hW4 hw hBp hBf hJ hPf hflt h0
  have I0 := VInv.begin (c := c) (ss := ss) hs (⟨.slice (some ⟨W.heap.size + 1, 0, none⟩) 1 1, [0], s⟩ : Vis) rfl rfl
  change Code.wpIn _ _ _ _ _ _ ((((W.alloc (.cells (ints (List.replicate 12 0)).toArray 78)).alloc (.cells #[.int .i64 0] 2)).alloc (.cells #[.slice (some ⟨W.heap.size + 1, 0, none⟩) 1 1, .int .i64 s] 67)).alloc (.cells #[.slice (some ⟨W.heap.size + 1 + 1, 0, none⟩) 1 1] 92))
  rw [← hW4]
  clear hW4 cs0 fs0
  gi_loopw [] (fun wr => ∃ (pre : List Vis) (g cap : Nat) (L : List Vis) (fs : List Int) (f : Nat → Prop), VS v m w W.heap.size Bp Bf W.heap.size (W.heap.size + 1 + 1 + 1) J pre f g cap L fs wr ∧ VInv c ss s pre L fs ∧ IsH L L.length ∧ L.length + 2 * rem fs ≤ 3049 ∧ pre.length + rem fs ≤ 1524) (fun wr => 2 * remW wr W.heap.size + lenW wr (W.heap.size + 1 + 1 + 1))
  case atStart => exact ⟨[], _, _, _, _, f, V0, I0, fun k hk hk1 => by simp at hk1; omega, by show 1 + 2 * rem (List.replicate 12 0) ≤ 3049; decide, by decide⟩
  case round =>
    obtain ⟨pre, g, cap, L, fs, f, hV, hI, hH, hn1, hn2⟩ := hrel
    clear V0 I0 h0 hPf hflt
    obtain ⟨wr0, hwr0⟩ : ∃ z, z = wr := ⟨_, rfl⟩
    subst hwr0
    obtain ⟨c0, f0⟩ := one_cell hV.hp.box
    rcases Nat.eq_zero_or_pos L.length with hL0 | hL0
    · have hLn : L = [] := List.eq_nil_of_length_eq_zero hL0
      subst hLn
      have HV : Hid _ := hV
      clear hV
      gi_wp2
      go_end0
      exact ⟨⟨_, rfl⟩, .inl ⟨pre, f, ⟨fs, hI⟩, HV.out.j⟩⟩
    obtain ⟨q, hq⟩ : ∃ q, L.length = q + 1 := ⟨L.length - 1, by omega⟩
    have hpo := heapPop L w.heap.size cap g (W.heap.size + 1 + 1 + 1) q wr0 hq (by omega) hV.hp hH
    have hL0' : (0 : Int) < (L.length : Int) := by omega
    have HV : Hid _ := hV
    have HI : Hid _ := hI
    have HQ : Hid _ := hq
    clear hV hI hq
    gi_wp2
    refine ⟨trivial, fun h => absurd h (by decide), ?_⟩
    refine (callsIn_wide.2 hpo).mono ?_
    rintro e w1 ⟨x, rfl, hxo, hxW, hxg, L', hp', ht', hl', hm', hi', hmin⟩
    have hxL : x ∈ L := (hm' x).2 (.inl rfl)
    have hxf : ∀ k, x.u.ownBlock = some k → ¬ f k := HV.out.nu x hxL
    have hV1 := HV.out.heap hJ hw.size hp' ht' (.inl rfl) (fun y hy => HV.out.nu y ((hm' y).2 (.inr hy)))
    have hxs := HV.out.hp.short x hxL
    have hT1 : Hid _ := ht'
    have hxs2 : x.way.length ≤ 1525 := by have := HI.out.wlen x hxL; omega
    obtain ⟨hxR, hxS⟩ := HI.out.real x (.inr hxL)
    obtain ⟨i, hi, hil⟩ := RW_in hp hxR
    have hx0 : 0 < x.way.length := hxR.1
    have hsx : Small x.set := by rw [hxS]; exact st_small hp hs hxR
    have hsf := HI.out.small i
    have hfl := HI.out.len
    obtain ⟨xo, xm, xc, hxu⟩ := own_slice hxo
    have hva := fun W' (hW' : Below w1.heap.size w1 W') => visitAt x w.heap.size W' (own_kept hxo hW') hx0 hxs
    rw [hi, hxu] at hva
    have has := fun v t W => visAssert v t W
    have hha := fun W => hasAll (fs.getD i 0) x.set hsf hsx W
    rw [hxu]
    have HXO : Hid _ := hxo
    have HXU : Hid _ := hxu
    have HV1 : Hid _ := hV1
    have HM1 : Hid _ := hm'
    have HMIN : Hid _ := hmin
    have HH1 : Hid _ := hi'
    have HL1 : Hid _ := hl'
    have HXF : Hid _ := hxf
    have HXR : Hid _ := hxR
    have HXS : Hid _ := hxS
    have HLI : Hid _ := hi
    have HFL : Hid _ := hfl
    clear hxo hxu hV1 hp' ht' hpo c0 f0 hm' hmin hi' hl' hxf hxR hxS hi hfl hxW hxg hH
    gi_wp2
    refine ⟨trivial, fun h => absurd h (by decide), ?_⟩
    refine (callsIn_wide.2 (hva _ (by go_grown))).mono ?_
    rintro e w2 ⟨rfl, b2⟩
    have bA : Below w1.heap.size w1 (w1.alloc (.cells #[.slice xo xm xc, .int .i64 x.set] 67)) := by go_grown
    have M2 : Below w1.heap.size w1 w2 := bA.trans (b2.mono bA.size)
    have V2 := HV1.out.grow hJ M2
    have s2 := b2.size
    simp only [World.size_alloc] at s2
    have qV : w2.heap[w1.heap.size]? = some (.cells #[.slice xo xm xc, .int .i64 x.set] 67 (0, 0)) := (b2.block _ (by simp)).trans (heap_alloc_new w1 _)
    have cV0 : w2.cell? ⟨w1.heap.size, 0, none⟩ = some (.slice xo xm xc) := by rw [cell_of_row _ _ 0 _ _ (0, 0) qV]; rfl
    have cV1 : w2.cell? ⟨w1.heap.size, 1, none⟩ = some (.int .i64 x.set) := by rw [cell_of_row _ _ 1 _ _ (0, 0) qV]; rfl
    have hi12 : i < 12 := by omega
    have hi12' : (i : Int) < 12 := by omega
    have hi0' : (0 : Int) ≤ (i : Int) := by omega
    obtain ⟨d0, e0⟩ := found_cell V2.fd i (by rw [HFL.out]; exact hi12)
    have HXO2 : Hid (w2.ownsRow w.heap.size 2 1 x.u x.way.length (ints x.way)) := own_kept HXO.out M2
    have HV2 : Hid _ := V2
    have HQV : Hid _ := qV
    clear V2 qV HV1 hva b2 HXO
    have hfol : Try.prog.follows Departure.mixedOrders = true := by kernel_rfl
    cases hhv : hasA (fs.getD i 0) x.set
    · rw [hhv] at hha
      have HHV : Hid _ := hhv
      clear hhv cV0
      generalize hy0 : fs.getD i 0 = y0 at hha d0
      have HY0 : Hid _ := hy0
      clear hy0
      gi_wp2
      refine laterP (P := ?PLeaf) (fun HK => ?_) ?_
      case refine_1 =>
        gi_region_with_o (refine ⟨trivial, fun h => absurd h (by decide), ?_⟩; refine (callsIn_wide.2 (hha _)).mono ?_; rintro e w3 ⟨rfl, rfl⟩)
        all_goals exact HK ()
      have V3 : Hid _ := HV2.out.grow hJ (Below.drew (Below.refl _ _))
      have HXO3 : Hid (w2.drew.ownsRow w.heap.size 2 1 x.u x.way.length (ints x.way)) := HXO2.out
      have HQV3 : Hid (w2.drew.heap[w1.heap.size]? = _) := HQV.out
      have s3 : w1.heap.size + 1 ≤ w2.drew.heap.size := s2
      have d3 : w2.drew.cell? ⟨W.heap.size, i, none⟩ = some (.int .i64 y0) := d0
      have e3 : w2.drew.frozen? ⟨W.heap.size, i, none⟩ = false := e0
      have cV3 : w2.drew.cell? ⟨w1.heap.size, 1, none⟩ = some (.int .i64 x.set) := cV1
      have nVF : w1.heap.size ≠ W.heap.size := blk_ne HQV.out HV2.out.fd (by decide)
      generalize w2.drew = w3 at *
      clear d0 e0 cV1 HV2 HXO2 HQV
      gi_wp2
      gi_region
      obtain ⟨w5, hw5⟩ : ∃ x5, x5 = (w3.setCell ⟨W.heap.size, i, none⟩ (.int .i64 (bits .or .i64 y0 x.set))).drew := ⟨_, rfl⟩
      have gs5 : w3.grownBy w5 (some W.heap.size) := by rw [hw5]; exact grown_trans (grown_setCell1H w3 W.heap.size i _) (grown_of_below (Below.drew (Below.refl _ _)) _)
      have V5 : Hid (VS v m w W.heap.size Bp Bf W.heap.size (W.heap.size + 1 + 1 + 1) J pre f g cap L' (fs.set i (lor (fs.getD i 0) x.set)) w5) := by
        rw [hw5, HY0.out]
        exact (V3.out.found hJ hw.size i (lor y0 x.set)).grow hJ (Below.drew (Below.refl _ _))
      rw [← hw5]
      clear hw5
      have HXO5 : Hid (w5.ownsRow w.heap.size 2 1 x.u x.way.length (ints x.way)) := own_grown HXO3.out gs5 (fun k hk e => by
        obtain ⟨c2, h2⟩ := own_blk HXO3.out hk
        simp at e
        subst e
        exact blk_ne h2 V3.out.fd (by decide) rfl)
      have HQV5 : Hid (w5.heap[w1.heap.size]? = some (.cells #[.slice xo xm xc, .int .i64 x.set] 67 (0, 0))) := (gs5.block _ (by omega) (fun e => nVF (by simpa using e))).trans HQV3.out
      have s5 : w1.heap.size + 1 ≤ w5.heap.size := Nat.le_trans s3 gs5.size
      have hG5 : VG c ss s w.heap.size x f w5 := ⟨HXO5.out, HXF.out, hxs, HXR.out, HXS.out⟩
      obtain ⟨fn, tmps, assign, body, hy, hR⟩ := hY pre x f w5 V5.out.j hG5 (by omega)
      rw [HXU.out] at hy
      have cV5 : w5.cell? ⟨w1.heap.size, 0, none⟩ = some (.slice xo xm xc) := by rw [cell_of_row _ _ 0 _ _ (0, 0) HQV5.out]; rfl
      have cV6 : w5.cell? ⟨w1.heap.size, 1, none⟩ = some (.int .i64 x.set) := by rw [cell_of_row _ _ 1 _ _ (0, 0) HQV5.out]; rfl
      have hVf : Hid (¬ f w1.heap.size) := fun hf => by have := HV.out.flt _ hf; have := hT1.out.size; omega
      clear gs5 hG5 d3 e3 cV3 V3 HXO3 HQV3
      gi_wp2
      refine ⟨fun h => absurd h (by decide), ?_⟩
      refine hR.mono ?_
      rintro e w6 (⟨rfl, f3, hO, hJ3⟩ | ⟨rfl, f3, hO, hJx3⟩)
      case inr =>
        have HSTOP : Hid (VStop c ss s (pre ++ [x])) := ⟨pre, x, L, fs, rfl, HI.out, hxL, fun y hy' => by
          rcases (HM1.out y).1 hy' with rfl | h
          · exact wle_refl _
          · exact HMIN.out y h⟩
        gi_wp2
        refine bodyPost_ret (results_none rfl _ _ _) rfl ?_
        exact ⟨⟨_, rfl⟩, .inr ⟨_, f3, HSTOP.out, hJx3⟩⟩
      have V6 := V5.out.round hO hJ3
      have HXO6 : Hid (w6.ownsRow w.heap.size 2 1 x.u x.way.length (ints x.way)) := own_same HXO5.out (fun k hk => hO.block k ((World.ownsRow.lt HXO5.out) k hk).2 (HXF.out k hk))
      have HQV6 : Hid (w6.heap[w1.heap.size]? = some (.cells #[.slice xo xm xc, .int .i64 x.set] 67 (0, 0))) := (hO.block _ (by omega) hVf.out).trans HQV5.out
      have s6 : w1.heap.size + 1 ≤ w6.heap.size := Nat.le_trans s5 hO.size
      have HV6 : Hid _ := V6
      clear cV5 cV6 hy hR V5 HXO5 HQV5 hJ3 V6
      obtain ⟨k0, k1, k2, k3⟩ := four_cells HV6.out.bf
      obtain ⟨cp, fp⟩ := one_cell HV6.out.bp
      obtain ⟨vo, vc, hv0, hcv⟩ := id hv
      obtain ⟨vg, voff, rfl, p0, p1, p2⟩ := hcv i ss[i] (by simp [hil])
      have pB := World.block_lt_of_cell? w _ p0
      have p0 := (HV6.out.bl.cell pB).trans p0
      have p1 := (HV6.out.bl.cell (p := ⟨vg, voff + i * 3 + 1, none⟩) pB).trans p1
      have p2 := (HV6.out.bl.cell (p := ⟨vg, voff + i * 3 + 2, none⟩) pB).trans p2
      have hil' : (i : Int) < (ss.length : Int) := by omega
      have hfs := flw_smalls (c := c) hp hil
      have hro := relationOf c ss[i].k ss[i].x ss[i].y hc (stm_ok hp hil)
      rw [← flw_eq hil, hm] at hro
      unfold flowsV at hro
      have hnx := fun W' (hW' : Below w.heap.size w W') => nextsOf ss i _ W' hil h12 (reads3_below hv hW')
      rw [← nx_eq hil, hv0] at hnx
      rw [hv0] at cp
      have HV0 : Hid _ := hv0
      clear hv0
      have hn2' : (nx ss i).length ≤ 2 := by rw [nx_eq hil]; exact nextsS_length _ _
      obtain ⟨rs, hrs⟩ : ∃ rs, flw c ss i = rs := ⟨_, rfl⟩
      have HRS : Hid _ := hrs
      rw [hrs] at hfs hro
      clear hrs
      have him := fun W => relImage rs x.set W hfs hsx
      have cV6 : w6.cell? ⟨w1.heap.size, 1, none⟩ = some (.int .i64 x.set) := by rw [cell_of_row _ _ 1 _ _ (0, 0) HQV6.out]; rfl
      have zV : w1.heap.size < w6.heap.size := by omega
      generalize ss[i] = sti at *
      gi_wp2
      refine laterW (F := fun W' => Below w6.heap.size w6 W') (P := ?PLeaf2) (fun HK => ?_) ?_
      case refine_1 =>
        gi_region_with_o (first
          | (refine ⟨trivial, fun h => absurd h (by decide), ?_⟩; refine (callsIn_wide.2 (hro _)).mono ?_; rintro e w7 ⟨rfl, b7⟩; have M7 : Below w6.heap.size w6 w7 := Below.trans (by go_grown) b7; obtain ⟨hc7, hf7⟩ := bcell M7)
          | (refine ⟨trivial, fun h => absurd h (by decide), ?_⟩; refine (callsIn_wide.2 (him _)).mono ?_; rintro e w8 ⟨rfl, b8⟩; have M8 : Below w6.heap.size w6 w8 := Below.trans (Below.trans M7 (by go_grown)) (b8.mono M7.size)))
        all_goals exact HK _ M8
      intro w8 M8
      have cp8 : w8.cell? ⟨Bp, 0, none⟩ = some (.slice (some ⟨vg, voff, none⟩) ss.length vc) := (M8.cell (p := ⟨Bp, 0, none⟩) (World.block_lt_of_cell? w6 _ cp)).trans cp
      have V8 := HV6.out.grow hJ M8
      clear cp fp k0 k1 k2 k3 p0 p1 p2 cV6 hro him
      have HV8 : Hid _ := V8
      have L8 : Hid (Below w.heap.size w w8) := V8.bl
      have HX8 : Hid (w8.ownsRow w.heap.size 2 1 x.u x.way.length (ints x.way)) := own_kept HXO6.out M8
      have HB8 : Hid (w8.heap[w1.heap.size]? = some (.cells #[.slice xo xm xc, .int .i64 x.set] 67 (0, 0))) := (M8.block _ zV).trans HQV6.out
      have s8 := M8.size
      clear V8 M8 HV6 HXO6 HQV6 hO
      gi_wp2
      refine ⟨trivial, fun h => absurd h (by decide), ?_⟩
      refine (callsIn_wide.2 (hnx _ L8.out)).mono ?_
      rintro e w9 ⟨un, rfl, own9, b9⟩
      have hun : ∃ a cp, un = .slice a (nx ss i).length cp := by
        obtain ⟨a, cp, e, _⟩ := reads_own own9
        exact ⟨a, cp, by rw [e, ints_length]⟩
      obtain ⟨ua, uc, rfl⟩ := hun
      have P9 : Hid (VPush v m w W.heap.size Bp Bf W.heap.size (W.heap.size + 1 + 1 + 1) J (pre ++ [x]) f3 (fs.set i (lor (fs.getD i 0) x.set)) x (.slice xo xm xc) w1.heap.size (.slice ua (nx ss i).length uc) (nx ss i) L' (img rs x.set) 0 g cap L' w9) := by
        refine ⟨HV8.out.grow hJ b9, (b9.block _ (by omega)).trans HB8.out, ?_, own_kept (by rw [← HXU.out]; exact HX8.out) b9, own_mono own9 L8.out.size, HH1.out, by omega, fun y hy => .inl hy, fun y hy => hy, fun n hn => by simp at hn⟩
        have h1 := HV.out.hp.ltg
        have h2 := hT1.out.size
        omega
      clear cp8 hnx HV8 HX8 HB8 L8 own9 b9
      obtain ⟨ns, hns⟩ : ∃ ns, nx ss i = ns := ⟨_, rfl⟩
      have HNS : Hid _ := hns
      rw [hns] at P9 hn2' ⊢
      clear hns
      gi_wp2
      gi_loopw [55] (fun iv wx => ∃ (k g2 cap2 : Nat) (L2 : List Vis), k ≤ ns.length ∧ iv = .int .i64 k ∧ VPush v m w W.heap.size Bp Bf W.heap.size (W.heap.size + 1 + 1 + 1) J (pre ++ [x]) f3 (fs.set i (lor (fs.getD i 0) x.set)) x (.slice xo xm xc) w1.heap.size (.slice ua ns.length uc) ns L' (img rs x.set) k g2 cap2 L2 wx) (fun iv _ => ns.length - (intOf iv).toNat)
      case atStart => exact ⟨0, g, cap, L', Nat.zero_le _, rfl, P9.out⟩
      case round =>
        obtain ⟨k, g2, cap2, L2, hk, rfl, hP⟩ := hrel
        have HP : Hid _ := hP
        by_cases hkt : k < ns.length
        · have hkt' : (k : Int) < (ns.length : Int) := by omega
          have hxo := HP.out.xo
          have hlo := fun W' (hW' : Below wr.heap.size wr W') => longer x.way ns[k] (.slice xo xm xc) w.heap.size W' (own_kept hxo hW') hx0 (by omega)
          obtain ⟨j0, hj0, hj0l⟩ := nx_in hp hil ns[k] (by rw [HNS.out]; exact List.getElem_mem hkt)
          obtain ⟨gn, hgn, cn⟩ : ∃ gn, ua = some ⟨gn, 0, none⟩ ∧ wr.cell? ⟨gn, k, none⟩ = some (.int .i64 ns[k]) := by
            rcases own_shape HP.out.no with ⟨_, e, _⟩ | ⟨gn, cp, e, _, hcc⟩
            · omega
            · simp only [Value.slice.injEq] at e
              refine ⟨gn, e.1, ?_⟩
              have := hcc k (.int .i64 ns[k]) (by simp [ints, hkt])
              rwa [Addr.add_lit, Nat.zero_add] at this
          have cVr : wr.cell? ⟨w1.heap.size, 0, none⟩ = some (.slice xo xm xc) := by rw [cell_of_row _ _ 0 _ _ (0, 0) HP.out.vb]; rfl
          have HNK : Hid (ns[k] = ns[k]) := rfl
          obtain ⟨y, hyk⟩ : ∃ y, ns[k] = y := ⟨_, rfl⟩
          rw [hyk] at hlo cn
          have HYK : Hid _ := hyk
          clear hP hxo hyk hj0
          rw [hgn]
          have HGN : Hid _ := hgn
          clear hgn
          gi_wp2
          refine ⟨trivial, fun h => absurd h (by decide), ?_⟩
          refine (callsIn_wide.2 (hlo _ (by go_grown))).mono ?_
          rintro e w10 ⟨u', rfl, own10, b10⟩
          have HO10 : Hid _ := own10
          have hLl : L2.length ≤ 90000 := by have := HP.out.len; have := HL1.out; have := HQ.out; omega
          have hbs : w.heap.size ≤ w10.heap.size := by have := HP.out.vs.bl.size; have := b10.size; omega
          have hpu := heapPush L2 w.heap.size cap2 g2 (W.heap.size + 1 + 1 + 1) ⟨u', x.way ++ [y], img rs x.set⟩ w10 hLl hbs (HP.out.vs.hp.below b10) HP.out.ih (own_mono own10 HP.out.vs.bl.size) (by simp; omega)
          obtain ⟨uo, um, uc', hu'⟩ := own_slice own10
          have HU' : Hid _ := hu'
          simp only at hpu
          rw [hu'] at hpu
          rw [hu']
          clear own10 hlo cn cVr hu'
          gi_wp2
          refine ⟨trivial, fun h => absurd h (by decide), ?_⟩
          refine (callsIn_wide.2 hpu).mono ?_
          rintro e w11 ⟨⟨v11, rfl⟩, g3, cap3, L3, hp3, t3, hg3, hl3, hm3, hi3⟩
          have P11 : Hid (VPush v m w W.heap.size Bp Bf W.heap.size (W.heap.size + 1 + 1 + 1) J (pre ++ [x]) f3 (fs.set i (lor (fs.getD i 0) x.set)) x (.slice xo xm xc) w1.heap.size (.slice ua ns.length uc) ns L' (img rs x.set) (k + 1) g3 cap3 L3 w11) := by
            refine HP.out.step hJ hw.size hkt b10 (u := u') (fun z hz => ((World.ownsRow.lt HO10.out) z hz).1) hp3 t3 hg3 hl3 (fun z => ?_) hi3
            rw [HYK.out, HU'.out]
            exact hm3 z
          rw [HGN.out] at P11
          clear hp3 t3 hm3 hi3 hl3 hg3 hpu
          gi_wp2
          go_roundw
          case rel => exact ⟨k + 1, g3, cap3, L3, by omega, by go_num, P11.out⟩
          case measure => simp [intOf]; omega
        · obtain rfl : k = ns.length := by omega
          have hrem : Hid (rem (fs.set i (lor (fs.getD i 0) x.set)) + 1 ≤ rem fs) := rem_set fs i _ (by rw [HFL.out]; exact hi12) (lor_ge hsf hsx (by first | exact HHV.out | (rw [HY0.out]; exact HHV.out))) (lor_small hsf hsx).2
          have hlen2 : Hid (L2.length = q + ns.length) := by show L2.length = q + ns.length; rw [HP.out.len, HL1.out]
          have z0 := remW_eq HV.out.fd
          have z1 := lenW_eq HV.out.hp.box
          have z2 := remW_eq HP.out.vs.fd
          have z3 := lenW_eq HP.out.vs.hp.box
          have HINV : Hid (VInv c ss s (pre ++ [x]) L2 (fs.set i (lor (fs.getD i 0) x.set))) := by
            refine HI.out.news hp hs HM1.out HMIN.out HLI.out hi12 (fun y hy => ?_) HP.out.old (fun z hz => ?_)
            · rcases HP.out.frm y hy with h | ⟨z, hz, h1, h2⟩
              · exact .inl h
              · rw [List.take_of_length_le (Nat.le_refl _)] at hz
                exact .inr ⟨z, by rw [HNS.out]; exact hz, h1, by rw [HRS.out]; exact h2⟩
            · rw [HNS.out] at hz
              exact HP.out.new z (by rw [List.take_of_length_le (Nat.le_refl _)]; exact hz)
          have HZ : Hid (2 * remW wr W.heap.size + lenW wr (W.heap.size + 1 + 1 + 1) < 2 * remW wr0 W.heap.size + lenW wr0 (W.heap.size + 1 + 1 + 1)) := by
            show _ < _
            rw [z0, z1, z2, z3, hlen2.out, HQ.out]
            have := hrem.out
            omega
          clear z0 z1 z2 z3
          gi_wp2
          go_roundw
          case rel =>
            refine ⟨pre ++ [x], g2, cap2, L2, _, f3, HP.out.vs, HINV.out, HP.out.ih, ?_, ?_⟩
            · rw [hlen2.out]
              have := hrem.out
              have := HQ.out
              omega
            · have := hrem.out
              simp only [List.length_append, List.length_cons, List.length_nil]
              omega
          case measure => exact HZ.out
    · rw [hhv] at hha
      have HHV : Hid _ := hhv
      clear hhv cV0
      generalize hy0 : fs.getD i 0 = y0 at hha d0
      have HY0 : Hid _ := hy0
      clear hy0
      gi_wp2
      gi_region_with_o (refine ⟨trivial, fun h => absurd h (by decide), ?_⟩; refine (callsIn_wide.2 (hha _)).mono ?_; rintro e w3 ⟨rfl, rfl⟩)
      all_goals
        have V3 : Hid _ := HV2.out.grow hJ (Below.drew (Below.refl _ _))
        have z0 := remW_eq HV.out.fd
        have z1 := lenW_eq HV.out.hp.box
        have z2 := remW_eq V3.out.fd
        have z3 := lenW_eq V3.out.hp.box
        have HZ : Hid (2 * remW w2.drew W.heap.size + lenW w2.drew (W.heap.size + 1 + 1 + 1) < 2 * remW wr0 W.heap.size + lenW wr0 (W.heap.size + 1 + 1 + 1)) := by
          show _ < _
          rw [z0, z1, z2, z3, HL1.out, HQ.out]; omega
        clear z0 z1 z2 z3
        gi_wp2
        go_roundw
        case rel => exact ⟨pre, g, cap, L', fs, f, V3.out, HI.out.skip hp hs HM1.out HLI.out HHV.out, HH1.out, by rw [HL1.out]; have := HQ.out; omega, hn2⟩
        case measure => exact HZ.out

end Go.Proofs.Ytciccbbgamklbaa

/-
  A region that draws its order, inside a fence, by an invariant over the set of the operations that have run.
-/
namespace Go.Proofs.Ytciccbbgamklbaa
open Go.RowKit

section
variable {F : Fence} {n : Nat} {P : Program} {ops : Array Oper} {Q : Exit → Act → World → Prop}

theorem wpIn_then {o : Oper} {a : Act} {w : World} {K : Act → World → Prop} (h : o.wpIn F n P a w K (Exit.then K Q)) : o.wpIn F n P a w K Q := by
  unfold Oper.wpIn at *
  refine ⟨h.1, ?_⟩
  have h := h.2
  generalize (o.semAt F.round a.eval).run P w = r at *
  cases r with
  | ok x w' =>
    cases x <;> simp only [Oper.uponIn] at h ⊢ <;>
      first
        | exact h
        | exact ⟨h.1, CallsIn.mono h.2 (fun e w'' he => by cases e <;> exact he)⟩
        | exact ⟨h.1, RoundIn.mono h.2 (fun e w'' he => by cases e <;> exact he)⟩
  | halt x w' => cases x <;> simp only [Oper.uponIn] at h ⊢ <;> exact h

theorem wpIn_then_mk {o : Oper} {a : Act} {w : World} {K : Act → World → Prop} (h : o.wpIn F n P a w K Q) : o.wpIn F n P a w K (Exit.then K Q) := by
  unfold Oper.wpIn at *
  refine ⟨h.1, ?_⟩
  have h := h.2
  generalize (o.semAt F.round a.eval).run P w = r at *
  cases r with
  | ok x w' =>
    cases x <;> simp only [Oper.uponIn] at h ⊢ <;>
      first
        | exact h
        | exact ⟨h.1, CallsIn.mono h.2 (fun e w'' he => by cases e <;> exact he)⟩
        | exact ⟨h.1, RoundIn.mono h.2 (fun e w'' he => by cases e <;> exact he)⟩
  | halt x w' => cases x <;> simp only [Oper.uponIn] at h ⊢ <;> exact h

theorem wpOpIn_of_list {i : Nat} {o : Oper} {a : Act} {w : World} {K : Act → World → Prop} (ho : ops[i]? = some o) (h : wpListIn F n P ops (Exit.then K Q) [o] a w) : wpOpIn F n P ops Q i K a w := by
  unfold wpOpIn
  rw [ho]
  simp only
  unfold wpListIn at h
  split
  · rename_i hw
    rw [if_pos hw] at h
    exact wpIn_then h
  · rename_i hw
    rw [if_neg hw] at h
    exact h

theorem wpListIn_mono_then {o : Oper} {a : Act} {w : World} {K K' : Act → World → Prop} (hk : ∀ a w, K a w → K' a w) (h : wpListIn F n P ops (Exit.then K Q) [o] a w) : wpListIn F n P ops (Exit.then K' Q) [o] a w := by
  unfold wpListIn at h ⊢
  split
  · rename_i hw
    rw [if_pos hw] at h
    have h3 : o.wpIn F n P a w K' Q := Oper.wpIn_mono hk (wpIn_then h)
    exact wpIn_then_mk h3
  · rename_i hw
    rw [if_neg hw] at h
    exact ⟨h.1, hk _ _ h.2⟩

theorem wpIn_region_inv {id : Nat} {a : Act} {w : World} (hm : P.follows .mixedOrders = true) (hlow : lowB ops = true) (I : (Nat → Bool) → Act → World → Prop) (h0 : I (fun _ => false) a w.drew)
    (hstep : ∀ (l : Nat → Bool) (i : Nat) (o : Oper) (a : Act) (w : World), ops[i]? = some o → I l a w → l i = false → (o.after.all fun e => !Region.binds .any e || l e.on) = true →
      wpListIn F n P ops (Exit.then (fun a' w' => I (fun j => j == i || l j) a' w') Q) [o] a w)
    (hend : ∀ (l : Nat → Bool) (a : Act) (w : World), I l a w → (∀ i, i < ops.size → l i = true) → Q .normal a w) : (Code.region id ops true).wpIn F n P Q a w := by
  refine wpIn_region_any hm ?_
  have key : ∀ (fuel : Nat) (listed : Array Bool) (a : Act) (w : World), listed.size = ops.size → listed.toList.count false ≤ fuel → I (fun j => listed.getD j false) a w → wpAnyIn F n P .any ops Q fuel listed a w := by
    intro fuel
    have fin : ∀ (listed : Array Bool) (a : Act) (w : World), listed.size = ops.size → I (fun j => listed.getD j false) a w → Region.ready .any ops listed = [] → Q .normal a w := by
      intro listed a w hs hI hnil
      refine hend _ a w hI (fun i hi => ?_)
      cases hd : listed.getD i false with
      | true => rfl
      | false => exact absurd hnil (ready_some hlow hs hi hd)
    induction fuel with
    | zero =>
      intro listed a w hs hc hI
      have hnil : Region.ready .any ops listed = [] := by
        unfold Region.ready
        rw [List.filter_eq_nil_iff]
        intro i hi
        have hi' : i < listed.size := by rw [hs]; simpa using hi
        have hne : listed[i] = true := by
          cases hb : listed[i] with
          | true => rfl
          | false =>
            have hmem : false ∈ listed.toList := by
              rw [← hb]
              exact Array.getElem_mem_toList hi'
            have := List.count_pos_iff.2 hmem
            omega
        rw [Array.getD_eq_getD_getElem?, Array.getElem?_eq_getElem hi', hne]
        simp
      exact ⟨hnil, fin listed a w hs hI hnil⟩
    | succ fuel ih =>
      intro listed a w hs hc hI
      refine ⟨fin listed a w hs hI, fun i hi => ?_⟩
      unfold Region.ready at hi
      rw [List.mem_filter] at hi
      obtain ⟨hir, hc2⟩ := hi
      have hio : i < ops.size := by simpa using hir
      have hil : i < listed.size := by omega
      rw [Array.getElem?_eq_getElem hio] at hc2
      simp only [Bool.and_eq_true, Option.map_some, Option.getD_some] at hc2
      have hf : listed[i] = false := by
        have := hc2.1
        rw [Array.getD_eq_getD_getElem?, Array.getElem?_eq_getElem hil] at this
        simpa using this
      refine wpOpIn_of_list (Array.getElem?_eq_getElem hio) ?_
      have hst := hstep (fun j => listed.getD j false) i ops[i] a w (Array.getElem?_eq_getElem hio) hI (by rw [Array.getD_eq_getD_getElem?, Array.getElem?_eq_getElem hil, hf]; rfl) hc2.2
      refine wpListIn_mono_then (fun a' w' hI' => ih _ a' w' (by simpa using hs) ?_ ?_) hst
      · have := count_set listed.toList i (by rw [Array.getElem?_toList, Array.getElem?_eq_getElem hil, hf])
        rw [Array.toList_setIfInBounds]
        omega
      · have e : (fun j => (listed.setIfInBounds i true).getD j false) = fun j => j == i || listed.getD j false := by
          funext j
          rw [Array.getD_eq_getD_getElem?, Array.getElem?_setIfInBounds, Array.getD_eq_getD_getElem?]
          by_cases hj : i = j
          · subst hj
            simp [hil]
          · rw [if_neg hj]
            have : (j == i) = false := by simp; omega
            rw [this, Bool.false_or]
        rw [e]
        exact hI'
  refine key ops.size (Array.replicate ops.size false) a _ (by simp) (by simp) ?_
  have e : (fun j => (Array.replicate ops.size false).getD j false) = fun _ => false := by
    funext j
    rw [Array.getD_eq_getD_getElem?, Array.getElem?_replicate]
    split <;> rfl
  rw [e]
  exact h0

end
end Go.Proofs.Ytciccbbgamklbaa

/-
  As RangeFootH, where what is handed over is laid into a block of its own, round by round.
-/
namespace Go.Proofs.Ytciccbbgamklbaa
open Go.RowKit

section
variable {F : Fence} {n : Nat} {P : Program}

set_option maxHeartbeats 1000000 in
/-- The loop: the foot at its beginning is f0; the loop's own two blocks are added to it. -/
theorem wpIn_rangeFunc_footV {α : Type} {g : Operand} {ps : Array Tmp} {assign body : Code} {Q : Exit → Act → World → Prop} {a : Act} {w : World}
    (hro : F.round = none) (h1 : 1 ≤ n) {gf : Nat} {lb : Array Value} (hg : a.eval g = .func (.func gf) #[] lb) (hFg : F.fn gf) (eg : ∀ args w, (callFunc gf args).run P w = .ok (.enter gf args) w)
    {encs : α → Array Value} {G : α → (Nat → Prop) → World → Prop} {Pf : (Nat → Prop) → Prop} {S Sp : List α → Prop} {N : Nat} {w0 : World} (hseq : SeqFootH F (n - 1) P gf lb encs G Pf S Sp N w0) (hb0 : Below w0.heap.size w0 w) (hps : ∀ x, (encs x).size = ps.size)
    (hG : ∀ (x : α) (f : Nat → Prop) (W : World) (l : Nat) (o o' : Obj), G x f W → W.heap[l]? = some o → o.isCells = false → G x f (W.putObj l o')) (f0 : Nat → Prop) (hf0 : ∀ r, f0 r → r < w.heap.size) (hPf : Pf (fun r => f0 r ∨ r = w.heap.size ∨ r = w.heap.size + 1))
    (I : List α → (Nat → Prop) → World → Prop) (Ix : Code → List α → (Nat → Prop) → World → Prop) (hI : FootOwnA w.heap.size I) (hIx : ∀ c, FootPut w.heap.size (Ix c))
    (h0 : I [] (fun r => f0 r ∨ r = w.heap.size ∨ r = w.heap.size + 1) w) (a₁ : α → Nat → Act) (ob : α → Obj) (hGa : ∀ (x : α) (f : Nat → Prop) (W : World), G x f W → G x f (W.alloc (ob x)))
    (hassign : ∀ (l : Nat) (x : α) (W : World) (K : Act → World → Prop), (∃ f, G x f W) → K (a₁ x W.heap.size) (W.alloc (ob x)) →
      assign.wpIn (F.inRound l) (n - 1 - 1) P (Exit.then K (fun _ _ _ => False)) { tmps := (ps.zip (encs x)).foldl (fun t (p, v) => t.setIfInBounds p v) a.tmps, defers := [] } W)
    (hbody : ∀ (l : Nat) (pre : List α) (x : α) (f : Nat → Prop) (W : World) (Vb : Nat), I pre f W → G x f W → (∀ r, f r → r < W.heap.size) → f w.heap.size → pre.length < N → W.heap[Vb]? = some (ob x) → ¬ f Vb → body.wpIn (F.inRound l) (n - 1 - 1) P (footPost I Ix (pre ++ [x]) f W) (a₁ x Vb) W)
    (hdone : ∀ (D : Nat) (xs : List α) (f : Nat → Prop) (W : World), w.heap.size ≤ D → S xs → I xs f W → W.heap[D]? = some (.deferred (some [])) → Q .normal { a with defers := { target := .collected D, args := #[] } :: a.defers } W)
    (hstop : ∀ (D : Nat) (c : Code) (pre : List α) (f : Nat → Prop) (W : World), w.heap.size ≤ D → Sp pre → Ix c pre f W → W.heap[D]? = some (.deferred (some [])) → c.wpIn F n P Q { a with defers := { target := .collected D, args := #[] } :: a.defers } W) :
    (Code.rangeFunc g ps assign body).wpIn F n P Q a w := by
  refine wpIn_rangeFunc ?_
  intro fn hfn
  rw [hro]
  obtain ⟨rec, hrec⟩ : ∃ rec : LoopState → Option Code → Loop, rec = fun st pe => { state := st, pending := pe, fn, tmps := a.tmps, params := ps, assign, body, defers := w.heap.size } := ⟨_, rfl⟩
  obtain ⟨W1, hW1⟩ : ∃ W1, (w.alloc (.deferred (some []))).alloc (.loop (rec .ready none)) = W1 := ⟨_, rfl⟩
  have hs1 : W1.heap.size = w.heap.size + 1 + 1 := by rw [← hW1]; simp
  have hL1 : W1.heap[w.heap.size + 1]? = some (.loop (rec .ready none)) := by
    have := World.alloc_heap_new (w.alloc (.deferred (some []))) (.loop (rec .ready none))
    rw [World.size_alloc] at this
    rw [← hW1]; exact this
  have hK1 : W1.heap[w.heap.size]? = some (.deferred (some [])) := by
    rw [← hW1]; exact (Below.heap_alloc _ _ _ (by simp)).trans (World.alloc_heap_new w _)
  have hI1 : I [] (fun r => f0 r ∨ r = w.heap.size ∨ r = w.heap.size + 1) W1 := by rw [← hW1]; exact hI.alloc _ (hI.alloc _ h0)
  have hb1 : Below w0.heap.size w0 W1 := by
    rw [← hW1]; exact hb0.trans ((((Below.refl _ w).alloc (Nat.le_refl _) _).alloc (by simp) _).mono hb0.size)
  refine ⟨w.heap.size + 1, [{ target := .collected w.heap.size, args := #[] }], W1, { target := .fn (.func gf) lb, args := #[.func (.yield (w.heap.size + 1)) #[] #[]] }, W1, gf,
    #[.func (.yield (w.heap.size + 1)) #[] #[]] ++ lb, W1, ?_, ?_, ?_, ?_, fun _ => h1, ?_⟩
  · rw [← hW1, hrec]; exact run_enterLoop_outer _ _ _ _ _
  · simp only [resolve, hg]
    simp [go_sem]
  · intro f' hf'; simp [Target.leads] at hf'; subst hf'; exact hFg
  · simp [invoke, go_sem, eg]
  -- the iterator's contract, at the caller's invariant and the loop's own two blocks
  have ab : ∀ (st : LoopState) (pe : Option Code) (I' : List α → (Nat → Prop) → World → Prop), FootOwnA w.heap.size I' → FootAbidesA W1.heap.size (fun pre f W => I' pre f W ∧ f w.heap.size ∧ f (w.heap.size + 1) ∧ (∀ r, f r → r < W.heap.size) ∧
      W.heap[w.heap.size + 1]? = some (.loop (rec st pe)) ∧ W.heap[w.heap.size]? = some (.deferred (some []))) := by
    rintro st pe I' hI' s f A B AA ⟨hi, hfD, hfL, hlt, hl, hk⟩ hgr hr
    refine ⟨hI' s f A B AA hi hgr (fun r e => ⟨by have := (hr r e).1; omega, .inl (hr r e).2⟩), hfD, hfL, fun r hf => Nat.lt_of_lt_of_le (hlt r hf) hgr.size, ?_, ?_⟩
    · exact (hgr.block _ (hlt _ hfL) (fun e => (hr _ e).2 hfL)).trans hl
    · exact (hgr.block _ (hlt _ hfD) (fun e => (hr _ e).2 hfD)).trans hk
  refine (hseq (w.heap.size + 1)
    (fun pre f W => I pre f W ∧ f w.heap.size ∧ f (w.heap.size + 1) ∧ (∀ r, f r → r < W.heap.size) ∧ W.heap[w.heap.size + 1]? = some (.loop (rec .ready none)) ∧ W.heap[w.heap.size]? = some (.deferred (some [])))
    (fun pre f W => ∃ c, Ix c pre f W ∧ f w.heap.size ∧ f (w.heap.size + 1) ∧ (∀ r, f r → r < W.heap.size) ∧ W.heap[w.heap.size + 1]? = some (.loop (rec .done (some c))) ∧ W.heap[w.heap.size]? = some (.deferred (some [])))
    W1 (fun r => f0 r ∨ r = w.heap.size ∨ r = w.heap.size + 1) hb1 (ab _ _ I hI)
    hPf (fun r hf => by rcases hf with h | h | h; · have := hf0 r h; omega
                        · omega
                        · omega)
    ?_ ⟨hI1, .inr (.inl rfl), .inr (.inr rfl), (fun r hf => by rcases hf with h | h | h; · have := hf0 r h; omega
                                                               · omega
                                                               · omega), hL1, hK1⟩).mono ?_
  · -- one round
    rintro pre x f W ⟨hi, hfD, hfL, hlt, hl, hk⟩ hgx hlen
    have hltL := hlt _ hfL
    have hy := run_yield (P := P) (args := encs x) hl (by rw [hrec]; exact hps x)
    rw [hrec] at hy
    obtain ⟨WA, hWA⟩ : ∃ WA, W.alloc (ob x) = WA := ⟨_, rfl⟩
    have hlA : WA.heap[w.heap.size + 1]? = some (.loop (rec .ready none)) := by rw [← hWA]; exact (Below.heap_alloc _ _ _ hltL).trans hl
    have hkA : WA.heap[w.heap.size]? = some (.deferred (some [])) := by rw [← hWA]; exact (Below.heap_alloc _ _ _ (hlt _ hfD)).trans hk
    have hiA : I pre f WA := by rw [← hWA]; exact hI.alloc _ hi
    have hgA : G x f WA := by rw [← hWA]; exact hGa x f W hgx
    have hvA : WA.heap[W.heap.size]? = some (ob x) := by rw [← hWA]; exact World.alloc_heap_new W _
    have hOA : Outside f W f WA := by rw [← hWA]; exact Outside.grown (World.grownBy_alloc W (ob x) none) hlt (fun r e => by cases e)
    have hnv : ¬ f W.heap.size := fun hf => by have := hlt _ hf; omega
    have hltA : w.heap.size + 1 < WA.heap.size := Nat.lt_of_lt_of_le hltL hOA.size
    refine ⟨fn, _, assign, body, hy, roundIn_of_wpIn hfn (hassign _ x W _ ⟨f, hgx⟩ ?_)⟩
    rw [hWA]
    refine ⟨_, run_beginRound hlA (by rw [hrec]), ?_⟩
    obtain ⟨WB, hWB⟩ : ∃ WB, WA.putObj (w.heap.size + 1) (.loop { rec .ready none with state := .busy }) = WB := ⟨_, rfl⟩
    have hl2 : WB.heap[w.heap.size + 1]? = some (.loop { rec .ready none with state := .busy }) := by rw [← hWB]; exact World.putObj_heap_same hltA
    have hk2 : WB.heap[w.heap.size]? = some (.deferred (some [])) := by rw [← hWB]; exact (World.putObj_heap_other (by omega)).trans hkA
    have hO2 : Outside f W f WB := by rw [← hWB]; exact hOA.trans (outside_put _ hOA.lt hfL)
    have hi2 : I pre f WB := by rw [← hWB]; exact hI.put _ hiA (by omega) hlA rfl
    have hg2 : G x f WB := by rw [← hWB]; exact hG x f WA _ _ _ hgA hlA rfl
    have hv2 : WB.heap[W.heap.size]? = some (ob x) := by rw [← hWB]; exact (World.putObj_heap_other (by omega)).trans hvA
    rw [hWB]
    refine wpIn_mono (hbody _ pre x f WB W.heap.size hi2 hg2 hO2.lt hfD hlen hv2 hnv) ?_
    have fin : ∀ (jump : Option Code) (f' : Nat → Prop) (W3 : World), KeepsOthers WB W3 → Outside f WB f' W3 →
        ∃ W4, (Instr.endRound (w.heap.size + 1) jump).run P W3 = .ok (.bool jump.isNone) W4 ∧ W4 = W3.putObj (w.heap.size + 1) (.loop (rec (if jump.isNone then .ready else .done) jump)) ∧
        (∃ o : Obj, W3.heap[w.heap.size + 1]? = some o ∧ o.isCells = false) ∧ f' w.heap.size ∧ f' (w.heap.size + 1) ∧ Outside f W f' W4 ∧
        W4.heap[w.heap.size + 1]? = some (.loop (rec (if jump.isNone then .ready else .done) jump)) ∧ W4.heap[w.heap.size]? = some (.deferred (some [])) := fun jump f' W3 hk3 ho3 => by
      have hl3 := hk3.same _ _ hl2 rfl
      have hrun := run_endRound (P := P) jump hl3
      rw [hrec] at hrun hl3
      refine ⟨W3.putObj (w.heap.size + 1) (.loop (rec (if jump.isNone then .ready else .done) jump)), by rw [hrec]; exact hrun, rfl, ⟨_, hl3, rfl⟩, ho3.more _ hfD, ho3.more _ hfL, hO2.trans (ho3.trans (outside_put _ ho3.lt (ho3.more _ hfL))), ?_, ?_⟩
      · rw [hrec]; exact World.putObj_heap_same (Array.getElem?_eq_some_iff.1 hl3).1
      · exact (World.putObj_heap_other (by omega)).trans (hk3.same _ _ hk2 rfl)
    rintro e a3 W3 hp
    cases e with
    | normal =>
      obtain ⟨hk3, f', ho3, hi3⟩ := hp
      obtain ⟨W4, hr, rfl, ⟨o, hl3, hoc⟩, hD', hL', hO4, hl4, hk4⟩ := fin none f' W3 hk3 ho3
      exact ⟨_, _, hr, .inl ⟨rfl, f', hO4, hI.put _ hi3 (by omega) hl3 hoc, hD', hL', hO4.lt, hl4, hk4⟩⟩
    | ret =>
      obtain ⟨hk3, f', ho3, hi3⟩ := hp
      obtain ⟨W4, hr, rfl, ⟨o, hl3, hoc⟩, hD', hL', hO4, hl4, hk4⟩ := fin (some .ret) f' W3 hk3 ho3
      exact ⟨_, _, hr, .inr ⟨rfl, f', hO4, .ret, hIx _ _ _ _ _ _ _ (by omega) hi3 hl3 hoc, hD', hL', hO4.lt, hl4, hk4⟩⟩
    | exit id =>
      obtain ⟨hk3, f', ho3, hi3⟩ := hp
      obtain ⟨W4, hr, rfl, ⟨o, hl3, hoc⟩, hD', hL', hO4, hl4, hk4⟩ := fin (some (.exit id)) f' W3 hk3 ho3
      exact ⟨_, _, hr, .inr ⟨rfl, f', hO4, .exit id, hIx _ _ _ _ _ _ _ (by omega) hi3 hl3 hoc, hD', hL', hO4.lt, hl4, hk4⟩⟩
    | goto t =>
      obtain ⟨hk3, f', ho3, hi3⟩ := hp
      obtain ⟨W4, hr, rfl, ⟨o, hl3, hoc⟩, hD', hL', hO4, hl4, hk4⟩ := fin (some (.goto t)) f' W3 hk3 ho3
      exact ⟨_, _, hr, .inr ⟨rfl, f', hO4, .goto t, hIx _ _ _ _ _ _ _ (by omega) hi3 hl3 hoc, hD', hL', hO4.lt, hl4, hk4⟩⟩
    | panic ch => exact hp.elim
    | outgrown => exact hp.elim
  · -- behind the iterator
    rintro e W2 ⟨⟨v, rfl⟩, (⟨xs, f', hS, hi, hfD, hfL, hlt, hl, hk⟩ | ⟨pre, f', hSp, c, hi, hfD, hfL, hlt, hl, hk⟩)⟩
    · exact ⟨none, _, by have := run_endLoop (P := P) hl (by rw [hrec]; simp); rw [hrec] at this; exact this, hdone _ xs f' _ (Nat.le_refl _) hS (hI.put _ hi (by omega) hl rfl) ((World.putObj_heap_other (by omega)).trans hk)⟩
    · exact ⟨some c, _, by have := run_endLoop (P := P) hl (by rw [hrec]; simp); rw [hrec] at this; exact this, hstop _ c pre f' _ (Nat.le_refl _) hSp (hIx c _ _ _ _ _ _ (by omega) hi hl rfl) ((World.putObj_heap_other (by omega)).trans hk)⟩

end
end Go.Proofs.Ytciccbbgamklbaa

/-
  make and copy inside a fence.
-/
namespace Go.Proofs.Ytciccbbgamklbaa
open Go.RowKit

theorem wpListIn_make_full {F : Fence} {nn : Nat} {P : Program} (w : World) {ops : Array Oper} {rest : List Oper} {o : Oper} {a : Act} {Q : Exit → Act → World → Prop}
    (hg : o.guard = none) (l c : Operand) (t : TypeId) (hop : o.op = Op.makeSlice t l c)
    (base : Nat) (e : TypeId) (i : TypeInfo) (z : Value) (size : Nat) (h1 : P.underlying t = some (.slice e)) (h2 : P.info? e = some i) (h3 : i.zero = some z) (h4 : i.size = size)
    (kl kc : IntKind) (L C : Int) (n : Nat) (hl : a.eval l = .int kl L) (hc : a.eval c = .int kc C) (hL : L = (n : Int)) (hC : C = (n : Int)) (b2 : i.bytes * n ≤ 281474976710656) (b3 : n ≤ maxLen) (b4 : base ≤ w.heap.size)
    (hK : ∀ w', w'.ownsRow base e size (.slice (some ⟨w.heap.size, 0, none⟩) n n) n (madeCells z.cells (n * size)).toList → w.grownBy w' none → wpListIn F nn P ops Q rest (a.put o.dst (.slice (some ⟨w.heap.size, 0, none⟩) n n)) w') :
    wpListIn F nn P ops Q (o :: rest) a w := by
  refine wpListIn_plain hg fun K hK' => ?_
  obtain ⟨w', hrun, r1, r2⟩ := run_make_full (P := P) w base t e i z size h1 h2 h3 h4 kl kc n b2 b3 b4
  subst hL
  subst hC
  unfold Oper.wpIn
  refine ⟨?_, ?_⟩
  · simp [Oper.about, hop]
  · rw [Oper.semAt_plain F _ _ (by rw [hop]; intro c hc'; cases hc')]
    simp [execOp, hop, hl, hc, hrun, Result.andThen]
    exact hK' _ _ (hK w' r1 r2)

theorem wpListIn_copy_own {F : Fence} {nn : Nat} {P : Program} {w : World} {ops : Array Oper} {rest : List Oper} {o : Oper} {a : Act} {Q : Exit → Act → World → Prop} (hgd : o.guard = none) (d s : Operand) (dT sT : TypeId)
    (ho : o.op = .call { callee := .builtin .copy, args := #[d, s], argTypes := #[dT, sT] }) (elem : TypeId) (hu : P.underlying dT = some (.slice elem)) (hsz : (P.info? elem).map (·.size) = some 1)
    (g off dLen dCap : Nat) (ad : Addr) (sLen sCap : Nat) (hd : a.eval d = .slice (some ⟨g, off, none⟩) dLen dCap) (hs : a.eval s = .slice (some ad) sLen sCap)
    (cur : Array Value) (t : TypeId) (hg : w.heap[g]? = some (.cells cur t (0, 0))) (cs : List Value) (hn : cs.length = Nat.min sLen dLen)
    (hsrc : ∀ j v, cs[j]? = some v → w.cell? (ad.add j) = some v) (hfit : off + cs.length ≤ cur.size) (h1 : ∀ v ∈ cs, v.oneCell' = true)
    (h : wpListIn F nn P ops Q rest (a.put o.dst (goInt cs.length)) (w.setRow g (cur.toList.take off ++ (cs ++ cur.toList.drop (off + cs.length))).toArray)) : wpListIn F nn P ops Q (o :: rest) a w := by
  refine wpListIn_plain hgd fun K hK => ?_
  have hrun := run_copy_row (P := P) w dT sT o.type elem g off dLen dCap ad sLen sCap cur t cs hu hsz hg hn hsrc hfit h1
  unfold Oper.wpIn
  refine ⟨?_, ?_⟩
  · simp [Oper.about, ho, resolve, Target.leads, Sem.run_pure]
  · rw [Oper.semAt_plain F _ _ (by rw [ho]; intro c hc'; cases hc')]
    simp [execOp, ho, resolve, invoke, builtin, hd, hs, hrun, Result.andThen]
    exact hK _ _ h

end Go.Proofs.Ytciccbbgamklbaa
