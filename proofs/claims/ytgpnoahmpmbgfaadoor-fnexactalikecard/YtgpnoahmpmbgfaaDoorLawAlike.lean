/-
  The law FnExactAlike: at every argument Alike answers as the specification, writes into no argument, and its answer owns its memory; the tied card.
-/
import Derived.Test.YtgpnoahmpmbgfaaDoorAlikeI
import Derived.Test.YtgpnoahmpmbgfaaDoorAlikeS
import Derived.Test.YtgpnoahmpmbgfaaDoorTwoProg
import Derived.Test.YtgpnoahmpmbgfaaDoorOpenProc
import Derived.Test.YtgpnoahmpmbgfaaDoorCards
import Derived.Test.YtgpnoahmpmbgfaaDoorTie
import Derived.Deep.RegionHeld
import Derived.LaidMore
import Derived.SevenTiedAt
import Derived.Stop.Joined
namespace Go.Proofs.YtgpnoahmpmbgfaaDoor
open Go.ChangeShapes Go.WideShapes Go.ChangeAt Go.RowKit
set_option linter.unusedVariables false
set_option linter.unusedSimpArgs false
set_option maxHeartbeats 8000000
set_option maxRecDepth 20000

/-- The boxes of both Programs that came in. -/
structure LP2 (w : World) (v u : Value) (W : World) : Prop where
  p : W.heap[w.heap.size]? = some (.cells #[v] 24 (0, 0))
  q : W.heap[w.heap.size + 1]? = some (.cells #[u] 24 (0, 0))
  below : Below w.heap.size w W
  size : w.heap.size + 2 ≤ W.heap.size

theorem LP2.kept {w : World} {v u : Value} {W W' : World} {B : Nat} (h : LP2 w v u W) (hb : Below B W W') (hB : w.heap.size + 2 ≤ B) : LP2 w v u W' :=
  ⟨(hb.block _ (by omega)).trans h.p, (hb.block _ (by omega)).trans h.q, h.below.trans (hb.mono (by omega)), Nat.le_trans h.size hb.size⟩

theorem LP2.marks {w : World} {v u : Value} {W W' : World} {base top : Nat} (h : LP2 w v u W) (hm : Marks base top W W') (hB : w.heap.size + 2 ≤ base) : LP2 w v u W' :=
  ⟨(hm.out _ (by have := h.size; omega) (.inl (by omega))).trans h.p, (hm.out _ (by have := h.size; omega) (.inl (by omega))).trans h.q, h.below.trans (hm.below (by omega) (by have := h.size; omega)), Nat.le_trans h.size hm.size⟩

theorem ownP_marksA {w w' : World} {base top b t : Nat} {v : Value} {ps : List (List Stm)} (h : OwnP w b t v ps) (hm : Marks base top w w') (hd : t ≤ base ∨ top ≤ b) : OwnP w' b t v ps := by
  obtain ⟨us, ho, ht, hu⟩ := h
  have key : ∀ {x : Value} {e : TypeId} {s n : Nat} {xs : List Value}, w.ownsRow b e s x n xs → (∀ k, x.ownBlock = some k → k < t) → w'.ownsRow b e s x n xs := fun hx hk => own_marks hx hm (fun k hkk => by
    rcases hd with hd | hd
    · exact .inl (by have := hk k hkk; omega)
    · exact .inr (by have := (hx.lt k hkk).1; omega))
  exact ⟨us, key ho ht, ht, fun j u p h1 h2 => ⟨key (hu j u p h1 h2).1 (hu j u p h1 h2).2, (hu j u p h1 h2).2⟩⟩

theorem own_form2 {w : World} {base : Nat} {e : TypeId} {v : Value} {n : Nat} {xs : List Value} (h : w.ownsRow base e 2 v n xs) : ∃ a m c, v = .slice a m c := own_slice h

theorem walkAlike (ps1 ps2 : List (List Stm)) (v u : Value) (w : World) (hla : ps1.length ≤ maxLen) (hpa : ∀ p ∈ ps1, p.length ≤ maxLen) (hlb : ps2.length ≤ maxLen) (hpb : ∀ p ∈ ps2, p.length ≤ maxLen) (hv : ReadsP w v ps1) (hu : ReadsP w u ps2) :
    Calls Tryd.prog 5 #[.agg #[v], .agg #[u]] w fun r w' => r = .returned (.bool true) ∧ Below w.heap.size w w' := by
  have hsp := fun x y W hx hy => specAlike ps1 ps2 x y W hla hpa hlb hpb hx hy
  have him := fun x y W hx hy => implAlike ps1 ps2 x y W hla hpa hlb hpb hx hy
  obtain ⟨nn, hnA, hn16⟩ := alikeA_len ps1 ps2
  obtain ⟨A, hA⟩ : ∃ A, alikeA ps1 ps2 = A := ⟨_, rfl⟩
  rw [hA] at hsp him hnA
  clear hA
  have hrow : ∀ {W : World} {b : Nat} {y : Value}, OwnPl W b y A → W.ownsRow b 61 2 y nn (ints A) := by
    intro W b y h
    obtain ⟨n, h1, h2⟩ := h.ex
    obtain rfl : n = nn := by omega
    exact h2
  obtain ⟨W0, hW0⟩ : ∃ W0, (w.alloc (.cells #[v] 24)).alloc (.cells #[u] 24) = W0 := ⟨_, rfl⟩
  have L0 : LP2 w v u W0 := by
    rw [← hW0]
    refine ⟨(old_block (by simp)).trans (heap_alloc_new w _), ?_, by go_grown, by simp⟩
    have := heap_alloc_new (w.alloc (.cells #[v] 24)) (.cells #[u] 24)
    simpa using this
  have hsz := szProgram2 ps1 1048576 v W0 (by omega) (by omega) hla hpa (readsP_below hv L0.below)
  obtain ⟨p0, _⟩ := one_cell L0.p
  have hcm : Hid _ := hW0
  go_enter Tryd.func5, Tryd.ntmps5
  go_wp2_with fail
  go_at_call 6
  refine hsz.mono ?_
  rintro r w1 ⟨z, rfl, hz, hz9, b1⟩
  have L1 := L0.kept b1 L0.size
  have HL1 : Hid (LP2 w v u w1) := L1
  clear hsz hW0 hcm p0 L0 b1
  by_cases h0 : z < 0
  · have hx : (decide (z < 0)) = true := by simpa using h0
    have HB : Hid _ := L1.below
    clear hz hsp him L1
    go_wp2
    go_ret
    exact ⟨rfl, HB.out⟩
  have hx : (decide (z < 0)) = false := by simpa using h0
  obtain ⟨hla', hpa'⟩ := hz (by omega)
  have hsz2 := szProgram2 ps2 z u w1 (by omega) hz9 hlb hpb (readsP_below hu L1.below)
  obtain ⟨q0, _⟩ := one_cell L1.q
  clear hz L1
  go_wp2_with fail
  go_at_call 6
  refine hsz2.mono ?_
  rintro r w2 ⟨z2, rfl, hz2, hz29, b2⟩
  have HL2 : Hid (LP2 w v u w2) := HL1.out.kept b2 HL1.out.size
  clear hsz2 q0 b2
  by_cases h02 : z2 < 0
  · have hx2 : (decide (z2 < 0)) = true := by simpa using h02
    clear hz2 hsp him
    go_wp2
    go_ret
    exact ⟨rfl, HL2.out.below⟩
  have hx2 : (decide (z2 < 0)) = false := by simpa using h02
  obtain ⟨hlb', hpb'⟩ := hz2 (by omega)
  have htp := fun W hW => toProgram ps1 v W hla' hpa' hW
  have htq := fun W hW => toProgram ps2 u W hlb' hpb' hW
  clear hz2
  obtain ⟨p0, -⟩ := one_cell HL2.out.p
  obtain ⟨q0, -⟩ := one_cell HL2.out.q
  have lP : w.heap.size < w2.heap.size := by have := HL2.out.size; omega
  have lQ : w.heap.size + 1 < w2.heap.size := by have := HL2.out.size; omega
  go_wp2_with fail
  refine wp_region_held_drew (S := fun w' => w'.cell? ⟨w.heap.size, 0, none⟩ = some v ∧ w'.cell? ⟨w.heap.size + 1, 0, none⟩ = some u) (by kernel_rfl) ⟨p0, q0⟩ (fun hHeld => ?_)
  refine wpAnyH_take (i := 0) (oi := ?oita0) (v := .agg #[v]) ?hita0 (by kernel_rfl) (by kernel_rfl) (by kernel_rfl) ?hqta0 ?hyta0 hHeld ?hrta0
  case hita0 =>
    simp only [List.getElem?_toArray, List.getElem?_cons_succ, List.getElem?_cons_zero]
    rfl
  case hqta0 => exact fun _ _ _ h => h
  case hyta0 => exact Or.inl ⟨by kernel_rfl, fun w hSw => by obtain ⟨s0, s1⟩ := hSw; go_simp⟩
  try simp only [Act.put, List.setIfInBounds_toArray, List.set_cons_zero, List.set_cons_succ]
  refine wpAnyH_take (i := 2) (oi := ?oita2) (v := .agg #[u]) ?hita2 (by kernel_rfl) (by kernel_rfl) (by kernel_rfl) ?hqta2 ?hyta2 hHeld ?hrta2
  case hita2 =>
    simp only [List.getElem?_toArray, List.getElem?_cons_succ, List.getElem?_cons_zero]
    rfl
  case hqta2 => exact fun _ _ _ h => h
  case hyta2 => exact Or.inl ⟨by kernel_rfl, fun w hSw => by obtain ⟨s0, s1⟩ := hSw; go_simp⟩
  try simp only [Act.put, List.setIfInBounds_toArray, List.set_cons_zero, List.set_cons_succ]
  refine wpAnyH_ready (rs := [1]) (by kernel_rfl) (by simp) ?_
  refine (AllReadyH.cons (o := ?oota1) ?hota1 (fun K hK => ?hkta1) AllReadyH.nil)
  case hota1 =>
    simp only [List.getElem?_toArray, List.getElem?_cons_succ, List.getElem?_cons_zero]
    rfl
  case hkta1 =>
    go_simp
    go_at_call 8
    refine (htp _ (readsP_below hv (HL2.out.below.drew))).mono ?_
    rintro r ea ⟨x, rfl, ox, ba⟩
    have Ba : Hid (Below w2.heap.size w2 ea) := Below.trans (Below.drew (Below.refl _ _)) ba
    have RX : Hid (ReadsP ea x ps1) := readsP_own ox
    obtain ⟨xa, xm, xc, rfl⟩ := ownP_slice ox
    clear ox ba
    try go_wp2_with fail
    refine hK.out _ _ ⟨(Ba.out.cell lP).trans p0, (Ba.out.cell lQ).trans q0⟩ (fun hHeld => ?_)
    clear hK K
    try simp only [Act.put, List.setIfInBounds_toArray, List.set_cons_zero, List.set_cons_succ]
    refine wpAnyH_ready (rs := [3]) (by kernel_rfl) (by simp) ?_
    refine (AllReadyH.cons (o := ?oota3) ?hota3 (fun K hK => ?hkta3) AllReadyH.nil)
    case hota3 =>
      simp only [List.getElem?_toArray, List.getElem?_cons_succ, List.getElem?_cons_zero]
      rfl
    case hkta3 =>
      go_simp
      go_at_call 8
      refine (htq _ (readsP_below hu (HL2.out.below.trans (Ba.out.mono (by have := HL2.out.size; omega))))).mono ?_
      rintro r eb ⟨y, rfl, oy, bb⟩
      have Bb : Hid (Below w2.heap.size w2 eb) := Ba.out.trans (bb.mono Ba.out.size)
      have RX2 : Hid (ReadsP eb (.slice xa xm xc) ps1) := readsP_below RX.out bb
      have RY : Hid (ReadsP eb y ps2) := readsP_own oy
      obtain ⟨ya, ym, yc, rfl⟩ := ownP_slice oy
      clear oy bb
      try go_wp2_with fail
      refine hK.out _ _ ⟨(Bb.out.cell lP).trans p0, (Bb.out.cell lQ).trans q0⟩ (fun hHeld => ?_)
      clear hK K
      try simp only [Act.put, List.setIfInBounds_toArray, List.set_cons_zero, List.set_cons_succ]
      refine wpAnyH_ready (rs := [4]) (by kernel_rfl) (by simp) ?_
      refine (AllReadyH.cons (o := ?oota4) ?hota4 (fun K hK => ?hkta4) AllReadyH.nil)
      case hota4 =>
        simp only [List.getElem?_toArray, List.getElem?_cons_succ, List.getElem?_cons_zero]
        rfl
      case hkta4 =>
        go_simp
        go_at_call 13
        refine (hsp _ _ _ RX2.out RY.out).mono ?_
        rintro r ec ⟨y9, rfl, oy9, bc⟩
        have Bc : Hid (Below w2.heap.size w2 ec) := Bb.out.trans (bc.mono Bb.out.size)
        have OW9 := hrow oy9
        obtain ⟨aa9, am9, ac9, rfl⟩ := own_slice OW9
        have HW9 : Hid (ec.ownsRow w2.heap.size 61 2 (.slice aa9 am9 ac9) nn (ints A)) := own_mono OW9 Bb.out.size
        clear oy9 bc OW9
        try go_wp2_with fail
        refine hK.out _ _ ⟨(Bc.out.cell lP).trans p0, (Bc.out.cell lQ).trans q0⟩ (fun hHeld => ?_)
        clear hK K
        try simp only [Act.put, List.setIfInBounds_toArray, List.set_cons_zero, List.set_cons_succ]
        refine wpAnyH_take (i := 5) (oi := ?oita5) (v := .slice aa9 am9 ac9) ?hita5 (by kernel_rfl) (by kernel_rfl) (by kernel_rfl) ?hqta5 ?hyta5 hHeld ?hrta5
        case hita5 =>
          simp only [List.getElem?_toArray, List.getElem?_cons_succ, List.getElem?_cons_zero]
          rfl
        case hqta5 => exact fun _ _ _ h => h
        case hyta5 => exact Or.inl ⟨by kernel_rfl, fun w hSw => by go_simp⟩
        try simp only [Act.put, List.setIfInBounds_toArray, List.set_cons_zero, List.set_cons_succ]
        refine wpAnyH_done (by kernel_rfl) ?_ _
        obtain ⟨w3, hw3⟩ : ∃ w3, w3 = ec := ⟨_, rfl⟩
        subst hw3
        obtain ⟨bA, hbA⟩ : ∃ n, w2.heap.size = n := ⟨_, rfl⟩
        have HA3 : Hid (w3.ownsRow bA 61 2 (.slice aa9 am9 ac9) nn (ints A)) := by rw [← hbA]; exact HW9.out
        have b3 : Below w2.heap.size w2 w3 := Bc.out
        have HL3 : Hid (LP2 w v u w3) := HL2.out.kept b3 HL2.out.size
        have hbAw : w.heap.size + 2 ≤ bA := by rw [← hbA]; exact HL2.out.size
        clear hbA b3 Ba Bb Bc RX RX2 RY HW9 p0 q0 lP lQ
        generalize aa9 = aa at *
        generalize am9 = am at *
        generalize ac9 = ac at *
        obtain ⟨tA, htA⟩ : ∃ n, w3.heap.size = n := ⟨_, rfl⟩
        have HTA : Hid (w3.heap.size = tA) := htA
        have alt : Hid (∀ k, (Value.slice aa am ac).ownBlock = some k → k < tA) := fun k hk => by rw [← htA]; exact (World.ownsRow.lt HA3.out k hk).2
        have hbtA : bA ≤ tA ∨ True := .inr trivial
        have hwtA : w.heap.size + 2 ≤ tA := by rw [← htA]; exact HL3.out.size
        clear htA hbtA
        obtain ⟨p0, -⟩ := one_cell HL3.out.p
        go_wp2_with fail
        go_at_call 8
        refine (htp _ (readsP_below hv HL3.out.below)).mono ?_
        rintro r w4 ⟨x, rfl, ox, b4⟩
        obtain ⟨xa, xm, xc, rfl⟩ := ownP_slice ox
        have HL4 : Hid (LP2 w v u w4) := HL3.out.kept b4 HL3.out.size
        have HA4 : Hid (w4.ownsRow bA 61 2 (.slice aa am ac) nn (ints A)) := own_kept HA3.out b4
        have OX4 : Hid (OwnP w4 tA w4.heap.size (.slice xa xm xc) ps1) := by have h := ox; rw [HTA.out] at h; exact h
        have z4 : Hid (tA ≤ w4.heap.size) := by have h := b4.size; rw [HTA.out] at h; exact h
        clear p0 ox b4
        obtain ⟨w5, hw5⟩ : ∃ w5, w4.alloc (.cells #[.slice xa xm xc] 29) = w5 := ⟨_, rfl⟩
        have b5 : Below w4.heap.size w4 w5 := by rw [← hw5]; go_grown
        have s5 : w5.heap.size = w4.heap.size + 1 := by rw [← hw5]; simp
        obtain ⟨tX, htX⟩ : ∃ n, w4.heap.size = n := ⟨_, rfl⟩
        have BX5 : Hid (w5.heap[tX]? = some (.cells #[.slice xa xm xc] 29 (0, 0))) := by
          show w5.heap[tX]? = _
          rw [← hw5, ← htX]; exact heap_alloc_new w4 _
        have HL5 : Hid (LP2 w v u w5) := HL4.out.kept b5 HL4.out.size
        have HA5 : Hid (w5.ownsRow bA 61 2 (.slice aa am ac) nn (ints A)) := own_kept HA4.out b5
        have OX5 : Hid (OwnP w5 tA tX (.slice xa xm xc) ps1) := by rw [← htX]; exact ownP_kept OX4.out b5
        have hAX : tA ≤ tX := by rw [← htX]; exact z4.out
        have HS5 : Hid (w5.heap.size = tX + 1) := by rw [← htX]; exact s5
        clear b5 s5 OX4 z4
        obtain ⟨q0, -⟩ := one_cell HL5.out.q
        go_wp2_with fail
        go_at_call 8
        clear hw5 htX
        refine (htq _ (readsP_below hu HL5.out.below)).mono ?_
        rintro r w6 ⟨y, rfl, oy, b6⟩
        obtain ⟨ya, ym, yc, rfl⟩ := ownP_slice oy
        obtain ⟨nX, hnX⟩ : ∃ n, n = tA := ⟨_, rfl⟩
        have OX5 : Hid (OwnP w5 nX tX (.slice xa xm xc) ps1) := by rw [hnX]; exact OX5.out
        have HHX : Hid (nX = tA ∧ True) := ⟨hnX, trivial⟩
        clear hnX
        have HL6 : Hid (LP2 w v u w6) := HL5.out.kept b6 HL5.out.size
        have HA6 : Hid (w6.ownsRow bA 61 2 (.slice aa am ac) nn (ints A)) := own_kept HA5.out b6
        have BX6 : Hid (w6.heap[tX]? = some (.cells #[.slice xa xm xc] 29 (0, 0))) := (b6.block _ (Array.getElem?_eq_some_iff.1 BX5.out).1).trans BX5.out
        have OX6 : Hid (OwnP w6 nX tX (.slice xa xm xc) ps1) := ownP_kept OX5.out b6
        have OY6 : Hid (OwnP w6 (tX + 1) w6.heap.size (.slice ya ym yc) ps2) := by have h := oy; rw [HS5.out] at h; exact h
        have z6 : Hid (tX + 1 ≤ w6.heap.size) := by have h := b6.size; rw [HS5.out] at h; exact h
        clear q0 oy b6
        obtain ⟨w7, hw7⟩ : ∃ w7, w6.alloc (.cells #[.slice ya ym yc] 29) = w7 := ⟨_, rfl⟩
        have b7 : Below w6.heap.size w6 w7 := by rw [← hw7]; go_grown
        have s7 : w7.heap.size = w6.heap.size + 1 := by rw [← hw7]; simp
        obtain ⟨tY, htY⟩ : ∃ n, w6.heap.size = n := ⟨_, rfl⟩
        have BY7 : Hid (w7.heap[tY]? = some (.cells #[.slice ya ym yc] 29 (0, 0))) := by
          show w7.heap[tY]? = _
          rw [← hw7, ← htY]; exact heap_alloc_new w6 _
        have HL7 : Hid (LP2 w v u w7) := HL6.out.kept b7 HL6.out.size
        have HA7 : Hid (w7.ownsRow bA 61 2 (.slice aa am ac) nn (ints A)) := own_kept HA6.out b7
        have BX7 : Hid (w7.heap[tX]? = some (.cells #[.slice xa xm xc] 29 (0, 0))) := (b7.block _ (Array.getElem?_eq_some_iff.1 BX6.out).1).trans BX6.out
        have OX7 : Hid (OwnP w7 nX tX (.slice xa xm xc) ps1) := ownP_kept OX6.out b7
        have OY7 : Hid (OwnP w7 (tX + 1) tY (.slice ya ym yc) ps2) := by rw [← htY]; exact ownP_kept OY6.out b7
        have hXY : tX + 1 ≤ tY := by rw [← htY]; exact z6.out
        have HS7 : Hid (w7.heap.size = tY + 1) := by rw [← htY]; exact s7
        obtain ⟨nY, hnY⟩ : ∃ n, n = tX + 1 := ⟨_, rfl⟩
        have OY7 : Hid (OwnP w7 nY tY (.slice ya ym yc) ps2) := by rw [hnY]; exact OY7.out
        have HHY : Hid (nY = tX + 1 ∧ True) := ⟨hnY, trivial⟩
        clear b7 s7 OY6 z6 hnY
        obtain ⟨cX, -⟩ := one_cell BX7.out
        obtain ⟨cY, -⟩ := one_cell BY7.out
        have him7 := him _ _ _ (readsP_own OX7.out) (readsP_own OY7.out)
        go_wp2_with fail
        go_at_call 14
        clear hw7 htY
        refine him7.mono ?_
        rintro r w8 ⟨g, rfl, og, b8⟩
        have og := hrow og
        obtain ⟨ga, gm, gc, rfl⟩ := own_slice og
        have HL8 : Hid (LP2 w v u w8) := HL7.out.kept b8 HL7.out.size
        have HA8 : Hid (w8.ownsRow bA 61 2 (.slice aa am ac) nn (ints A)) := own_kept HA7.out b8
        have BX8 : Hid (w8.heap[tX]? = some (.cells #[.slice xa xm xc] 29 (0, 0))) := (b8.block _ (Array.getElem?_eq_some_iff.1 BX7.out).1).trans BX7.out
        have OX8 : Hid (OwnP w8 nX tX (.slice xa xm xc) ps1) := ownP_kept OX7.out b8
        have BY8 : Hid (w8.heap[tY]? = some (.cells #[.slice ya ym yc] 29 (0, 0))) := (b8.block _ (Array.getElem?_eq_some_iff.1 BY7.out).1).trans BY7.out
        have OY8 : Hid (OwnP w8 nY tY (.slice ya ym yc) ps2) := ownP_kept OY7.out b8
        obtain ⟨bG, hbG⟩ : ∃ n, n = tY + 1 := ⟨_, rfl⟩
        have HG8 : Hid (w8.ownsRow bG 61 2 (.slice ga gm gc) nn (ints A)) := by have h := og; rw [HS7.out] at h; rw [hbG]; exact h
        have HHG : Hid (bG = tY + 1) := hbG
        have hzG : bG ≤ w8.heap.size := by have h := b8.size; rw [HS7.out] at h; rw [hbG]; exact h
        clear him7 cX cY og b8 hbG
        go_wp2_with fail
        go_at_call 15
        refine (eqPlaceS nn A _ _ _ hnA (by omega) (reads2_own HG8.out) (reads2_own HA8.out)).mono ?_
        rintro r w9 ⟨rfl, b9⟩
        have HL9 : Hid (LP2 w v u w9) := HL8.out.kept b9 HL8.out.size
        have HA9 : Hid (w9.ownsRow bA 61 2 (.slice aa am ac) nn (ints A)) := own_kept HA8.out b9
        have BX9 : Hid (w9.heap[tX]? = some (.cells #[.slice xa xm xc] 29 (0, 0))) := (b9.block _ (Array.getElem?_eq_some_iff.1 BX8.out).1).trans BX8.out
        have OX9 : Hid (OwnP w9 nX tX (.slice xa xm xc) ps1) := ownP_kept OX8.out b9
        have BY9 : Hid (w9.heap[tY]? = some (.cells #[.slice ya ym yc] 29 (0, 0))) := (b9.block _ (Array.getElem?_eq_some_iff.1 BY8.out).1).trans BY8.out
        have OY9 : Hid (OwnP w9 nY tY (.slice ya ym yc) ps2) := ownP_kept OY8.out b9
        have HG9 : Hid (w9.ownsRow bG 61 2 (.slice ga gm gc) nn (ints A)) := own_kept HG8.out b9
        have hzG9 : bG ≤ w9.heap.size := Nat.le_trans hzG b9.size
        clear b9 hzG
        obtain ⟨p0, -⟩ := one_cell HL9.out.p
        obtain ⟨cX, -⟩ := one_cell BX9.out
        have lP10 : w.heap.size < w9.heap.size := (Array.getElem?_eq_some_iff.1 HL9.out.p).1
        have lX10 : tX < w9.heap.size := (Array.getElem?_eq_some_iff.1 BX9.out).1
        go_wp2_with fail
        refine wp_region_held_drew (S := fun w' => w'.cell? ⟨w.heap.size, 0, none⟩ = some v ∧ w'.cell? ⟨tX, 0, none⟩ = some (.slice xa xm xc)) (by kernel_rfl) ⟨p0, cX⟩ (fun hHeld => ?_)
        refine wpAnyH_take (i := 0) (oi := ?oira0) (v := .agg #[.slice xa xm xc]) ?hira0 (by kernel_rfl) (by kernel_rfl) (by kernel_rfl) ?hqra0 ?hyra0 hHeld ?hrra0
        case hira0 =>
          simp only [List.getElem?_toArray, List.getElem?_cons_succ, List.getElem?_cons_zero]
          rfl
        case hqra0 => exact fun _ _ _ h => h
        case hyra0 => exact Or.inl ⟨by kernel_rfl, fun w hSw => by obtain ⟨s0, s1⟩ := hSw; go_simp⟩
        try simp only [Act.put, List.setIfInBounds_toArray, List.set_cons_zero, List.set_cons_succ]
        refine wpAnyH_take (i := 1) (oi := ?oira1) (v := .agg #[v]) ?hira1 (by kernel_rfl) (by kernel_rfl) (by kernel_rfl) ?hqra1 ?hyra1 hHeld ?hrra1
        case hira1 =>
          simp only [List.getElem?_toArray, List.getElem?_cons_succ, List.getElem?_cons_zero]
          rfl
        case hqra1 => exact fun _ _ _ h => h
        case hyra1 => exact Or.inl ⟨by kernel_rfl, fun w hSw => by obtain ⟨s0, s1⟩ := hSw; go_simp⟩
        try simp only [Act.put, List.setIfInBounds_toArray, List.set_cons_zero, List.set_cons_succ]
        refine wpAnyH_ready (rs := [2]) (by kernel_rfl) (by simp) ?_
        refine (AllReadyH.cons (o := ?oora2) ?hora2 (fun K hK => ?hkra2) AllReadyH.nil)
        case hora2 =>
          simp only [List.getElem?_toArray, List.getElem?_cons_succ, List.getElem?_cons_zero]
          rfl
        case hkra2 =>
          go_simp
          go_at_call 8
          refine (htp _ (readsP_below hv HL9.out.below.drew)).mono ?_
          rintro r wq ⟨yq, rfl, oyq, bq⟩
          have Bq : Hid (Below w9.heap.size w9 wq) := Below.trans (Below.drew (Below.refl _ _)) bq
          have OYq : Hid _ := readsP_own oyq
          clear oyq bq
          try go_wp2_with fail
          refine hK.out _ _ ⟨(Bq.out.cell lP10).trans p0, (Bq.out.cell lX10).trans cX⟩ (fun hHeld => ?_)
          clear hK K
          try simp only [Act.put, List.setIfInBounds_toArray, List.set_cons_zero, List.set_cons_succ]
          refine wpAnyH_ready (rs := [3]) (by kernel_rfl) (by simp) ?_
          refine (AllReadyH.cons (o := ?oora3) ?hora3 (fun K hK => ?hkra3) AllReadyH.nil)
          case hora3 =>
            simp only [List.getElem?_toArray, List.getElem?_cons_succ, List.getElem?_cons_zero]
            rfl
          case hkra3 =>
            go_simp
            go_at_call 10
            refine (eqProgram ps1 _ _ wq hla hpa (readsP_own (ownP_kept OX9.out Bq.out)) OYq.out).mono ?_
            rintro r w10 ⟨rfl, bq'⟩
            have Bn : Hid (Below w9.heap.size w9 w10) := Bq.out.trans (bq'.mono Bq.out.size)
            try go_wp2_with fail
            refine hK.out _ _ ⟨(Bn.out.cell lP10).trans p0, (Bn.out.cell lX10).trans cX⟩ (fun hHeld => ?_)
            clear hK K
            try simp only [Act.put, List.setIfInBounds_toArray, List.set_cons_zero, List.set_cons_succ]
            refine wpAnyH_take (i := 4) (oi := ?oira4) (v := .bool false) ?hira4 (by kernel_rfl) (by kernel_rfl) (by kernel_rfl) ?hqra4 ?hyra4 hHeld ?hrra4
            case hira4 =>
              simp only [List.getElem?_toArray, List.getElem?_cons_succ, List.getElem?_cons_zero]
              rfl
            case hqra4 => exact fun _ _ _ h => h
            case hyra4 => exact Or.inl ⟨by kernel_rfl, fun w hSw => by go_simp⟩
            try simp only [Act.put, List.setIfInBounds_toArray, List.set_cons_zero, List.set_cons_succ]
            refine wpAnyH_done (by kernel_rfl) ?_ _
            have HL10 : Hid (LP2 w v u w10) := HL9.out.kept Bn.out HL9.out.size
            have HA10 : Hid (w10.ownsRow bA 61 2 (.slice aa am ac) nn (ints A)) := own_kept HA9.out Bn.out
            have BX10 : Hid (w10.heap[tX]? = some (.cells #[.slice xa xm xc] 29 (0, 0))) := (Bn.out.block _ (Array.getElem?_eq_some_iff.1 BX9.out).1).trans BX9.out
            have OX10 : Hid (OwnP w10 nX tX (.slice xa xm xc) ps1) := ownP_kept OX9.out Bn.out
            have BY10 : Hid (w10.heap[tY]? = some (.cells #[.slice ya ym yc] 29 (0, 0))) := (Bn.out.block _ (Array.getElem?_eq_some_iff.1 BY9.out).1).trans BY9.out
            have OY10 : Hid (OwnP w10 nY tY (.slice ya ym yc) ps2) := ownP_kept OY9.out Bn.out
            have HG10 : Hid (w10.ownsRow bG 61 2 (.slice ga gm gc) nn (ints A)) := own_kept HG9.out Bn.out
            have hzG10 : bG ≤ w10.heap.size := Nat.le_trans hzG9 Bn.out.size
            clear bq' Bq Bn OYq p0 cX lP10 lX10
            obtain ⟨p0, -⟩ := one_cell HL10.out.q
            obtain ⟨cX, -⟩ := one_cell BY10.out
            have lP10 : w.heap.size + 1 < w10.heap.size := (Array.getElem?_eq_some_iff.1 HL10.out.q).1
            have lX10 : tY < w10.heap.size := (Array.getElem?_eq_some_iff.1 BY10.out).1
            go_wp2_with fail
            refine wp_region_held_drew (S := fun w' => w'.cell? ⟨w.heap.size + 1, 0, none⟩ = some u ∧ w'.cell? ⟨tY, 0, none⟩ = some (.slice ya ym yc)) (by kernel_rfl) ⟨p0, cX⟩ (fun hHeld => ?_)
            refine wpAnyH_take (i := 0) (oi := ?oirb0) (v := .agg #[.slice ya ym yc]) ?hirb0 (by kernel_rfl) (by kernel_rfl) (by kernel_rfl) ?hqrb0 ?hyrb0 hHeld ?hrrb0
            case hirb0 =>
              simp only [List.getElem?_toArray, List.getElem?_cons_succ, List.getElem?_cons_zero]
              rfl
            case hqrb0 => exact fun _ _ _ h => h
            case hyrb0 => exact Or.inl ⟨by kernel_rfl, fun w hSw => by obtain ⟨s0, s1⟩ := hSw; go_simp⟩
            try simp only [Act.put, List.setIfInBounds_toArray, List.set_cons_zero, List.set_cons_succ]
            refine wpAnyH_take (i := 1) (oi := ?oirb1) (v := .agg #[u]) ?hirb1 (by kernel_rfl) (by kernel_rfl) (by kernel_rfl) ?hqrb1 ?hyrb1 hHeld ?hrrb1
            case hirb1 =>
              simp only [List.getElem?_toArray, List.getElem?_cons_succ, List.getElem?_cons_zero]
              rfl
            case hqrb1 => exact fun _ _ _ h => h
            case hyrb1 => exact Or.inl ⟨by kernel_rfl, fun w hSw => by obtain ⟨s0, s1⟩ := hSw; go_simp⟩
            try simp only [Act.put, List.setIfInBounds_toArray, List.set_cons_zero, List.set_cons_succ]
            refine wpAnyH_ready (rs := [2]) (by kernel_rfl) (by simp) ?_
            refine (AllReadyH.cons (o := ?oorb2) ?horb2 (fun K hK => ?hkrb2) AllReadyH.nil)
            case horb2 =>
              simp only [List.getElem?_toArray, List.getElem?_cons_succ, List.getElem?_cons_zero]
              rfl
            case hkrb2 =>
              go_simp
              go_at_call 8
              refine (htq _ (readsP_below hu HL10.out.below.drew)).mono ?_
              rintro r wq ⟨yq, rfl, oyq, bq⟩
              have Bq : Hid (Below w10.heap.size w10 wq) := Below.trans (Below.drew (Below.refl _ _)) bq
              have OYq : Hid _ := readsP_own oyq
              clear oyq bq
              try go_wp2_with fail
              refine hK.out _ _ ⟨(Bq.out.cell lP10).trans p0, (Bq.out.cell lX10).trans cX⟩ (fun hHeld => ?_)
              clear hK K
              try simp only [Act.put, List.setIfInBounds_toArray, List.set_cons_zero, List.set_cons_succ]
              refine wpAnyH_ready (rs := [3]) (by kernel_rfl) (by simp) ?_
              refine (AllReadyH.cons (o := ?oorb3) ?horb3 (fun K hK => ?hkrb3) AllReadyH.nil)
              case horb3 =>
                simp only [List.getElem?_toArray, List.getElem?_cons_succ, List.getElem?_cons_zero]
                rfl
              case hkrb3 =>
                go_simp
                go_at_call 10
                refine (eqProgram ps2 _ _ wq hlb hpb (readsP_own (ownP_kept OY10.out Bq.out)) OYq.out).mono ?_
                rintro r w11 ⟨rfl, bq'⟩
                have Bn : Hid (Below w10.heap.size w10 w11) := Bq.out.trans (bq'.mono Bq.out.size)
                try go_wp2_with fail
                refine hK.out _ _ ⟨(Bn.out.cell lP10).trans p0, (Bn.out.cell lX10).trans cX⟩ (fun hHeld => ?_)
                clear hK K
                try simp only [Act.put, List.setIfInBounds_toArray, List.set_cons_zero, List.set_cons_succ]
                refine wpAnyH_take (i := 4) (oi := ?oirb4) (v := .bool false) ?hirb4 (by kernel_rfl) (by kernel_rfl) (by kernel_rfl) ?hqrb4 ?hyrb4 hHeld ?hrrb4
                case hirb4 =>
                  simp only [List.getElem?_toArray, List.getElem?_cons_succ, List.getElem?_cons_zero]
                  rfl
                case hqrb4 => exact fun _ _ _ h => h
                case hyrb4 => exact Or.inl ⟨by kernel_rfl, fun w hSw => by go_simp⟩
                try simp only [Act.put, List.setIfInBounds_toArray, List.set_cons_zero, List.set_cons_succ]
                refine wpAnyH_done (by kernel_rfl) ?_ _
                have HL11 : Hid (LP2 w v u w11) := HL10.out.kept Bn.out HL10.out.size
                have HA11 : Hid (w11.ownsRow bA 61 2 (.slice aa am ac) nn (ints A)) := own_kept HA10.out Bn.out
                have BX11 : Hid (w11.heap[tX]? = some (.cells #[.slice xa xm xc] 29 (0, 0))) := (Bn.out.block _ (Array.getElem?_eq_some_iff.1 BX10.out).1).trans BX10.out
                have OX11 : Hid (OwnP w11 nX tX (.slice xa xm xc) ps1) := ownP_kept OX10.out Bn.out
                have BY11 : Hid (w11.heap[tY]? = some (.cells #[.slice ya ym yc] 29 (0, 0))) := (Bn.out.block _ (Array.getElem?_eq_some_iff.1 BY10.out).1).trans BY10.out
                have OY11 : Hid (OwnP w11 nY tY (.slice ya ym yc) ps2) := ownP_kept OY10.out Bn.out
                have HG11 : Hid (w11.ownsRow bG 61 2 (.slice ga gm gc) nn (ints A)) := own_kept HG10.out Bn.out
                have hzG11 : bG ≤ w11.heap.size := Nat.le_trans hzG10 Bn.out.size
                clear bq' Bq Bn OYq p0 cX lP10 lX10
                obtain ⟨e1, e2⟩ := HHX.out
                obtain ⟨e3, e4⟩ := HHY.out
                have e5 := HHG.out
                have e6 : nX ≤ tX := by omega
                have e7 : tX < nY := by omega
                have e8 : nY ≤ tY := by omega
                have e9 : tY < bG := by omega
                have f1 : w.heap.size + 2 ≤ nX := by omega
                have HF : Hid (tA ≤ nX) := by rw [e1]; exact Nat.le_refl _
                clear e1 e2 e3 e4 e5
                obtain ⟨cX, -⟩ := one_cell BX11.out
                go_wp2_with fail
                go_at_call 16
                refine (markProgramR ps1 _ nX tX w11 hla' hpa' OX11.out).mono ?_
                rintro r w12 ⟨r0, rfl, hr0, m12⟩
                have HL12 : Hid (LP2 w v u w12) := LP2.marks HL11.out m12 (by omega)
                have HA12 : Hid (w12.ownsRow bA 61 2 (.slice aa am ac) nn (ints A)) := own_marks HA11.out m12 (fun k hk => .inl (by have := alt.out k hk; have := HF.out; omega))
                have HG12 : Hid (w12.ownsRow bG 61 2 (.slice ga gm gc) nn (ints A)) := own_marks HG11.out m12 (fun k hk => .inr (by have := (World.ownsRow.lt HG11.out k hk).1; omega))
                have BY12 : Hid (w12.heap[tY]? = some (.cells #[.slice ya ym yc] 29 (0, 0))) := (m12.out _ (Array.getElem?_eq_some_iff.1 BY11.out).1 (.inr (by omega))).trans BY11.out
                have OY12 : Hid (OwnP w12 nY tY (.slice ya ym yc) ps2) := ownP_marksA OY11.out m12 (.inr (by omega))
                have hzG12 : bG ≤ w12.heap.size := Nat.le_trans hzG11 m12.size
                clear cX m12
                obtain ⟨cY, -⟩ := one_cell BY12.out
                go_wp2_with fail
                go_at_call 16
                refine (markProgram2 ps2 r0 _ nY tY w12 hr0.1 (by omega) hlb' hpb' OY12.out).mono ?_
                rintro r w13 ⟨r1, rfl, hr1, m13⟩
                have HL13 : Hid (LP2 w v u w13) := LP2.marks HL12.out m13 (by omega)
                have HA13 : Hid (w13.ownsRow bA 61 2 (.slice aa am ac) nn (ints A)) := own_marks HA12.out m13 (fun k hk => .inl (by have := alt.out k hk; have := HF.out; omega))
                have HG13 : Hid (w13.ownsRow bG 61 2 (.slice ga gm gc) nn (ints A)) := own_marks HG12.out m13 (fun k hk => .inr (by have := (World.ownsRow.lt HG12.out k hk).1; omega))
                have hzG13 : bG ≤ w13.heap.size := Nat.le_trans hzG12 m13.size
                clear cY m13
                have hk0 : (decide (r1 < 0)) = false := by simp; omega
                go_wp2_with fail
                go_at_call 15
                refine (eqPlaceS nn A _ _ _ hnA (by omega) (reads2_own HG13.out) (reads2_own HA13.out)).mono ?_
                rintro r w14 ⟨rfl, b14⟩
                have HL14 : Hid (LP2 w v u w14) := HL13.out.kept b14 HL13.out.size
                have HA14 : Hid (w14.ownsRow bA 61 2 (.slice aa am ac) nn (ints A)) := own_kept HA13.out b14
                have HG14 : Hid (w14.ownsRow bG 61 2 (.slice ga gm gc) nn (ints A)) := own_kept HG13.out b14
                have hzG14 : bG ≤ w14.heap.size := Nat.le_trans hzG13 b14.size
                clear b14
                have hmk := markPlaceS nn (ints A) (.slice ga gm gc) bG 1 w14 (by rw [ints_length]; exact hnA) (by omega) (by omega) (by omega) hzG14 HG14.out
                go_wp2_with fail
                go_at_call 17
                refine hmk.mono ?_
                rintro r w15 ⟨rfl, og15, b15, _⟩
                have HL15 : Hid (LP2 w v u w15) := HL14.out.kept b15 (by omega)
                have HA15 : Hid (w15.ownsRow bA 61 2 (.slice aa am ac) nn (ints A)) := own_below HA14.out b15 (fun k hk => by have := alt.out k hk; have := HF.out; omega)
                have HG15 : Hid _ := og15
                clear hmk og15 b15
                go_wp2_with fail
                go_at_call 18
                refine (heldPlaceS nn _ 1 w15 (by omega) (by omega) (by omega) (reads2_own HG15.out)).mono ?_
                rintro r w16 ⟨rfl, b16⟩
                have HL16 : Hid (LP2 w v u w16) := HL15.out.kept b16 HL15.out.size
                have HA16 : Hid (w16.ownsRow bA 61 2 (.slice aa am ac) nn (ints A)) := own_kept HA15.out b16
                have HG16 : Hid _ := own_kept HG15.out b16
                have hq0 : (decide ((1 : Int) + 2 * (nn : Int) < 0)) = false := by simp; omega
                clear b16
                obtain ⟨p0, -⟩ := one_cell HL16.out.p
                obtain ⟨q0, -⟩ := one_cell HL16.out.q
                have lP : w.heap.size < w16.heap.size := by have := HL16.out.size; omega
                have lQ : w.heap.size + 1 < w16.heap.size := by have := HL16.out.size; omega
                go_wp2_with fail
                refine wp_region_held_drew (S := fun w' => w'.cell? ⟨w.heap.size, 0, none⟩ = some v ∧ w'.cell? ⟨w.heap.size + 1, 0, none⟩ = some u) (by kernel_rfl) ⟨p0, q0⟩ (fun hHeld => ?_)
                refine wpAnyH_take (i := 0) (oi := ?oitb0) (v := .agg #[v]) ?hitb0 (by kernel_rfl) (by kernel_rfl) (by kernel_rfl) ?hqtb0 ?hytb0 hHeld ?hrtb0
                case hitb0 =>
                  simp only [List.getElem?_toArray, List.getElem?_cons_succ, List.getElem?_cons_zero]
                  rfl
                case hqtb0 => exact fun _ _ _ h => h
                case hytb0 => exact Or.inl ⟨by kernel_rfl, fun w hSw => by obtain ⟨s0, s1⟩ := hSw; go_simp⟩
                try simp only [Act.put, List.setIfInBounds_toArray, List.set_cons_zero, List.set_cons_succ]
                refine wpAnyH_take (i := 2) (oi := ?oitb2) (v := .agg #[u]) ?hitb2 (by kernel_rfl) (by kernel_rfl) (by kernel_rfl) ?hqtb2 ?hytb2 hHeld ?hrtb2
                case hitb2 =>
                  simp only [List.getElem?_toArray, List.getElem?_cons_succ, List.getElem?_cons_zero]
                  rfl
                case hqtb2 => exact fun _ _ _ h => h
                case hytb2 => exact Or.inl ⟨by kernel_rfl, fun w hSw => by obtain ⟨s0, s1⟩ := hSw; go_simp⟩
                try simp only [Act.put, List.setIfInBounds_toArray, List.set_cons_zero, List.set_cons_succ]
                refine wpAnyH_ready (rs := [1]) (by kernel_rfl) (by simp) ?_
                refine (AllReadyH.cons (o := ?ootb1) ?hotb1 (fun K hK => ?hktb1) AllReadyH.nil)
                case hotb1 =>
                  simp only [List.getElem?_toArray, List.getElem?_cons_succ, List.getElem?_cons_zero]
                  rfl
                case hktb1 =>
                  go_simp
                  go_at_call 8
                  refine (htp _ (readsP_below hv (HL16.out.below.drew))).mono ?_
                  rintro r fa ⟨x, rfl, ox, ba⟩
                  have Ba : Hid (Below w16.heap.size w16 fa) := Below.trans (Below.drew (Below.refl _ _)) ba
                  have RX : Hid (ReadsP fa x ps1) := readsP_own ox
                  obtain ⟨xa, xm, xc, rfl⟩ := ownP_slice ox
                  clear ox ba
                  try go_wp2_with fail
                  refine hK.out _ _ ⟨(Ba.out.cell lP).trans p0, (Ba.out.cell lQ).trans q0⟩ (fun hHeld => ?_)
                  clear hK K
                  try simp only [Act.put, List.setIfInBounds_toArray, List.set_cons_zero, List.set_cons_succ]
                  refine wpAnyH_ready (rs := [3]) (by kernel_rfl) (by simp) ?_
                  refine (AllReadyH.cons (o := ?ootb3) ?hotb3 (fun K hK => ?hktb3) AllReadyH.nil)
                  case hotb3 =>
                    simp only [List.getElem?_toArray, List.getElem?_cons_succ, List.getElem?_cons_zero]
                    rfl
                  case hktb3 =>
                    go_simp
                    go_at_call 8
                    refine (htq _ (readsP_below hu (HL16.out.below.trans (Ba.out.mono (by have := HL16.out.size; omega))))).mono ?_
                    rintro r fb ⟨y, rfl, oy, bb⟩
                    have Bb : Hid (Below w16.heap.size w16 fb) := Ba.out.trans (bb.mono Ba.out.size)
                    have RX2 : Hid (ReadsP fb (.slice xa xm xc) ps1) := readsP_below RX.out bb
                    have RY : Hid (ReadsP fb y ps2) := readsP_own oy
                    obtain ⟨ya, ym, yc, rfl⟩ := ownP_slice oy
                    clear oy bb
                    try go_wp2_with fail
                    refine hK.out _ _ ⟨(Bb.out.cell lP).trans p0, (Bb.out.cell lQ).trans q0⟩ (fun hHeld => ?_)
                    clear hK K
                    try simp only [Act.put, List.setIfInBounds_toArray, List.set_cons_zero, List.set_cons_succ]
                    refine wpAnyH_ready (rs := [4]) (by kernel_rfl) (by simp) ?_
                    refine (AllReadyH.cons (o := ?ootb4) ?hotb4 (fun K hK => ?hktb4) AllReadyH.nil)
                    case hotb4 =>
                      simp only [List.getElem?_toArray, List.getElem?_cons_succ, List.getElem?_cons_zero]
                      rfl
                    case hktb4 =>
                      go_simp
                      go_at_call 14
                      refine (him _ _ _ RX2.out RY.out).mono ?_
                      rintro r fc ⟨y9, rfl, oy9, bc⟩
                      have Bc : Hid (Below w16.heap.size w16 fc) := Bb.out.trans (bc.mono Bb.out.size)
                      have OW9 := hrow oy9
                      obtain ⟨aa9, am9, ac9, rfl⟩ := own_slice OW9
                      have HW9 : Hid (fc.ownsRow w16.heap.size 61 2 (.slice aa9 am9 ac9) nn (ints A)) := own_mono OW9 Bb.out.size
                      clear oy9 bc OW9
                      try go_wp2_with fail
                      refine hK.out _ _ ⟨(Bc.out.cell lP).trans p0, (Bc.out.cell lQ).trans q0⟩ (fun hHeld => ?_)
                      clear hK K
                      try simp only [Act.put, List.setIfInBounds_toArray, List.set_cons_zero, List.set_cons_succ]
                      refine wpAnyH_take (i := 5) (oi := ?oitb5) (v := .slice aa9 am9 ac9) ?hitb5 (by kernel_rfl) (by kernel_rfl) (by kernel_rfl) ?hqtb5 ?hytb5 hHeld ?hrtb5
                      case hitb5 =>
                        simp only [List.getElem?_toArray, List.getElem?_cons_succ, List.getElem?_cons_zero]
                        rfl
                      case hqtb5 => exact fun _ _ _ h => h
                      case hytb5 => exact Or.inl ⟨by kernel_rfl, fun w hSw => by go_simp⟩
                      try simp only [Act.put, List.setIfInBounds_toArray, List.set_cons_zero, List.set_cons_succ]
                      refine wpAnyH_done (by kernel_rfl) ?_ _
                      obtain ⟨w17, hw17⟩ : ∃ w17, w17 = fc := ⟨_, rfl⟩
                      subst hw17
                      have HL17 : Hid (LP2 w v u w17) := HL16.out.kept Bc.out HL16.out.size
                      have HA17 : Hid (w17.ownsRow bA 61 2 (.slice aa am ac) nn (ints A)) := own_kept HA16.out Bc.out
                      have HG17 : Hid _ := own_kept HG16.out Bc.out
                      have HH17 : Hid _ := HW9.out
                      clear Ba Bb Bc RX RX2 RY HW9 p0 q0 lP lQ
                      go_wp2_with fail
                      go_at_call 15
                      refine (eqPlaceS nn A _ _ _ hnA (by omega) (reads2_own HH17.out) (reads2_own HA17.out)).mono ?_
                      rintro r w18 ⟨rfl, b18⟩
                      have HL18 : Hid (LP2 w v u w18) := HL17.out.kept b18 HL17.out.size
                      have HG18 : Hid _ := own_kept HG17.out b18
                      clear b18
                      go_wp2_with fail
                      go_at_call 18
                      refine (heldPlaceS nn _ 1 w18 (by omega) (by omega) (by omega) (reads2_own HG18.out)).mono ?_
                      rintro r w19 ⟨rfl, b19⟩
                      have HL19 : Hid (LP2 w v u w19) := HL18.out.kept b19 HL18.out.size
                      clear b19
                      go_wp2
                      go_ret
                      exact ⟨rfl, HL19.out.below⟩

theorem doorMetAlike (os : Os) (args : Array Value) : laidMetH Tryd.prog Rows.fnExactAlikeRow.laid ((World.doorLaid Tryd.prog 4000 os).forCall (fun _ _ => 0) ⟨#[], args, []⟩).memory :=
  laidMetH_of_parts3 (fuel := 8) (laidMet_of_run' 8 (by kernel_rfl) (by kernel_rfl)) (by kernel_rfl) (by kernel_rfl)

set_option maxRecDepth 100000 in
theorem liftedAlike (os : Os) (started : os.Started) (H : Type) (enc : TypeId × Value → H) :
    ReturnsInHanded {} Tryd.checked os 5 .any (fun w args => (Rows.fnExactAlikeSpec.pre enc Tryd.prog Tryd.f5 [] false w args ∧ laidMetH Tryd.prog Rows.fnExactAlikeRow.laid w) ∧ sizedMet enc Tryd.prog Tryd.f5 (OpenSpec.ofChange Rows.fnExactAlikeSpec) false w args)
      (Rows.fnExactAlikeSpec.post enc Tryd.prog Tryd.f5 false true false false) := by
  refine returnsInHanded_of_change_and (C := Tryd.checked) (X := fun w _ => laidMetH Tryd.prog Rows.fnExactAlikeRow.laid w) (fun _ _ _ hh h => h.of_heap hh) own started (by kernel_rfl) Tryd.func5
    (ChangeSpec.witness_shaped (enc := enc) (C := Tryd.checked) (os := os) (X := fun w _ => laidMetH Tryd.prog Rows.fnExactAlikeRow.laid w) false (World.doorLaid Tryd.prog 4000 os) #[.agg #[.slice none 0 0], .agg #[.slice none 0 0]] 8 rfl (World.shaped_of_RefB (by kernel_rfl) (by kernel_rfl)) (by kernel_rfl) (by kernel_rfl) (by kernel_rfl) (doorMetAlike os _)) ?_
  intro W base args ds gs before hval0 hW _ _ hL _
  have hval : ∀ (j : Nat) t v, Tryd.f5.params[j]? = some t → args[j]? = some v → Value.okWide Tryd.prog W .any base t v := hval0
  have hW' := hW
  obtain ⟨p, q, hA0, hV, rfl, hfz, hnd⟩ := hW
  have hA : DataW.TrodAll enc Tryd.prog W 0 (fun _ => true) true Tryd.f5.params.toList args.toList ds p := hA0
  rw [Tryd.params5] at hA hval
  obtain ⟨v0, vs0, d0, ds0, p0, q0, hargs, rfl, rfl, h0, r0⟩ := trodAll_cons hA
  obtain ⟨v1, vs1, d1, ds1, p1, q1, rfl, rfl, rfl, h1, r1⟩ := trodAll_cons r0
  obtain ⟨rfl, rfl, rfl⟩ := trodAll_nil r1
  obtain rfl : args = #[v0, v1] := by cases args; simp_all
  obtain ⟨rfl, rfl⟩ := trodVars_none hV
  obtain ⟨v, ps, rfl, hr, hl, hq⟩ := open_program (hval 0 24 v0 rfl rfl) h0
  obtain ⟨u, ps2, rfl, hr2, hl2, hq2⟩ := open_program (hval 1 24 v1 rfl rfl) h1
  refine (walkAlike ps ps2 v u W hl hq hl2 hq2 hr hr2).mono fun e W' ⟨he, hb⟩ => ?_
  subst he
  refine ⟨_, rfl, law_post (tb := 4) laidOut ?_ hW' rfl Tryd.underlying4 rfl rfl hb⟩
  exact all_readable (P := Tryd.prog) (by kernel_rfl)

theorem overAlike : Rows.FnExactAlikeSaid :=
  OpenClaim.holds_of_wide 5 Tryd.f5 rfl rfl rfl rfl rfl rfl rfl ⟨rfl, rfl, rfl, rfl, rfl⟩ rfl rfl rfl rfl rfl (by kernel_rfl) Tryd.func5 (by kernel_rfl)
    (of_decide_eq_true (by kernel_rfl)) (by unfold Func.isWrapper; first | (rw [if_pos (by decide +kernel)]; kernel_rfl) | (rw [if_neg (by decide +kernel)]; exact ⟨rfl, rfl⟩))
    (fun os started H enc _ => liftedAlike os started H enc)

/-- ████ THE STATEMENT: the tied card ████ -/
theorem alikeHolds : Rows.FnExactAlikeCardSaid :=
  Claim7.holds_tied_plain_at .later [] [.data, .data, .data] true Rows.fnExactAlikeCard.stood.harness false
    overAlike (fun _ h => by cases h) (by kernel_rfl) (fun _ h => by cases h) fnExactAlike_row_tie rfl ⟨rfl, rfl⟩ (by kernel_rfl) rfl
    (fun f fn hf hfn => by
      obtain rfl : f = 5 := Option.some.inj ((show Tryd.prog.funcNamed Rows.fnExactAlikeRow.func = some 5 by kernel_rfl).symm.trans hf) |>.symm
      obtain rfl : fn = Tryd.f5 := (Option.some.inj (Tryd.func5.symm.trans hfn)).symm
      exact ⟨by kernel_rfl, fun j t ht => by
        rw [Tryd.params5] at ht
        rcases j with _ | _ | j
        · have h3 : t = 24 := by simpa using ht.symm
          subst h3
          exact (show Tryd.prog.wantsStandIn 24 = false by kernel_rfl)
        · have h3 : t = 24 := by simpa using ht.symm
          subst h3
          exact (show Tryd.prog.wantsStandIn 24 = false by kernel_rfl)
        · simp at ht⟩)
    (by kernel_rfl)
#print axioms alikeHolds

end Go.Proofs.YtgpnoahmpmbgfaaDoor
