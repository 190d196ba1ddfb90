/-
  Chapter 10, the program's side: Holds.
-/
import Derived.Test.YtmophdojojcpbaaG49ImplTables
namespace Go.Proofs.Ytmophdojojcpbaa
open Go.RowKit
set_option linter.unusedVariables false
set_option linter.unusedSimpArgs false
set_option maxHeartbeats 4000000
set_option maxRecDepth 20000

theorem isNoRelation (xs : List Int) (v : Value) (w : World) (hl : xs.length ≤ maxLen) (hv : Reads w v (ints xs)) :
    Calls Try.prog 43 #[v] w fun e w' => e = .returned (.bool (!relOk xs)) ∧ Below w.heap.size w w' := by
  have hr := implRelOk xs v w hl hv
  go_enter Try.func43, Try.ntmps43
  go_wp2_with (go_at_call 17; refine hr.mono ?_; rintro e w2 ⟨rfl, b2⟩)
  go_ret
  exact ⟨rfl, b2⟩

theorem indexNo (X : List (List Int)) (v : Value) (w : World) (hl : X.length ≤ maxLen) (hx : ∀ x ∈ X, x.length ≤ maxLen) (hv : ReadsSS w v X) :
    Calls Try.prog 80 #[v, .func (.func 43) #[] #[]] w fun e w' => ∃ r : Int, e = .returned (.int .i64 r) ∧ decide (0 ≤ r) = (!X.all relOk) ∧ Below w.heap.size w w' := by
  have hv0 := hv
  obtain ⟨ao, cap, rfl, hc⟩ := hv
  have hl' : (X.length : Int) ≤ 9223372036854775807 := by unfold maxLen at hl; omega
  go_enter Try.func80, Try.ntmps80
  go_wp2
  go_loopw [8] (fun kv wr => ∃ k : Nat, k ≤ X.length ∧ kv = .int .i64 k ∧ (X.take k).all relOk = true ∧ Below w.heap.size w wr) (fun kv _ => X.length - (intOf kv).toNat)
  case atStart => exact ⟨0, Nat.zero_le _, rfl, by simp, Below.refl _ _⟩
  case round =>
    obtain ⟨k, hk, rfl, hno, B⟩ := hrel
    by_cases hlt : k < X.length
    · have hlt' : (k : Int) < (X.length : Int) := by omega
      obtain ⟨g, off, u, rfl, c0, hu⟩ := hc k X[k] (by simp [hlt])
      have c0 := (B.cell (World.block_lt_of_cell? w _ c0)).trans c0
      have h1 := isNoRelation X[k] u wr (hx _ (List.getElem_mem hlt)) (reads_below hu B)
      obtain ⟨ua, uc, rfl, _⟩ := id hu
      have HN : Hid (∀ b, relOk X[k] = b → (X.take (k + 1)).all relOk = b) := fun b hb => by
        rw [List.take_succ_eq_append_getElem hlt, List.all_append, hno, List.all_cons, hb]; simp
      have HF : Hid (relOk X[k] = false → X.all relOk = false) := fun hb => List.all_eq_false.2 ⟨X[k], List.getElem_mem hlt, by simp [hb]⟩
      clear hc hno hu
      generalize X[k] = q at *
      go_wp2_with fail
      go_at_call 43
      refine h1.mono ?_
      rintro e w2 ⟨rfl, b2⟩
      have L2 := B.trans (b2.mono B.size)
      clear h1
      cases hq : relOk q
      · have HFF : Hid _ := HF.out hq
        clear HN HF hq
        go_wp2
        go_ret
        exact ⟨k, rfl, by rw [HFF.out]; simp, L2⟩
      · have HNN : Hid _ := HN.out _ hq
        clear HN HF hq
        go_wp2
        go_roundw
        case rel => exact ⟨k + 1, by omega, by go_num, HNN.out, L2⟩
        case measure => simp [intOf]; omega
    · have hkk : k = X.length := by omega
      subst hkk
      rw [List.take_length] at hno
      have HNO : Hid _ := hno
      clear hno
      go_wp2
      go_ret
      exact ⟨-1, rfl, by rw [HNO.out]; rfl, B⟩

theorem containsNo (X : List (List Int)) (v : Value) (w : World) (hl : X.length ≤ maxLen) (hx : ∀ x ∈ X, x.length ≤ maxLen) (hv : ReadsSS w v X) :
    Calls Try.prog 42 #[v, .func (.func 43) #[] #[]] w fun e w' => e = .returned (.bool (!X.all relOk)) ∧ Below w.heap.size w w' := by
  have hi := indexNo X v w hl hx hv
  go_enter Try.func42, Try.ntmps42
  go_wp2_with fail
  go_at_call 80
  refine hi.mono ?_
  rintro e w1 ⟨r, rfl, hr, b1⟩
  have HR : Hid _ := hr
  clear hi hr
  go_wp2
  go_ret
  exact ⟨by rw [← HR.out]; simp, b1⟩

theorem wpList_arrayAtL {ops : Array Oper} {rest : List Oper} {d : Option Tmp} {x : Operand} {ty : TypeId} {pos : String} {af : Array Edge} {a : Act} {w : World} {Q : Exit → Act → World → Prop}
    (g off cap : Nat) (hx : a.eval x = .slice (some ⟨g, off, none⟩) 7 cap)
    (h : wpList Try.prog ops Q rest (a.put ({ dst := d, op := .sliceToArrayPointer 59 x, type := ty, pos := pos, after := af, guard := none } : Oper).dst (.pointer (some ⟨g, off, none⟩))) w) : wpList Try.prog ops Q ({ dst := d, op := .sliceToArrayPointer 59 x, type := ty, pos := pos, after := af, guard := none } :: rest) a w :=
  wpList_arrayAt rfl x rfl g off cap hx h

theorem readsSS_at' {w : World} {ao : Option Addr} {n cap : Nat} {T : List (List Int)} (h : ReadsSS w (.slice ao n cap) T) {y : Nat} (hy : y < T.length) : ∃ g off u, ao = some ⟨g, off, none⟩ ∧ w.cell? ⟨g, off + y, none⟩ = some u ∧ Reads w u (ints (T.getD y [])) := by
  obtain ⟨ao', cap', e, hc⟩ := h
  obtain ⟨rfl, -, -⟩ : ao = ao' ∧ n = T.length ∧ cap = cap' := by simpa using e
  obtain ⟨g, off, u, h1, h2, h3⟩ := hc y (T.getD y []) (by simp [List.getD, hy])
  exact ⟨g, off, u, h1, h2, h3⟩

theorem withB_false' {T X : List (List Int)} : ∀ {n k : Nat}, k ≤ n → withB T X k = false → withB T X n = false
  | 0, k, h, e => by
    obtain rfl : k = 0 := by omega
    exact e
  | n + 1, k, h, e => by
    by_cases hk : k = n + 1
    · subst hk; exact e
    · rw [withB, withB_false' (n := n) (by omega) e]; rfl

/-- What tablesIn has in memory. -/
structure TI (w : World) (T : List (List Int)) (wr : World) : Prop where
  z : TabR wr w.heap.size 61 (List.replicate 4 zero7)
  t : TabR wr (w.heap.size + 1) 61 T
  bl : Below w.heap.size w wr

theorem TI.turned {w : World} {T T' : List (List Int)} {wr wr' : World} (h : TI w T wr) (hT : TabR wr' (w.heap.size + 1) 61 T') (hg : wr.grownBy wr' (some (w.heap.size + 1))) : TI w T' wr' :=
  ⟨(hg.block _ (Array.getElem?_eq_some_iff.1 h.z).1 (fun e => by have := Option.some.inj e; omega)).trans h.z, hT, h.bl.grown hg h.bl.size (fun k hk => by cases hk; omega)⟩

theorem tablesIn (X : List (List Int)) (v : Value) (w : World) (hX4 : X.length ≤ 4) (h7 : ∀ k, k < X.length → (X.getD k []).length = 7) (hx : ReadsSS w v X) :
    Calls Try.prog 45 #[v] w fun e w' => ∃ T, e = .returned (tabR T) ∧ Rows7 4 T ∧ (∀ j, j < X.length → T.getD j [] = X.getD j []) ∧ Below w.heap.size w w' := by
  obtain ⟨xo, xc, rfl, hxc⟩ := id hx
  have hX4' : (X.length : Int) ≤ 4 := by omega
  have hz : ∀ w, (zeroValue 61).run Try.prog w = .ok (.agg (ints (List.replicate 4 zero7).flatten).toArray) w := isTab4.zero
  obtain ⟨zs, hzs⟩ : ∃ zs, ints (List.replicate 4 zero7).flatten = zs := ⟨_, rfl⟩
  rw [hzs] at hz
  obtain ⟨w4, hw4⟩ : ∃ z, (w.alloc (.cells zs.toArray 61)).alloc (.cells zs.toArray 61) = z := ⟨_, rfl⟩
  have a1 : (w.alloc (.cells zs.toArray 61)).heap.size = w.heap.size + 1 := by simp
  have Z4 : TabR w4 w.heap.size 61 (List.replicate 4 zero7) := by
    unfold TabR
    rw [← hw4, old_block (by omega), hzs]
    exact heap_alloc_new w (.cells zs.toArray 61)
  have T4 : TabR w4 (w.heap.size + 1) 61 (List.replicate 4 zero7) := by
    unfold TabR
    rw [← hw4, hzs]
    have := heap_alloc_new (w.alloc (.cells zs.toArray 61)) (.cells zs.toArray 61)
    rwa [a1] at this
  have B4 : Below w.heap.size w w4 := by rw [← hw4]; go_grown
  have S0 : TI w (List.replicate 4 zero7) w4 := ⟨Z4, T4, B4⟩
  have HW4 : Hid _ := hw4
  have HL2 : Hid (∀ k, k < X.length → (X.getD k []).length = 7) := h7
  clear hw4 T4 Z4 B4 h7 hxc a1
  go_enter Try.func45, Try.ntmps45
  go_wp2_with fail
  rw [HW4.out]
  clear HW4
  go_loopw [8] (fun kv wr => ∃ (k : Nat) (T : List (List Int)), k ≤ X.length ∧ kv = .int .i64 k ∧ TI w T wr ∧ Rows7 4 T ∧ ∀ j, j < k → T.getD j [] = X.getD j []) (fun kv _ => X.length - (intOf kv).toNat)
  case atStart => exact ⟨0, _, Nat.zero_le _, rfl, S0, Rows7.zero 4, fun j h => absurd h (by omega)⟩
  case round =>
    obtain ⟨k, T, hk, rfl, S, hT, hTX⟩ := hrel
    clear S0
    have HS : Hid _ := S
    have HT : Hid (Rows7 4 T) := hT
    have HTX : Hid (∀ j, j < k → T.getD j [] = X.getD j []) := hTX
    clear hT hTX
    by_cases hlt : k < X.length
    · have hlt' : (k : Int) < (X.length : Int) := by omega
      have hk4 : k < 4 := by omega
      have hk4' : (k : Int) < 4 := by omega
      obtain ⟨gx, ox, ux, rfl, cx, hux⟩ := readsSS_at' (readsSS_below hx S.bl) hlt
      have h7 := HL2.out k hlt
      obtain ⟨g, off, cp, rfl, hrg⟩ := reads_range hux h7
      obtain ⟨r, hr0⟩ : ∃ r, X.getD k [] = r := ⟨_, rfl⟩
      rw [hr0] at h7 hrg
      have Hr : Hid (X.getD k [] = r) := hr0
      have H7 : Hid (r.length = 7) := h7
      have HRG : Hid (wr.rangeAt g off (ints r)) := hrg
      clear S hux h7 hr0 hrg
      go_wp2_with (first
        | ((with_reducible refine wpList_arrayAtL (x := .tmp 14) g off cp ?hx ?_); (case hx => rfl))
        | ((with_reducible refine wpList_loadRelL (x := .tmp 15) g off r ?hx H7.out HRG.out ?_); (case hx => rfl))
        | ((with_reducible refine wpList_storeRowL (x := .tmp 17) (y := .tmp 16) (w.heap.size + 1) k T r ?hx ?hy H7.out HT.out hk4 HS.out.t ?_); (case hx => rfl); (case hy => rfl); intro w5 T5 g5; have S5 : Hid _ := TI.turned HS.out T5 g5; clear T5 g5; refine stop_of ?_))
      unfold Stop
      go_wp2
      go_roundw
      case rel =>
        have hil : k < T.length := by rw [HT.out.1]; exact hk4
        refine ⟨k + 1, _, by omega, by go_num, S5.out, HT.out.set H7.out, fun j hj => ?_⟩
        rw [getD_set hil]
        split
        · rename_i e; subst e; exact Hr.out.symm
        · exact HTX.out j (by omega)
      case measure => simp [intOf]; omega
    · have hkk : k = X.length := by omega
      subst hkk
      clear S
      go_wp2_with (first
        | ((with_reducible refine wpList_loadTabL (x := .tmp 3) isTab4 (w.heap.size + 1) T ?hx HT.out HS.out.t ?_); (case hx => rfl))
        | ((with_reducible refine wpList_storeTabL (x := .tmp 2) (y := .tmp 19) isTab4 w.heap.size (List.replicate 4 zero7) T ?hx ?hy (Rows7.zero 4) HT.out HS.out.z ?_); (case hx => rfl); (case hy => rfl); intro w5 T5 g5; have HT5 : Hid (TabR w5 w.heap.size 61 T) := T5; have G5 : Hid _ := g5; clear T5 g5; refine stop_of ?_))
      unfold Stop
      go_wp2
      refine bodyPost_tabR isTab4 rfl w.heap.size T rfl HT.out HT5.out rfl ⟨T, rfl, HT.out, HTX.out, ?_⟩
      exact HS.out.bl.grown G5.out HS.out.bl.size (fun k hk => by cases hk; omega)

theorem step_storeTabH {op : Oper} {a : Act} {w : World} {K : Act → World → Prop} {Q : Exit → Act → World → Prop} {t t' : TypeId} {n : Nat} (ht : IsTab t n) (hdst : op.dst = none) (x y : Operand) (ho : op.op = .store t x y)
    (G : Nat) (gs hs : List (List Int)) (hx : a.eval x = .pointer (some ⟨G, 0, none⟩)) (hy : a.eval y = tabR hs) (hr : Rows7 n gs) (hr' : Rows7 n hs) (hT : TabR w G t' gs)
    (h : ∀ w', TabR w' G t' hs → w.grownBy w' (some G) → K a w') : op.wp Try.prog a w K Q :=
  wp_store_mid t x y ho G 0 (ints hs.flatten).toArray hx hy (by rw [List.size_toArray, ints_length, hr'.flat]; exact hT.there hr) (by rw [ht.size, List.size_toArray, ints_length, hr'.flat]) (ints_one _)
    (by rw [hdst, List.toList_toArray]; exact h _ (hT.copied hr hr') (grown_setCells7 _ _ _ _))

theorem implHolds (ps : List (List Stm)) (c : Int) (X : List (List Int)) (b : Bool) (hA : HoldA ps c X b) (v xv : Value) (w : World) (hl : ps.length ≤ maxLen) (hp : ∀ p ∈ ps, p.length ≤ maxLen) (hX : X.length ≤ maxLen) (hXx : ∀ x ∈ X, x.length ≤ maxLen) (hv : ReadsP w v ps) (hx : ReadsSS w xv X) :
    Calls Try.prog 11 #[.agg #[v], .int .i64 c, xv] w fun e w' => e = .returned (.bool b) ∧ Below w.heap.size w w' := by
  have b0 : Below w.heap.size w (w.alloc (.cells #[v] 26)) := by go_grown
  have H0 := heap_alloc_new w (.cells #[v] 26)
  have hcs := canSum ps c v _ hl hp (readsP_below hv b0)
  obtain ⟨xo, xc, rfl, hxc⟩ := id hx
  obtain ⟨ao, cap, rfl, hcell⟩ := id hv
  cases hok : okB ps c
  · rw [hok] at hcs
    obtain rfl := hA.2 (by simp [relsB, hok])
    go_enter Try.func11, Try.ntmps11
    go_wp2_with (go_at_call 36; refine hcs.mono ?_; rintro e w2 ⟨rfl, b2⟩)
    go_ret
    exact ⟨rfl, b0.trans (b2.mono b0.size)⟩
  · rw [hok] at hcs
    obtain ⟨hpo, hc, hcp, h4⟩ := okB_parts hok
    by_cases hlen : X.length = ps.length
    · have hlen' : (X.length : Int) = (ps.length : Int) := by omega
      have HL : Hid (X.length = ps.length) := hlen
      have hcon := fun W (hW : Below w.heap.size w W) => containsNo X (.slice xo X.length xc) W hX hXx (readsSS_below hx hW)
      have hz : ∀ w, (zeroValue 61).run Try.prog w = .ok (.agg (ints (List.replicate 4 zero7).flatten).toArray) w := isTab4.zero
      obtain ⟨zs, hzs⟩ : ∃ zs, ints (List.replicate 4 zero7).flatten = zs := ⟨_, rfl⟩
      rw [hzs] at hz
      have HZS : Hid (ints (List.replicate 4 zero7).flatten = zs) := hzs
      clear hlen hzs
      go_enter Try.func11, Try.ntmps11
      go_wp2_with fail
      go_at_call 36
      refine hcs.mono ?_
      rintro e w2 ⟨rfl, b2⟩
      have L2 := b0.trans (b2.mono b0.size)
      have P2 := (b2.block w.heap.size (by simp)).trans H0
      obtain ⟨c2, f2⟩ := one_cell P2
      have HP2 : Hid (w2.heap[w.heap.size]? = some (.cells #[.slice ao ps.length cap] 26 (0, 0))) := P2
      have hcon2 := hcon w2 L2
      clear hcs H0 P2 hcon
      go_wp2_with fail
      go_at_call 42
      refine hcon2.mono ?_
      rintro e w3 ⟨rfl, b3⟩
      have L3 := L2.trans (b3.mono L2.size)
      have HP3 : Hid (w3.heap[w.heap.size]? = some (.cells #[.slice ao ps.length cap] 26 (0, 0))) := (b3.block _ (Array.getElem?_eq_some_iff.1 HP2.out).1).trans HP2.out
      clear hcon2 c2 f2 HP2 hlen' b3
      cases hall : X.all relOk
      · obtain rfl := hA.2 (by simp only [relsB, hall, Bool.and_false])
        clear hall
        go_wp2
        go_ret
        exact ⟨rfl, L3⟩
      · have hrb : relsB ps c X = true := by
          simp only [relsB, hok, hall, Bool.true_and, Bool.and_true, decide_eq_true_eq]
          exact HL.out
        obtain ⟨-, -, hgood, -⟩ := relsB_parts hrb
        obtain ⟨T0, hT0l, hT0, hbe⟩ := hA.1 hrb
        have HBE : Hid _ := hbe
        have hX4 : X.length ≤ 4 := by rw [HL.out]; exact h4
        have hX4' : (X.length : Int) ≤ 4 := by omega
        have HL2 : Hid (∀ k, k < X.length → (X.getD k []).length = 7) := fun k hk => (hgood k (by rw [← HL.out]; exact hk)).1
        have HGOOD : Hid (GoodN ps.length X) := hgood
        have htin := fun Z (hZ : Below w3.heap.size w3 Z) => tablesIn X (.slice xo X.length xc) Z hX4 HL2.out (readsSS_below hx (L3.trans (hZ.mono L3.size)))
        obtain ⟨c3, f3⟩ := one_cell HP3.out
        clear hall hrb hA hbe hgood
        go_wp2_with fail
        refine wp_region_held_drew (S := fun Z => Z.cell? ⟨w.heap.size, 0, none⟩ = some (.slice ao ps.length cap)) (by kernel_rfl) c3 (fun hHeld => ?_)
        refine wpAnyH_take (i := 0) (oi := ?oih0) (v := .agg #[.slice ao ps.length cap]) ?hih0 (by kernel_rfl) (by kernel_rfl) (by kernel_rfl) ?hqh0 ?hyh0 hHeld ?hrh0
        case hih0 =>
          simp only [List.getElem?_toArray, List.getElem?_cons_succ, List.getElem?_cons_zero]
          rfl
        case hqh0 => exact fun _ _ _ h => h
        case hyh0 => exact Or.inl ⟨by kernel_rfl, fun w hSw => by obtain s0 := hSw; go_simp⟩
        try simp only [Act.put, List.setIfInBounds_toArray, List.set_cons_zero, List.set_cons_succ]
        refine wpAnyH_take (i := 1) (oi := ?oih1) (v := .int .i64 c) ?hih1 (by kernel_rfl) (by kernel_rfl) (by kernel_rfl) ?hqh1 ?hyh1 hHeld ?hrh1
        case hih1 =>
          simp only [List.getElem?_toArray, List.getElem?_cons_succ, List.getElem?_cons_zero]
          rfl
        case hqh1 => exact fun _ _ _ h => h
        case hyh1 => exact Or.inl ⟨by kernel_rfl, fun w hSw => by go_simp⟩
        try simp only [Act.put, List.setIfInBounds_toArray, List.set_cons_zero, List.set_cons_succ]
        refine wpAnyH_take (i := 2) (oi := ?oih2) (v := .slice xo X.length xc) ?hih2 (by kernel_rfl) (by kernel_rfl) (by kernel_rfl) ?hqh2 ?hyh2 hHeld ?hrh2
        case hih2 =>
          simp only [List.getElem?_toArray, List.getElem?_cons_succ, List.getElem?_cons_zero]
          rfl
        case hqh2 => exact fun _ _ _ h => h
        case hyh2 => exact Or.inl ⟨by kernel_rfl, fun w hSw => by go_simp⟩
        try simp only [Act.put, List.setIfInBounds_toArray, List.set_cons_zero, List.set_cons_succ]
        refine wpAnyH_ready (rs := [3, 5]) (by kernel_rfl) (by simp) ?_
        refine (AllReadyH.cons (o := ?ooh3) ?hoh3 (fun K hK => ?hkh3) (AllReadyH.cons (o := ?ooh5) ?hoh5 (fun K hK => ?hkh5) AllReadyH.nil))
        case hoh3 =>
          simp only [List.getElem?_toArray, List.getElem?_cons_succ, List.getElem?_cons_zero]
          rfl
        case hoh5 =>
          simp only [List.getElem?_toArray, List.getElem?_cons_succ, List.getElem?_cons_zero]
          rfl
        case hkh3 =>
          go_simp
          go_at_call 45
          refine (htin w3.drew (Below.drew (Below.refl _ _))).mono ?_
          rintro e w4 ⟨T, rfl, hTR, hTX, bq⟩
          have Bw4 : Hid (Below w3.heap.size w3 w4) := Below.trans (Below.drew (Below.refl _ _)) bq
          have HTR : Hid (Rows7 4 T) := hTR
          have HTX : Hid (∀ j, j < X.length → T.getD j [] = X.getD j []) := hTX
          have HTG : Hid (GoodN ps.length T) := fun j hj => by rw [HTX.out j (by rw [HL.out]; exact hj)]; exact HGOOD.out j hj
          clear bq hTR hTX
          try go_wp2_with fail
          refine hK.out _ _ ((Bw4.out.cell (World.block_lt_of_cell? w3 _ c3)).trans c3) (fun hHeld => ?_)
          clear hK K
          try simp only [Act.put, List.setIfInBounds_toArray, List.set_cons_zero, List.set_cons_succ]
          refine wpAnyH_ready (rs := [4, 5]) (by kernel_rfl) (by simp) ?_
          refine (AllReadyH.cons (o := ?ooha4) ?hoha4 (fun K hK => ?hkha4) (AllReadyH.cons (o := ?ooha5) ?hoha5 (fun K hK => ?hkha5) AllReadyH.nil))
          case hoha4 =>
            simp only [List.getElem?_toArray, List.getElem?_cons_succ, List.getElem?_cons_zero]
            rfl
          case hoha5 =>
            simp only [List.getElem?_toArray, List.getElem?_cons_succ, List.getElem?_cons_zero]
            rfl
          case hkha4 =>
            go_simp
            go_at_call 44
            refine (tablesWith ps c T (.slice ao ps.length cap) w4 hc hcp h4 HTR.out HTG.out (readsP_below hv (L3.trans (Bw4.out.mono L3.size)))).mono ?_
            rintro e w6 ⟨R, rfl, hRR, hRI, _, bq⟩
            have Bw6 : Hid (Below w3.heap.size w3 w6) := Bw4.out.trans (bq.mono Bw4.out.size)
            have HRR : Hid (Rows7 4 R) := hRR
            have HRX : Hid (∀ j, j < ps.length → R.getD j [] = T0.getD j []) := fun j hj => round_uniq (round_eq hcp (fun i hi => HTX.out i (by rw [HL.out]; exact hi)) (fun _ _ => rfl) hRI) hT0 hj
            clear bq hRR hRI
            try go_wp2_with fail
            refine hK.out _ _ ((Bw6.out.cell (World.block_lt_of_cell? w3 _ c3)).trans c3) (fun hHeld => ?_)
            clear hK K
            try simp only [Act.put, List.setIfInBounds_toArray, List.set_cons_zero, List.set_cons_succ]
            refine wpAnyH_ready (rs := [5]) (by kernel_rfl) (by simp) ?_
            refine (AllReadyH.cons (o := ?oohaa5) ?hohaa5 (fun K hK => ?hkhaa5) AllReadyH.nil)
            case hohaa5 =>
              simp only [List.getElem?_toArray, List.getElem?_cons_succ, List.getElem?_cons_zero]
              rfl
            case hkhaa5 =>
              obtain ⟨w7, hw⟩ : ∃ z, (w6).alloc (.cells zs.toArray 61) = z := ⟨_, rfl⟩
              have TG : Hid (TabR w7 (w6.heap.size) 61 (List.replicate 4 zero7)) := by
                show TabR _ _ _ _
                rw [← hw, ← HZS.out]; exact tabR_new w6 _ _
              have Bw7 : Hid (Below w3.heap.size w3 w7) := by
                show Below _ _ _
                rw [← hw]; exact Below.alloc Bw6.out Bw6.out.size _
              have zG : w3.heap.size ≤ w6.heap.size := Bw6.out.size
              have HW : Hid _ := hw
              clear hw
              go_simp
              try go_wp2_with fail
              rw [HW.out]
              clear HW
              refine hK.out _ _ ((Bw7.out.cell (World.block_lt_of_cell? w3 _ c3)).trans c3) (fun hHeld => ?_)
              clear hK K
              try simp only [Act.put, List.setIfInBounds_toArray, List.set_cons_zero, List.set_cons_succ]
              refine wpAnyH_ready (rs := [6]) (by kernel_rfl) (by simp) ?_
              refine (AllReadyH.cons (o := ?oohaa6) ?hohaa6 (fun K hK => ?hkhaa6) AllReadyH.nil)
              case hohaa6 =>
                simp only [List.getElem?_toArray, List.getElem?_cons_succ, List.getElem?_cons_zero]
                rfl
              case hkhaa6 =>
                refine step_storeTabH isTab4 rfl (.tmp 7) (.tmp 30) rfl (w6.heap.size) (List.replicate 4 zero7) R rfl rfl (Rows7.zero 4) HRR.out TG.out ?_
                intro w8 T8 g8
                have HT8 : Hid (TabR w8 (w6.heap.size) 61 R) := T8
                have B8 : Hid (Below w3.heap.size w3 w8) := Bw7.out.grown g8 Bw7.out.size (fun q hq => by cases hq; exact zG)
                clear T8 g8
                refine hK.out _ _ ((B8.out.cell (World.block_lt_of_cell? w3 _ c3)).trans c3) (fun hHeld => ?_)
                clear hK K
                try simp only [Act.put, List.setIfInBounds_toArray, List.set_cons_zero, List.set_cons_succ]
                refine wpAnyH_done (by kernel_rfl) ?_ _
                have L8 : Hid (Below w.heap.size w w8) := L3.trans (B8.out.mono L3.size)
                clear htin c3 f3 hz TG
                try go_wp2_with fail
                go_loopw [33] (fun kv wr => ∃ k : Nat, k ≤ X.length ∧ kv = .int .i64 k ∧ withB T0 X k = true ∧ Below w8.heap.size w8 wr) (fun kv _ => X.length - (intOf kv).toNat)
                case atStart => exact ⟨0, Nat.zero_le _, rfl, rfl, Below.refl _ _⟩
                case round =>
                  obtain ⟨k, hk, rfl, hwk, B⟩ := hrel
                  have LB := L8.out.trans (B.mono L8.out.size)
                  by_cases hlt : k < X.length
                  · have hlt' : (k : Int) < (X.length : Int) := by omega
                    have hk4 : k < 4 := by omega
                    have hk4' : (k : Int) < 4 := by omega
                    have hkp : k < ps.length := by have := HL.out; omega
                    obtain ⟨gx, ox, ux, rfl, cx, hux⟩ := readsSS_at' (readsSS_below hx LB) hlt
                    have T9 : TabR wr w6.heap.size 61 R := TabR.below HT8.out B
                    have hrow := T9.row HRR.out hk4
                    have h7 := HRR.out.row hk4
                    rw [HRX.out k hkp] at hrow h7
                    have hX7 := HL2.out k hlt
                    have hwi := implWithin (T0.getD k []) (X.getD k []) (.slice (some ⟨w6.heap.size, k * 7, none⟩) 7 7) ux wr (by rw [h7]; unfold maxLen; omega) (by rw [hX7]; unfold maxLen; omega) ⟨some ⟨w6.heap.size, k * 7, none⟩, 7, by rw [ints_length, h7], fun j x hxj => ⟨_, _, rfl, hrow j x hxj⟩⟩ hux
                    have HW1 : Hid (withB T0 X (k + 1) = withinAns (T0.getD k []) (X.getD k [])) := by
                      show withB T0 X (k + 1) = _
                      rw [withB, hwk]; rfl
                    have HBB : Hid _ := B
                    have HLB : Hid _ := LB
                    obtain ⟨ua, un, uc, rfl⟩ : ∃ a n c, ux = .slice a n c := by obtain ⟨a, c, e, _⟩ := hux; exact ⟨_, _, _, e⟩
                    clear hrow h7 hX7 T9 hux hwk B LB
                    generalize withinAns (T0.getD k []) (X.getD k []) = q at *
                    cases q
                    · go_wp2_with (go_at_call 15; refine hwi.mono ?_; rintro e w9 ⟨rfl, b9⟩)
                      go_ret
                      refine ⟨?_, HLB.out.trans (b9.mono HLB.out.size)⟩
                      have hfin : withB T0 X ps.length = false := withB_false' (k := k + 1) (by omega) HW1.out
                      rw [HBE.out, hfin]
                      rfl
                    · go_wp2_with (go_at_call 15; refine hwi.mono ?_; rintro e w9 ⟨rfl, b9⟩)
                      go_roundw
                      case rel => exact ⟨k + 1, by omega, by go_num, HW1.out, HBB.out.trans (b9.mono HBB.out.size)⟩
                      case measure => simp [intOf]; omega
                  · have hkk : k = X.length := by omega
                    subst hkk
                    have HWK : Hid _ := hwk
                    have HLB : Hid _ := LB
                    clear hwk B LB
                    go_wp2
                    go_ret
                    refine ⟨?_, HLB.out⟩
                    have := HWK.out
                    rw [HL.out] at this
                    rw [HBE.out, this]
                    rfl
          case hkha5 =>
            obtain ⟨w5, hw⟩ : ∃ z, (w4).alloc (.cells zs.toArray 61) = z := ⟨_, rfl⟩
            have TG : Hid (TabR w5 (w4.heap.size) 61 (List.replicate 4 zero7)) := by
              show TabR _ _ _ _
              rw [← hw, ← HZS.out]; exact tabR_new w4 _ _
            have Bw5 : Hid (Below w3.heap.size w3 w5) := by
              show Below _ _ _
              rw [← hw]; exact Below.alloc Bw4.out Bw4.out.size _
            have zG : w3.heap.size ≤ w4.heap.size := Bw4.out.size
            have HW : Hid _ := hw
            clear hw
            go_simp
            try go_wp2_with fail
            rw [HW.out]
            clear HW
            refine hK.out _ _ ((Bw5.out.cell (World.block_lt_of_cell? w3 _ c3)).trans c3) (fun hHeld => ?_)
            clear hK K
            try simp only [Act.put, List.setIfInBounds_toArray, List.set_cons_zero, List.set_cons_succ]
            refine wpAnyH_ready (rs := [4]) (by kernel_rfl) (by simp) ?_
            refine (AllReadyH.cons (o := ?oohab4) ?hohab4 (fun K hK => ?hkhab4) AllReadyH.nil)
            case hohab4 =>
              simp only [List.getElem?_toArray, List.getElem?_cons_succ, List.getElem?_cons_zero]
              rfl
            case hkhab4 =>
              go_simp
              go_at_call 44
              refine (tablesWith ps c T (.slice ao ps.length cap) w5 hc hcp h4 HTR.out HTG.out (readsP_below hv (L3.trans (Bw5.out.mono L3.size)))).mono ?_
              rintro e w6 ⟨R, rfl, hRR, hRI, _, bq⟩
              have Bw6 : Hid (Below w3.heap.size w3 w6) := Bw5.out.trans (bq.mono Bw5.out.size)
              have HRR : Hid (Rows7 4 R) := hRR
              have HRX : Hid (∀ j, j < ps.length → R.getD j [] = T0.getD j []) := fun j hj => round_uniq (round_eq hcp (fun i hi => HTX.out i (by rw [HL.out]; exact hi)) (fun _ _ => rfl) hRI) hT0 hj
              have TG : Hid (TabR w6 (w4.heap.size) 61 (List.replicate 4 zero7)) := TabR.below TG.out bq
              clear bq hRR hRI
              try go_wp2_with fail
              refine hK.out _ _ ((Bw6.out.cell (World.block_lt_of_cell? w3 _ c3)).trans c3) (fun hHeld => ?_)
              clear hK K
              try simp only [Act.put, List.setIfInBounds_toArray, List.set_cons_zero, List.set_cons_succ]
              refine wpAnyH_ready (rs := [6]) (by kernel_rfl) (by simp) ?_
              refine (AllReadyH.cons (o := ?oohab6) ?hohab6 (fun K hK => ?hkhab6) AllReadyH.nil)
              case hohab6 =>
                simp only [List.getElem?_toArray, List.getElem?_cons_succ, List.getElem?_cons_zero]
                rfl
              case hkhab6 =>
                refine step_storeTabH isTab4 rfl (.tmp 7) (.tmp 30) rfl (w4.heap.size) (List.replicate 4 zero7) R rfl rfl (Rows7.zero 4) HRR.out TG.out ?_
                intro w8 T8 g8
                have HT8 : Hid (TabR w8 (w4.heap.size) 61 R) := T8
                have B8 : Hid (Below w3.heap.size w3 w8) := Bw6.out.grown g8 Bw6.out.size (fun q hq => by cases hq; exact zG)
                clear T8 g8
                refine hK.out _ _ ((B8.out.cell (World.block_lt_of_cell? w3 _ c3)).trans c3) (fun hHeld => ?_)
                clear hK K
                try simp only [Act.put, List.setIfInBounds_toArray, List.set_cons_zero, List.set_cons_succ]
                refine wpAnyH_done (by kernel_rfl) ?_ _
                have L8 : Hid (Below w.heap.size w w8) := L3.trans (B8.out.mono L3.size)
                clear htin c3 f3 hz TG
                try go_wp2_with fail
                go_loopw [33] (fun kv wr => ∃ k : Nat, k ≤ X.length ∧ kv = .int .i64 k ∧ withB T0 X k = true ∧ Below w8.heap.size w8 wr) (fun kv _ => X.length - (intOf kv).toNat)
                case atStart => exact ⟨0, Nat.zero_le _, rfl, rfl, Below.refl _ _⟩
                case round =>
                  obtain ⟨k, hk, rfl, hwk, B⟩ := hrel
                  have LB := L8.out.trans (B.mono L8.out.size)
                  by_cases hlt : k < X.length
                  · have hlt' : (k : Int) < (X.length : Int) := by omega
                    have hk4 : k < 4 := by omega
                    have hk4' : (k : Int) < 4 := by omega
                    have hkp : k < ps.length := by have := HL.out; omega
                    obtain ⟨gx, ox, ux, rfl, cx, hux⟩ := readsSS_at' (readsSS_below hx LB) hlt
                    have T9 : TabR wr w4.heap.size 61 R := TabR.below HT8.out B
                    have hrow := T9.row HRR.out hk4
                    have h7 := HRR.out.row hk4
                    rw [HRX.out k hkp] at hrow h7
                    have hX7 := HL2.out k hlt
                    have hwi := implWithin (T0.getD k []) (X.getD k []) (.slice (some ⟨w4.heap.size, k * 7, none⟩) 7 7) ux wr (by rw [h7]; unfold maxLen; omega) (by rw [hX7]; unfold maxLen; omega) ⟨some ⟨w4.heap.size, k * 7, none⟩, 7, by rw [ints_length, h7], fun j x hxj => ⟨_, _, rfl, hrow j x hxj⟩⟩ hux
                    have HW1 : Hid (withB T0 X (k + 1) = withinAns (T0.getD k []) (X.getD k [])) := by
                      show withB T0 X (k + 1) = _
                      rw [withB, hwk]; rfl
                    have HBB : Hid _ := B
                    have HLB : Hid _ := LB
                    obtain ⟨ua, un, uc, rfl⟩ : ∃ a n c, ux = .slice a n c := by obtain ⟨a, c, e, _⟩ := hux; exact ⟨_, _, _, e⟩
                    clear hrow h7 hX7 T9 hux hwk B LB
                    generalize withinAns (T0.getD k []) (X.getD k []) = q at *
                    cases q
                    · go_wp2_with (go_at_call 15; refine hwi.mono ?_; rintro e w9 ⟨rfl, b9⟩)
                      go_ret
                      refine ⟨?_, HLB.out.trans (b9.mono HLB.out.size)⟩
                      have hfin : withB T0 X ps.length = false := withB_false' (k := k + 1) (by omega) HW1.out
                      rw [HBE.out, hfin]
                      rfl
                    · go_wp2_with (go_at_call 15; refine hwi.mono ?_; rintro e w9 ⟨rfl, b9⟩)
                      go_roundw
                      case rel => exact ⟨k + 1, by omega, by go_num, HW1.out, HBB.out.trans (b9.mono HBB.out.size)⟩
                      case measure => simp [intOf]; omega
                  · have hkk : k = X.length := by omega
                    subst hkk
                    have HWK : Hid _ := hwk
                    have HLB : Hid _ := LB
                    clear hwk B LB
                    go_wp2
                    go_ret
                    refine ⟨?_, HLB.out⟩
                    have := HWK.out
                    rw [HL.out] at this
                    rw [HBE.out, this]
                    rfl
        case hkh5 =>
          obtain ⟨w5, hw⟩ : ∃ z, (w3.alloc (.cells zs.toArray 61)).drew = z := ⟨_, rfl⟩
          have TG : Hid (TabR w5 (w3.heap.size) 61 (List.replicate 4 zero7)) := by
            show TabR _ _ _ _
            rw [← hw, ← HZS.out]; exact tabR_new w3 _ _
          have Bw5 : Hid (Below w3.heap.size w3 w5) := by
            show Below _ _ _
            rw [← hw]; exact Below.drew (Below.alloc (Below.refl _ _) (Nat.le_refl _) _)
          have zG : w3.heap.size ≤ w3.heap.size := Nat.le_refl _
          have HW : Hid _ := hw
          clear hw
          go_simp
          try go_wp2_with fail
          rw [HW.out]
          clear HW
          refine hK.out _ _ ((Bw5.out.cell (World.block_lt_of_cell? w3 _ c3)).trans c3) (fun hHeld => ?_)
          clear hK K
          try simp only [Act.put, List.setIfInBounds_toArray, List.set_cons_zero, List.set_cons_succ]
          refine wpAnyH_ready (rs := [3]) (by kernel_rfl) (by simp) ?_
          refine (AllReadyH.cons (o := ?oohb3) ?hohb3 (fun K hK => ?hkhb3) AllReadyH.nil)
          case hohb3 =>
            simp only [List.getElem?_toArray, List.getElem?_cons_succ, List.getElem?_cons_zero]
            rfl
          case hkhb3 =>
            go_simp
            go_at_call 45
            refine (htin w5 Bw5.out).mono ?_
            rintro e w4 ⟨T, rfl, hTR, hTX, bq⟩
            have Bw4 : Hid (Below w3.heap.size w3 w4) := Bw5.out.trans (bq.mono Bw5.out.size)
            have HTR : Hid (Rows7 4 T) := hTR
            have HTX : Hid (∀ j, j < X.length → T.getD j [] = X.getD j []) := hTX
            have HTG : Hid (GoodN ps.length T) := fun j hj => by rw [HTX.out j (by rw [HL.out]; exact hj)]; exact HGOOD.out j hj
            have TG : Hid (TabR w4 (w3.heap.size) 61 (List.replicate 4 zero7)) := TabR.below TG.out bq
            clear bq hTR hTX
            try go_wp2_with fail
            refine hK.out _ _ ((Bw4.out.cell (World.block_lt_of_cell? w3 _ c3)).trans c3) (fun hHeld => ?_)
            clear hK K
            try simp only [Act.put, List.setIfInBounds_toArray, List.set_cons_zero, List.set_cons_succ]
            refine wpAnyH_ready (rs := [4]) (by kernel_rfl) (by simp) ?_
            refine (AllReadyH.cons (o := ?oohb4) ?hohb4 (fun K hK => ?hkhb4) AllReadyH.nil)
            case hohb4 =>
              simp only [List.getElem?_toArray, List.getElem?_cons_succ, List.getElem?_cons_zero]
              rfl
            case hkhb4 =>
              go_simp
              go_at_call 44
              refine (tablesWith ps c T (.slice ao ps.length cap) w4 hc hcp h4 HTR.out HTG.out (readsP_below hv (L3.trans (Bw4.out.mono L3.size)))).mono ?_
              rintro e w6 ⟨R, rfl, hRR, hRI, _, bq⟩
              have Bw6 : Hid (Below w3.heap.size w3 w6) := Bw4.out.trans (bq.mono Bw4.out.size)
              have HRR : Hid (Rows7 4 R) := hRR
              have HRX : Hid (∀ j, j < ps.length → R.getD j [] = T0.getD j []) := fun j hj => round_uniq (round_eq hcp (fun i hi => HTX.out i (by rw [HL.out]; exact hi)) (fun _ _ => rfl) hRI) hT0 hj
              have TG : Hid (TabR w6 (w3.heap.size) 61 (List.replicate 4 zero7)) := TabR.below TG.out bq
              clear bq hRR hRI
              try go_wp2_with fail
              refine hK.out _ _ ((Bw6.out.cell (World.block_lt_of_cell? w3 _ c3)).trans c3) (fun hHeld => ?_)
              clear hK K
              try simp only [Act.put, List.setIfInBounds_toArray, List.set_cons_zero, List.set_cons_succ]
              refine wpAnyH_ready (rs := [6]) (by kernel_rfl) (by simp) ?_
              refine (AllReadyH.cons (o := ?oohb6) ?hohb6 (fun K hK => ?hkhb6) AllReadyH.nil)
              case hohb6 =>
                simp only [List.getElem?_toArray, List.getElem?_cons_succ, List.getElem?_cons_zero]
                rfl
              case hkhb6 =>
                refine step_storeTabH isTab4 rfl (.tmp 7) (.tmp 30) rfl (w3.heap.size) (List.replicate 4 zero7) R rfl rfl (Rows7.zero 4) HRR.out TG.out ?_
                intro w8 T8 g8
                have HT8 : Hid (TabR w8 (w3.heap.size) 61 R) := T8
                have B8 : Hid (Below w3.heap.size w3 w8) := Bw6.out.grown g8 Bw6.out.size (fun q hq => by cases hq; exact zG)
                clear T8 g8
                refine hK.out _ _ ((B8.out.cell (World.block_lt_of_cell? w3 _ c3)).trans c3) (fun hHeld => ?_)
                clear hK K
                try simp only [Act.put, List.setIfInBounds_toArray, List.set_cons_zero, List.set_cons_succ]
                refine wpAnyH_done (by kernel_rfl) ?_ _
                have L8 : Hid (Below w.heap.size w w8) := L3.trans (B8.out.mono L3.size)
                clear htin c3 f3 hz TG
                try go_wp2_with fail
                go_loopw [33] (fun kv wr => ∃ k : Nat, k ≤ X.length ∧ kv = .int .i64 k ∧ withB T0 X k = true ∧ Below w8.heap.size w8 wr) (fun kv _ => X.length - (intOf kv).toNat)
                case atStart => exact ⟨0, Nat.zero_le _, rfl, rfl, Below.refl _ _⟩
                case round =>
                  obtain ⟨k, hk, rfl, hwk, B⟩ := hrel
                  have LB := L8.out.trans (B.mono L8.out.size)
                  by_cases hlt : k < X.length
                  · have hlt' : (k : Int) < (X.length : Int) := by omega
                    have hk4 : k < 4 := by omega
                    have hk4' : (k : Int) < 4 := by omega
                    have hkp : k < ps.length := by have := HL.out; omega
                    obtain ⟨gx, ox, ux, rfl, cx, hux⟩ := readsSS_at' (readsSS_below hx LB) hlt
                    have T9 : TabR wr w3.heap.size 61 R := TabR.below HT8.out B
                    have hrow := T9.row HRR.out hk4
                    have h7 := HRR.out.row hk4
                    rw [HRX.out k hkp] at hrow h7
                    have hX7 := HL2.out k hlt
                    have hwi := implWithin (T0.getD k []) (X.getD k []) (.slice (some ⟨w3.heap.size, k * 7, none⟩) 7 7) ux wr (by rw [h7]; unfold maxLen; omega) (by rw [hX7]; unfold maxLen; omega) ⟨some ⟨w3.heap.size, k * 7, none⟩, 7, by rw [ints_length, h7], fun j x hxj => ⟨_, _, rfl, hrow j x hxj⟩⟩ hux
                    have HW1 : Hid (withB T0 X (k + 1) = withinAns (T0.getD k []) (X.getD k [])) := by
                      show withB T0 X (k + 1) = _
                      rw [withB, hwk]; rfl
                    have HBB : Hid _ := B
                    have HLB : Hid _ := LB
                    obtain ⟨ua, un, uc, rfl⟩ : ∃ a n c, ux = .slice a n c := by obtain ⟨a, c, e, _⟩ := hux; exact ⟨_, _, _, e⟩
                    clear hrow h7 hX7 T9 hux hwk B LB
                    generalize withinAns (T0.getD k []) (X.getD k []) = q at *
                    cases q
                    · go_wp2_with (go_at_call 15; refine hwi.mono ?_; rintro e w9 ⟨rfl, b9⟩)
                      go_ret
                      refine ⟨?_, HLB.out.trans (b9.mono HLB.out.size)⟩
                      have hfin : withB T0 X ps.length = false := withB_false' (k := k + 1) (by omega) HW1.out
                      rw [HBE.out, hfin]
                      rfl
                    · go_wp2_with (go_at_call 15; refine hwi.mono ?_; rintro e w9 ⟨rfl, b9⟩)
                      go_roundw
                      case rel => exact ⟨k + 1, by omega, by go_num, HW1.out, HBB.out.trans (b9.mono HBB.out.size)⟩
                      case measure => simp [intOf]; omega
                  · have hkk : k = X.length := by omega
                    subst hkk
                    have HWK : Hid _ := hwk
                    have HLB : Hid _ := LB
                    clear hwk B LB
                    go_wp2
                    go_ret
                    refine ⟨?_, HLB.out⟩
                    have := HWK.out
                    rw [HL.out] at this
                    rw [HBE.out, this]
                    rfl
    · obtain rfl := hA.2 (by simp [relsB, hlen])
      have hlen' : ¬ (X.length : Int) = (ps.length : Int) := by omega
      go_enter Try.func11, Try.ntmps11
      go_wp2_with fail
      go_at_call 36
      refine hcs.mono ?_
      rintro e w2 ⟨rfl, b2⟩
      obtain ⟨c2, f2⟩ := one_cell ((b2.block w.heap.size (by simp)).trans H0)
      go_wp2
      go_ret
      exact ⟨rfl, b0.trans (b2.mono b0.size)⟩

end Go.Proofs.Ytmophdojojcpbaa
