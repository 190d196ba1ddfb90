/-
  Chapter 10, the program's side: Holds.
-/
import Derived.Test.YtgandekciocalaaImplTop
namespace Go.Proofs.Ytgandekciocalaa
open Go.RowKit
set_option linter.unusedVariables false
set_option linter.unusedSimpArgs false
set_option maxHeartbeats 4000000
set_option maxRecDepth 20000

theorem isNoRelation (xs : List Int) (v : Value) (w : World) (hl : xs.length ≤ maxLen) (hv : Reads w v (ints xs)) :
    Calls Try.prog 37 #[v] w fun e w' => e = .returned (.bool (!relOk xs)) ∧ Below w.heap.size w w' := by
  have hr := implRelOk xs v w hl hv
  go_enter Try.func37, Try.ntmps37
  go_wp2_with (go_at_call 15; refine hr.mono ?_; rintro e w2 ⟨rfl, b2⟩)
  go_ret
  exact ⟨rfl, b2⟩

theorem indexNo (X : List (List Int)) (v : Value) (w : World) (hl : X.length ≤ maxLen) (hx : ∀ x ∈ X, x.length ≤ maxLen) (hv : ReadsSS w v X) :
    Calls Try.prog 68 #[v, .func (.func 37) #[] #[]] w fun e w' => ∃ r : Int, e = .returned (.int .i64 r) ∧ decide (0 ≤ r) = (!X.all relOk) ∧ Below w.heap.size w w' := by
  have hv0 := hv
  obtain ⟨ao, cap, rfl, hc⟩ := hv
  have hl' : (X.length : Int) ≤ 9223372036854775807 := by unfold maxLen at hl; omega
  go_enter Try.func68, Try.ntmps68
  go_wp2
  go_loopw [8] (fun kv wr => ∃ k : Nat, k ≤ X.length ∧ kv = .int .i64 k ∧ (X.take k).all relOk = true ∧ Below w.heap.size w wr) (fun kv _ => X.length - (intOf kv).toNat)
  case atStart => exact ⟨0, Nat.zero_le _, rfl, by simp, Below.refl _ _⟩
  case round =>
    obtain ⟨k, hk, rfl, hno, B⟩ := hrel
    by_cases hlt : k < X.length
    · have hlt' : (k : Int) < (X.length : Int) := by omega
      obtain ⟨g, off, u, rfl, c0, hu⟩ := hc k X[k] (by simp [hlt])
      have c0 := (B.cell (World.block_lt_of_cell? w _ c0)).trans c0
      have h1 := isNoRelation X[k] u wr (hx _ (List.getElem_mem hlt)) (reads_below hu B)
      obtain ⟨ua, uc, rfl, _⟩ := id hu
      have HN : Hid (∀ b, relOk X[k] = b → (X.take (k + 1)).all relOk = b) := fun b hb => by
        rw [List.take_succ_eq_append_getElem hlt, List.all_append, hno, List.all_cons, hb]; simp
      have HF : Hid (relOk X[k] = false → X.all relOk = false) := fun hb => List.all_eq_false.2 ⟨X[k], List.getElem_mem hlt, by simp [hb]⟩
      clear hc hno hu
      generalize X[k] = q at *
      go_wp2_with fail
      go_at_call 37
      refine h1.mono ?_
      rintro e w2 ⟨rfl, b2⟩
      have L2 := B.trans (b2.mono B.size)
      clear h1
      cases hq : relOk q
      · have HFF : Hid _ := HF.out hq
        clear HN HF hq
        go_wp2
        go_ret
        exact ⟨k, rfl, by rw [HFF.out]; simp, L2⟩
      · have HNN : Hid _ := HN.out _ hq
        clear HN HF hq
        go_wp2
        go_roundw
        case rel => exact ⟨k + 1, by omega, by go_num, HNN.out, L2⟩
        case measure => simp [intOf]; omega
    · have hkk : k = X.length := by omega
      subst hkk
      rw [List.take_length] at hno
      have HNO : Hid _ := hno
      clear hno
      go_wp2
      go_ret
      exact ⟨-1, rfl, by rw [HNO.out]; rfl, B⟩

theorem containsNo (X : List (List Int)) (v : Value) (w : World) (hl : X.length ≤ maxLen) (hx : ∀ x ∈ X, x.length ≤ maxLen) (hv : ReadsSS w v X) :
    Calls Try.prog 36 #[v, .func (.func 37) #[] #[]] w fun e w' => e = .returned (.bool (!X.all relOk)) ∧ Below w.heap.size w w' := by
  have hi := indexNo X v w hl hx hv
  go_enter Try.func36, Try.ntmps36
  go_wp2_with fail
  go_at_call 68
  refine hi.mono ?_
  rintro e w1 ⟨r, rfl, hr, b1⟩
  have HR : Hid _ := hr
  clear hi hr
  go_wp2
  go_ret
  exact ⟨by rw [← HR.out]; simp, b1⟩

theorem wpList_arrayAtL {ops : Array Oper} {rest : List Oper} {d : Option Tmp} {x : Operand} {ty : TypeId} {pos : String} {af : Array Edge} {a : Act} {w : World} {Q : Exit → Act → World → Prop}
    (g off cap : Nat) (hx : a.eval x = .slice (some ⟨g, off, none⟩) 7 cap)
    (h : wpList Try.prog ops Q rest (a.put ({ dst := d, op := .sliceToArrayPointer 59 x, type := ty, pos := pos, after := af, guard := none } : Oper).dst (.pointer (some ⟨g, off, none⟩))) w) : wpList Try.prog ops Q ({ dst := d, op := .sliceToArrayPointer 59 x, type := ty, pos := pos, after := af, guard := none } :: rest) a w :=
  wpList_arrayAt rfl x rfl g off cap hx h

theorem readsSS_at' {w : World} {ao : Option Addr} {n cap : Nat} {T : List (List Int)} (h : ReadsSS w (.slice ao n cap) T) {y : Nat} (hy : y < T.length) : ∃ g off u, ao = some ⟨g, off, none⟩ ∧ w.cell? ⟨g, off + y, none⟩ = some u ∧ Reads w u (ints (T.getD y [])) := by
  obtain ⟨ao', cap', e, hc⟩ := h
  obtain ⟨rfl, -, -⟩ : ao = ao' ∧ n = T.length ∧ cap = cap' := by simpa using e
  obtain ⟨g, off, u, h1, h2, h3⟩ := hc y (T.getD y []) (by simp [List.getD, hy])
  exact ⟨g, off, u, h1, h2, h3⟩

theorem withB_false' {T X : List (List Int)} : ∀ {n k : Nat}, k ≤ n → withB T X k = false → withB T X n = false
  | 0, k, h, e => by
    obtain rfl : k = 0 := by omega
    exact e
  | n + 1, k, h, e => by
    by_cases hk : k = n + 1
    · subst hk; exact e
    · rw [withB, withB_false' (n := n) (by omega) e]; rfl

/-- What Holds has in memory. -/
structure VS (v : Value) (w : World) (G : Nat) (T : List (List Int)) (wr : World) : Prop where
  p : wr.heap[w.heap.size]? = some (.cells #[v] 26 (0, 0))
  t : TabR wr G 61 T
  bl : Below w.heap.size w wr

theorem VS.below {v : Value} {w : World} {G : Nat} {T : List (List Int)} {wr wr' : World} (h : VS v w G T wr) (hb : Below wr.heap.size wr wr') : VS v w G T wr' :=
  ⟨(hb.block _ (Array.getElem?_eq_some_iff.1 h.p).1).trans h.p, h.t.below hb, h.bl.trans (hb.mono h.bl.size)⟩

theorem VS.turned {v : Value} {w : World} {G : Nat} {T T' : List (List Int)} {wr wr' : World} (h : VS v w G T wr) (hT : TabR wr' G 61 T') (hg : wr.grownBy wr' (some G)) (hG : w.heap.size < G) : VS v w G T' wr' :=
  ⟨(hg.block _ (Array.getElem?_eq_some_iff.1 h.p).1 (fun e => by have := Option.some.inj e; omega)).trans h.p, hT, h.bl.grown hg h.bl.size (fun k hk => by cases hk; omega)⟩

theorem implHolds (ps : List (List Stm)) (c : Int) (X : List (List Int)) (b : Bool) (hA : HoldA ps c X b) (v xv : Value) (w : World) (hl : ps.length ≤ maxLen) (hp : ∀ p ∈ ps, p.length ≤ maxLen) (hX : X.length ≤ maxLen) (hXx : ∀ x ∈ X, x.length ≤ maxLen) (hv : ReadsP w v ps) (hx : ReadsSS w xv X) :
    Calls Try.prog 9 #[.agg #[v], .int .i64 c, xv] w fun e w' => e = .returned (.bool b) ∧ Below w.heap.size w w' := by
  have b0 : Below w.heap.size w (w.alloc (.cells #[v] 26)) := by go_grown
  have H0 := heap_alloc_new w (.cells #[v] 26)
  have hcs := canSum ps c v _ hl hp (readsP_below hv b0)
  obtain ⟨xo, xc, rfl, hxc⟩ := id hx
  obtain ⟨ao, cap, rfl, hcell⟩ := id hv
  cases hok : okB ps c
  · rw [hok] at hcs
    obtain rfl := hA.2 (by simp [relsB, hok])
    go_enter Try.func9, Try.ntmps9
    go_wp2_with (go_at_call 30; refine hcs.mono ?_; rintro e w2 ⟨rfl, b2⟩)
    go_ret
    exact ⟨rfl, b0.trans (b2.mono b0.size)⟩
  · rw [hok] at hcs
    obtain ⟨hpo, hc, hcp, h4⟩ := okB_parts hok
    by_cases hlen : X.length = ps.length
    · have hlen' : (X.length : Int) = (ps.length : Int) := by omega
      have HL : Hid (X.length = ps.length) := hlen
      have hcon := fun W (hW : Below w.heap.size w W) => containsNo X (.slice xo X.length xc) W hX hXx (readsSS_below hx hW)
      have hz : ∀ w, (zeroValue 61).run Try.prog w = .ok (.agg (ints (List.replicate 4 zero7).flatten).toArray) w := isTab4.zero
      obtain ⟨zs, hzs⟩ : ∃ zs, ints (List.replicate 4 zero7).flatten = zs := ⟨_, rfl⟩
      rw [hzs] at hz
      have HZS : Hid (ints (List.replicate 4 zero7).flatten = zs) := hzs
      clear hlen hzs
      go_enter Try.func9, Try.ntmps9
      go_wp2_with fail
      go_at_call 30
      refine hcs.mono ?_
      rintro e w2 ⟨rfl, b2⟩
      have L2 := b0.trans (b2.mono b0.size)
      have P2 := (b2.block w.heap.size (by simp)).trans H0
      obtain ⟨c2, f2⟩ := one_cell P2
      have HP2 : Hid (w2.heap[w.heap.size]? = some (.cells #[.slice ao ps.length cap] 26 (0, 0))) := P2
      have hcon2 := hcon w2 L2
      clear hcs H0 P2 hcon
      go_wp2_with fail
      go_at_call 36
      refine hcon2.mono ?_
      rintro e w3 ⟨rfl, b3⟩
      have L3 := L2.trans (b3.mono L2.size)
      have HP3 : Hid (w3.heap[w.heap.size]? = some (.cells #[.slice ao ps.length cap] 26 (0, 0))) := (b3.block _ (Array.getElem?_eq_some_iff.1 HP2.out).1).trans HP2.out
      clear hcon2 c2 f2 HP2 hlen' b3
      cases hall : X.all relOk
      · obtain rfl := hA.2 (by simp only [relsB, hall, Bool.and_false])
        clear hall
        go_wp2
        go_ret
        exact ⟨rfl, L3⟩
      · have hrb : relsB ps c X = true := by
          simp only [relsB, hok, hall, Bool.true_and, Bool.and_true, decide_eq_true_eq]
          exact HL.out
        obtain ⟨-, -, hgood, -⟩ := relsB_parts hrb
        obtain ⟨T0, hT0l, hT0, hbe⟩ := hA.1 hrb
        have HBE : Hid _ := hbe
        have hX4 : X.length ≤ 4 := by rw [HL.out]; exact h4
        have hX4' : (X.length : Int) ≤ 4 := by omega
        obtain ⟨w4, hw4⟩ : ∃ z, w3.alloc (.cells zs.toArray 61) = z := ⟨_, rfl⟩
        have T4 : TabR w4 w3.heap.size 61 (List.replicate 4 zero7) := by
          rw [← hw4, ← HZS.out]; exact tabR_new w3 _ _
        have B4 : Below w3.heap.size w3 w4 := by rw [← hw4]; go_grown
        have S0 : VS (.slice ao ps.length cap) w w3.heap.size (List.replicate 4 zero7) w4 := ⟨(B4.block _ (Array.getElem?_eq_some_iff.1 HP3.out).1).trans HP3.out, T4, L3.trans (B4.mono L3.size)⟩
        have HW4 : Hid _ := hw4
        have zW : w.heap.size < w3.heap.size := (Array.getElem?_eq_some_iff.1 HP3.out).1
        clear hall hrb hA hbe hw4 T4 B4 HP3
        go_wp2_with fail
        rw [HW4.out]
        clear HW4
        have HL2 : Hid (∀ k, k < X.length → (X.getD k []).length = 7) := fun k hk => (hgood k (by rw [← HL.out]; exact hk)).1
        go_loopw [31] (fun kv wr => ∃ (k : Nat) (T : List (List Int)), k ≤ X.length ∧ kv = .int .i64 k ∧ VS (.slice ao ps.length cap) w w3.heap.size T wr ∧ Rows7 4 T ∧ ∀ j, j < k → T.getD j [] = X.getD j []) (fun kv _ => X.length - (intOf kv).toNat)
        case atStart => exact ⟨0, _, Nat.zero_le _, rfl, S0, Rows7.zero 4, fun j h => absurd h (by omega)⟩
        case round =>
          obtain ⟨k, T, hk, rfl, S, hT, hTX⟩ := hrel
          clear S0
          have HS : Hid _ := S
          have HT : Hid (Rows7 4 T) := hT
          have HTX : Hid _ := hTX
          clear hT hTX
          by_cases hlt : k < X.length
          · have hlt' : (k : Int) < (X.length : Int) := by omega
            have hk4 : k < 4 := by omega
            have hk4' : (k : Int) < 4 := by omega
            obtain ⟨gx, ox, ux, rfl, cx, hux⟩ := readsSS_at' (readsSS_below hx S.bl) hlt
            have h7 := HL2.out k hlt
            obtain ⟨g, off, cp, rfl, hrg⟩ := reads_range hux h7
            obtain ⟨r, hr0⟩ : ∃ r, X.getD k [] = r := ⟨_, rfl⟩
            rw [hr0] at h7 hrg
            have Hr : Hid (X.getD k [] = r) := hr0
            have H7 : Hid (r.length = 7) := h7
            have HRG : Hid (wr.rangeAt g off (ints r)) := hrg
            clear S hux h7 hr0 hrg
            go_wp2_with (first
              | ((with_reducible refine wpList_arrayAtL (x := .tmp 37) g off cp ?hx ?_); (case hx => rfl))
              | ((with_reducible refine wpList_loadRelL (x := .tmp 38) g off r ?hx H7.out HRG.out ?_); (case hx => rfl))
              | ((with_reducible refine wpList_storeRowL (x := .tmp 40) (y := .tmp 39) w3.heap.size k T r ?hx ?hy H7.out HT.out hk4 HS.out.t ?_); (case hx => rfl); (case hy => rfl); intro w5 T5 g5; have S5 : Hid _ := VS.turned HS.out T5 g5 zW; clear T5 g5; refine stop_of ?_))
            unfold Stop
            go_wp2
            go_roundw
            case rel =>
              have hil : k < T.length := by rw [HT.out.1]; exact hk4
              refine ⟨k + 1, _, by omega, by go_num, S5.out, HT.out.set H7.out, fun j hj => ?_⟩
              rw [getD_set hil]
              split
              · rename_i e; subst e; exact Hr.out.symm
              · exact HTX.out j (by omega)
            case measure => simp [intOf]; omega
          · have hkk : k = X.length := by omega
            subst hkk
            have hTg : GoodN ps.length T := fun j hj => by rw [HTX.out j (by rw [HL.out]; exact hj)]; exact hgood j hj
            have htw := tablesWith ps c T (.slice ao ps.length cap) wr hc hcp h4 HT.out hTg (readsP_below hv S.bl)
            obtain ⟨c5, f5⟩ := one_cell S.p
            clear S
            go_wp2_with (first
              | ((with_reducible refine wpList_loadTabL (x := .tmp 7) isTab4 w3.heap.size T ?hx HT.out HS.out.t ?_); (case hx => rfl)))
            go_at_call 38
            refine htw.mono ?_
            rintro e w6 ⟨R, rfl, hRR, hRI, _, b6⟩
            have L6 := HS.out.bl.trans (b6.mono HS.out.bl.size)
            have HRR : Hid (Rows7 4 R) := hRR
            have HRI : Hid (IsRound c ps T R) := hRI
            have HRX : Hid (∀ j, j < ps.length → R.getD j [] = T0.getD j []) := fun j hj => round_uniq (round_eq hcp (fun i hi => HTX.out i (by rw [HL.out]; exact hi)) (fun _ _ => rfl) hRI) hT0 hj
            obtain ⟨w7, hw7⟩ : ∃ z, w6.alloc (.cells zs.toArray 61) = z := ⟨_, rfl⟩
            have T7 : Hid (TabR w7 w6.heap.size 61 (List.replicate 4 zero7)) := by
              show TabR _ _ _ _
              rw [← hw7, ← HZS.out]; exact tabR_new w6 _ _
            have B7 : Below w6.heap.size w6 w7 := by rw [← hw7]; go_grown
            have HW7 : Hid _ := hw7
            have L7 : Hid _ := L6.trans (B7.mono L6.size)
            have z6 := L6.size
            clear hw7 hRR hRI htw b6 c5 f5 B7
            go_wp2_with (first
              | (rw [HW7.out]; (with_reducible refine wpList_storeTabL (x := .tmp 10) (y := .tmp 45) isTab4 w6.heap.size (List.replicate 4 zero7) R ?hx ?hy (Rows7.zero 4) HRR.out T7.out ?_); (case hx => rfl); (case hy => rfl); intro w8 T8 g8; have HT8 : Hid (TabR w8 w6.heap.size 61 R) := T8; have L8 : Hid (Below w.heap.size w w8) := L7.out.grown g8 L7.out.size (fun q hq => by cases hq; exact z6); clear T8 g8; refine stop_of ?_))
            unfold Stop
            clear HW7 T7 L7 hz
            go_wp2_with fail
            go_loopw [48] (fun kv wr => ∃ k : Nat, k ≤ X.length ∧ kv = .int .i64 k ∧ withB T0 X k = true ∧ Below w8.heap.size w8 wr) (fun kv _ => X.length - (intOf kv).toNat)
            case atStart => exact ⟨0, Nat.zero_le _, rfl, rfl, Below.refl _ _⟩
            case round =>
              obtain ⟨k, hk, rfl, hwk, B⟩ := hrel
              have LB := L8.out.trans (B.mono L8.out.size)
              by_cases hlt : k < X.length
              · have hlt' : (k : Int) < (X.length : Int) := by omega
                have hk4 : k < 4 := by omega
                have hk4' : (k : Int) < 4 := by omega
                have hkp : k < ps.length := by have := HL.out; omega
                obtain ⟨gx, ox, ux, rfl, cx, hux⟩ := readsSS_at' (readsSS_below hx LB) hlt
                have T9 : TabR wr w6.heap.size 61 R := TabR.below HT8.out B
                have hrow := T9.row HRR.out hk4
                have h7 := HRR.out.row hk4
                rw [HRX.out k hkp] at hrow h7
                have hX7 := HL2.out k hlt
                have hwi := implWithin (T0.getD k []) (X.getD k []) (.slice (some ⟨w6.heap.size, k * 7, none⟩) 7 7) ux wr (by rw [h7]; unfold maxLen; omega) (by rw [hX7]; unfold maxLen; omega) ⟨some ⟨w6.heap.size, k * 7, none⟩, 7, by rw [ints_length, h7], fun j x hxj => ⟨_, _, rfl, hrow j x hxj⟩⟩ hux
                have HW1 : Hid (withB T0 X (k + 1) = withinAns (T0.getD k []) (X.getD k [])) := by
                  show withB T0 X (k + 1) = _
                  rw [withB, hwk]; rfl
                have HBB : Hid _ := B
                have HLB : Hid _ := LB
                obtain ⟨ua, un, uc, rfl⟩ : ∃ a n c, ux = .slice a n c := by obtain ⟨a, c, e, _⟩ := hux; exact ⟨_, _, _, e⟩
                clear hrow h7 hX7 T9 hux hwk B LB
                generalize withinAns (T0.getD k []) (X.getD k []) = q at *
                cases q
                · go_wp2_with (go_at_call 13; refine hwi.mono ?_; rintro e w9 ⟨rfl, b9⟩)
                  go_ret
                  refine ⟨?_, HLB.out.trans (b9.mono HLB.out.size)⟩
                  have hfin : withB T0 X ps.length = false := withB_false' (k := k + 1) (by omega) HW1.out
                  rw [HBE.out, hfin]
                  rfl
                · go_wp2_with (go_at_call 13; refine hwi.mono ?_; rintro e w9 ⟨rfl, b9⟩)
                  go_roundw
                  case rel => exact ⟨k + 1, by omega, by go_num, HW1.out, HBB.out.trans (b9.mono HBB.out.size)⟩
                  case measure => simp [intOf]; omega
              · have hkk : k = X.length := by omega
                subst hkk
                have HWK : Hid _ := hwk
                have HLB : Hid _ := LB
                clear hwk B LB
                go_wp2
                go_ret
                refine ⟨?_, HLB.out⟩
                have := HWK.out
                rw [HL.out] at this
                rw [HBE.out, this]
                rfl
    · obtain rfl := hA.2 (by simp [relsB, hlen])
      have hlen' : ¬ (X.length : Int) = (ps.length : Int) := by omega
      go_enter Try.func9, Try.ntmps9
      go_wp2_with fail
      go_at_call 30
      refine hcs.mono ?_
      rintro e w2 ⟨rfl, b2⟩
      obtain ⟨c2, f2⟩ := one_cell ((b2.block w.heap.size (by simp)).trans H0)
      go_wp2
      go_ret
      exact ⟨rfl, b0.trans (b2.mono b0.size)⟩

end Go.Proofs.Ytgandekciocalaa
