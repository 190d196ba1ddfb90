/-
  The law FnOpen: a walk goes on by its steps and by no others, a call opens one more, and a way back closes the last one.
-/
import Derived.Test.YtnkalhdhmmdofaaMp
import Derived.Test.YtnkalhdhmmdofaaImplWt
import Derived.Test.YtnkalhdhmmdofaaLikePl
import Derived.Test.YtnkalhdhmmdofaaOpenM
import Derived.Test.YtnkalhdhmmdofaaDrawRel
import Derived.Test.YtnkalhdhmmdofaaOpenCode
namespace Go.Proofs.Ytnkalhdhmmdofaa
open Go.RowKit
set_option linter.unusedVariables false
set_option linter.unusedSimpArgs false
set_option maxHeartbeats 8000000
set_option maxRecDepth 20000

theorem own_capO {w : World} {base : Nat} {e : TypeId} {s : Nat} {u : Value} {n : Nat} {xs : List Value} (h : w.ownsRow base e s u n xs) : ∀ a c', u = .slice a n c' → n ≤ c' := by
  intro a c' e
  rcases h.2 with ⟨h1, h2⟩ | ⟨b, cap, d, h1, _, _, h2, _⟩
  · omega
  · rw [h1] at e; cases e; exact h2

theorem rowsO {P : Program} {fn : Nat} {args : Array Value} {w : World} {A : List Int} {nn : Nat} (hn : A.length = 2 * nn) (h : Calls P fn args w fun e w' => ∃ u, e = .returned u ∧ OwnPl w' w.heap.size u A ∧ Below w.heap.size w w') :
    Calls P fn args w fun e w' => ∃ u, e = .returned u ∧ w'.ownsRow w.heap.size 34 2 u nn (ints A) ∧ Below w.heap.size w w' := h.mono (fun e w' he => by
  obtain ⟨u, h1, h2, h3⟩ := he
  obtain ⟨m, hm, ho⟩ := h2.ex
  have : m = nn := by omega
  subst this
  exact ⟨u, h1, ho, h3⟩)

theorem walkFnOpen (bs : List Int) (v : Value) (w : World) (hl : bs.length ≤ maxLen) (hby : ∀ x ∈ bs, 0 ≤ x ∧ x ≤ 255) (hv : Reads w v (bs.map (Value.int .u8))) :
    Calls Try.prog 3 #[v] w fun e w' => e = .returned (.bool true) ∧ Below w.heap.size w w' := by
  have hbig := lawBig bs v w hl hv
  by_cases hb : (4096 : Int) < (bs.length : Int)
  · rw [decide_eq_true hb] at hbig
    go_enter Try.func3, Try.ntmps3
    go_wp2_with (go_at_call 4; refine hbig.mono ?_; rintro e w1 ⟨rfl, rfl⟩)
    go_ret
    exact ⟨rfl, Below.refl _ _⟩
  rw [decide_eq_false hb] at hbig
  go_enter Try.func3, Try.ntmps3
  go_wp2_with fail
  go_at_call 4
  refine hbig.mono ?_
  rintro e w1 ⟨rfl, rfl⟩
  clear hbig
  go_wp2_with fail
  go_at_call 5
  refine (drawSteps bs v w (by omega) hv).mono ?_
  rintro e w1 ⟨u, L, a, xs, n, rfl, h5, h14, pr, hxs, hn1, hn2, oa, b1⟩
  obtain ⟨ps, rp, hpL⟩ := pr.reads
  obtain ⟨hps, hpe⟩ := drawn_lens hpL h5 h14
  obtain ⟨ua, un, uc, rfl⟩ := pr.slice
  obtain ⟨aa, ac, ha, _⟩ := reads2_own oa
  subst ha
  obtain ⟨W, hW⟩ : ∃ W, w1.alloc (.cells #[.slice ua un uc] 26) = W := ⟨_, rfl⟩
  have bW : Below w1.heap.size w1 W := by rw [← hW]; go_grown
  have HBX : Hid (W.heap[w1.heap.size]? = some (.cells #[.slice ua un uc] 26 (0, 0))) := by show _ = _; rw [← hW]; exact heap_alloc_new w1 _
  have RP : Hid (ReadsP W (.slice ua un uc) ps) := readsP_below rp bW
  have OA : Hid (W.ownsRow w.heap.size 34 2 (.slice aa n ac) n (ints xs)) := own_kept oa bW
  have BW : Hid (Below w.heap.size w W) := b1.trans (bW.mono b1.size)
  have hnm : n ≤ maxLen := by unfold maxLen; omega
  clear pr rp oa b1 bW hpL
  obtain ⟨c1, _⟩ := one_cell HBX.out
  obtain ⟨nn, hnS, hn100⟩ := stepsA_len ps xs n
  obtain ⟨mm, hmO, hm100⟩ := openA_len ps xs n
  have hstp := fun X (hX : Below W.heap.size W X) => rowsO hnS (implSteps ps xs n (.slice ua un uc) (.slice aa n ac) X hps hpe (readsP_below RP.out hX) hxs hnm (reads2_own (own_kept OA.out hX)) (own_capO OA.out))
  have hopn := fun X (hX : Below W.heap.size W X) => rowsO hmO (implOpen ps xs n (.slice ua un uc) (.slice aa n ac) X hps hpe (readsP_below RP.out hX) hxs hnm (reads2_own (own_kept OA.out hX)) (own_capO OA.out))
  have hsst := fun X (hX : Below W.heap.size W X) => rowsO hnS (specSteps ps xs n (.slice ua un uc) (.slice aa n ac) X hps hpe (readsP_below RP.out hX) hxs hnm (reads2_own (own_kept OA.out hX)))
  have hsop := fun X (hX : Below W.heap.size W X) => rowsO hmO (specOpen ps xs n (.slice ua un uc) (.slice aa n ac) X hps hpe (readsP_below RP.out hX) hxs hnm (reads2_own (own_kept OA.out hX)))
  have hswk := fun X (hX : Below W.heap.size W X) => specWalkOk ps xs n (.slice ua un uc) (.slice aa n ac) X hps hpe (readsP_below RP.out hX) hxs hnm (reads2_own (own_kept OA.out hX))
  obtain ⟨S, hS⟩ : ∃ S, stepsA ps xs n = S := ⟨_, rfl⟩
  obtain ⟨O, hO⟩ : ∃ O, openA ps xs n = O := ⟨_, rfl⟩
  rw [hS] at hstp hsst hnS
  rw [hO] at hopn hsop hmO
  have HS : Hid (stepsA ps xs n = S) := hS
  have HO : Hid (openA ps xs n = O) := hO
  obtain ⟨K, hK⟩ : ∃ K, walkA 1 ps xs n = K := ⟨_, rfl⟩
  have HK : Hid (walkA 1 ps xs n = K) := hK
  rw [hK] at hswk
  clear hS hO hK
  go_wp2_with fail
  go_at_call 6
  refine (hstp W (Below.refl _ _)).mono ?_
  rintro e w2 ⟨sv, rfl, os, b2⟩
  have h2 := b2.block w1.heap.size (Array.getElem?_eq_some_iff.1 HBX.out).1
  obtain ⟨c2, _⟩ := one_cell (h2.trans HBX.out)
  obtain ⟨sa, sc, hsv, _⟩ := reads2_own os
  subst hsv
  go_wp2_with fail
  go_at_call 7
  refine (hopn w2 b2).mono ?_
  rintro e w3 ⟨ov, rfl, oo, b3⟩
  obtain ⟨oa, oc, hov, _⟩ := reads2_own oo
  subst hov
  have B3 : Hid (Below W.heap.size W w3) := b2.trans (b3.mono b2.size)
  have OS : Hid (w3.ownsRow W.heap.size 34 2 (.slice sa nn sc) nn (ints S)) := own_kept os b3
  have OO : Hid (w3.ownsRow w2.heap.size 34 2 (.slice oa mm oc) mm (ints O)) := oo
  have HB3 : Hid (w3.heap[w1.heap.size]? = some (.cells #[.slice ua un uc] 26 (0, 0))) := (B3.out.block _ (Array.getElem?_eq_some_iff.1 HBX.out).1).trans HBX.out
  have hz3 : w1.heap.size < w3.heap.size := (Array.getElem?_eq_some_iff.1 HB3.out).1
  have BW3 : Hid (Below w.heap.size w w3) := BW.out.trans (B3.out.mono BW.out.size)
  obtain ⟨c3, _⟩ := one_cell HB3.out
  clear os oo b2 b3 h2 c1 c2 hstp hopn
  go_wp2_with fail
  go_at_call 9
  refine (hsst w3 B3.out).mono ?_
  rintro e w4 ⟨tv, rfl, ot, b4⟩
  go_wp2_with fail
  go_at_call 8
  refine (likePlaces nn S _ _ w4 hnS (by omega) (reads2_own (own_kept OS.out b4)) (reads2_own ot)).mono ?_
  rintro e w5 ⟨rfl, b5⟩
  have B5 : Hid (Below w3.heap.size w3 w5) := b4.trans (b5.mono b4.size)
  obtain ⟨c5, _⟩ := one_cell ((B5.out.block _ hz3).trans HB3.out)
  clear b4 b5 ot c3
  go_wp2_with fail
  go_at_call 10
  refine (hsop w5 (B3.out.trans (B5.out.mono B3.out.size))).mono ?_
  rintro e w6 ⟨qv, rfl, oq, b6⟩
  have B6 : Hid (Below w3.heap.size w3 w6) := B5.out.trans (b6.mono B5.out.size)
  go_wp2_with fail
  go_at_call 8
  refine (likePlaces mm O _ _ w6 hmO (by omega) (reads2_own (own_kept OO.out B6.out)) (reads2_own oq)).mono ?_
  rintro e w7 ⟨rfl, b7⟩
  have B7 : Hid (Below w3.heap.size w3 w7) := B6.out.trans (b7.mono B6.out.size)
  obtain ⟨c7, _⟩ := one_cell ((B7.out.block _ hz3).trans HB3.out)
  clear b6 b7 oq c5
  go_wp2_with fail
  go_at_call 11
  refine (hswk w7 (B3.out.trans (B7.out.mono B3.out.size))).mono ?_
  rintro e w8 ⟨rfl, b8⟩
  have B8 : Hid (Below w3.heap.size w3 w8) := B7.out.trans (b8.mono B7.out.size)
  have BW8 : Hid (Below w.heap.size w w8) := BW3.out.trans (B8.out.mono BW3.out.size)
  clear b8 c7 hsst hsop hswk
  cases K with
  | none =>
    have hS0 : S = [] := by rw [← HS.out]; unfold stepsA; rw [HK.out]
    have hO0 : O = [] := by rw [← HO.out]; unfold openA; rw [HK.out]
    have hnn : nn = 0 := by rw [hS0] at hnS; simp at hnS; omega
    have hmm : mm = 0 := by rw [hO0] at hmO; simp at hmO; omega
    subst hnn
    subst hmm
    clear hS0 hO0
    go_wp2_with fail
    go_ret
    exact ⟨rfl, BW8.out⟩
  | some st =>
    obtain ⟨hoB, _, _, hok⟩ := walkA_ok (.inl rfl) HK.out
    obtain ⟨_, _, hcan, h4⟩ := okB_parts hoB
    have hpl := walkA_pl (.inl rfl) HK.out
    have HSN : Hid (S = nxW ps st) := by show S = _; rw [← HS.out]; unfold stepsA; rw [HK.out]; simp [show ¬ n = 100 by omega]
    have HON : Hid (O = flatP st.op) := by show O = _; rw [← HO.out]; unfold openA; rw [HK.out]
    have HMO : Hid (mm = st.op.length) := by show _ = _; have := hmO; rw [HON.out, flatP_len] at this; omega
    have OA8 : Hid (w8.ownsRow w.heap.size 34 2 (.slice aa n ac) n (ints xs)) := own_kept (own_kept OA.out B3.out) B8.out
    have RP8 : Hid (ReadsP w8 (.slice ua un uc) ps) := readsP_below (readsP_below RP.out B3.out) B8.out
    obtain ⟨ag, ac', hf8, _, _⟩ := World.ownsRow.form OA8.out (by omega)
    cases hf8
    have r1 : w8.cell? ⟨ag, (n - 1) * 2, none⟩ = some (.int .i64 (st.p : Int)) := by rw [World.ownsRow.cellAt OA8.out ((n - 1) * 2) (by omega), hpl.1]; simp [ints, List.getD, show (n - 1) * 2 < xs.length by omega]
    have r2 : w8.cell? ⟨ag, (n - 1) * 2 + 1, none⟩ = some (.int .i64 (st.i : Int)) := by rw [World.ownsRow.cellAt OA8.out ((n - 1) * 2 + 1) (by omega), hpl.2]; simp [ints, List.getD, show (n - 1) * 2 + 1 < xs.length by omega]
    have hw1 : IntKind.i64.wrap ((n : Int) - 1) = ((n - 1 : Nat) : Int) := by rw [show (n : Int) - 1 = ((n - 1 : Nat) : Int) by omega]; exact IntWalk.i64_in _ (by omega)
    have hlt8 : ((n - 1 : Nat) : Int) < (n : Int) := by omega
    have hp8 := hok.p
    have hi8 := hok.i
    obtain ⟨pao, pcap, hpu, hcc⟩ := id RP8.out
    cases hpu
    have hsz : ps[st.p]? = some (ps.getD st.p []) := by simp [List.getD, hp8]
    obtain ⟨pg, poff, pv, hpe9, hcell, hR⟩ := hcc st.p _ hsz
    subst hpe9
    obtain ⟨ao2, cap2, hpv, hc2⟩ := id hR
    subst hpv
    have hst : (ps.getD st.p [])[st.i]? = some (stW ps st.p st.i) := by rw [stW_eq hi8]; exact List.getElem?_eq_getElem hi8
    obtain ⟨g2, off2, hg2e, q0, _, _⟩ := hc2 st.i _ hst
    subst hg2e
    have HBX8 : Hid (w8.heap[w1.heap.size]? = some (.cells #[.slice (some ⟨pg, poff, none⟩) ps.length uc] 26 (0, 0))) := (B8.out.block _ hz3).trans HB3.out
    obtain ⟨c8, _⟩ := one_cell HBX8.out
    have HOK : Hid (OkW ps st (n - 1)) := hok
    have HPL : Hid _ := hpl
    have hss : (ps.getD st.p []).length ≤ 12 := (procOk_parts (procs_of hcan hp8).1).2.1
    clear hsz hst hcc hc2 hR hok hpl
    obtain ⟨P, hP⟩ : ∃ P, st.p = P := ⟨_, rfl⟩
    obtain ⟨I, hI⟩ : ∃ I, st.i = I := ⟨_, rfl⟩
    obtain ⟨kd, hkd⟩ : ∃ kd, (stW ps st.p st.i).k = kd := ⟨_, rfl⟩
    have HP : Hid (st.p = P) := hP
    have HI : Hid (st.i = I) := hI
    have HKD : Hid ((stW ps st.p st.i).k = kd) := hkd
    rw [hkd, hI] at q0
    rw [hP] at hcell r1 hp8 hi8 hss
    rw [hI] at r2 hi8
    generalize ps.getD P [] = ss at *
    have hp8' : (P : Int) < (ps.length : Int) := by omega
    have hi8' : (I : Int) < (ss.length : Int) := by omega
    have z8a := World.block_lt_of_cell? w8 _ r1
    have z8b := World.block_lt_of_cell? w8 _ hcell
    have z8c := World.block_lt_of_cell? w8 _ q0
    have z8d : w1.heap.size < w8.heap.size := (Array.getElem?_eq_some_iff.1 HBX8.out).1
    simp only at z8a z8b z8c
    clear hP hI hkd
    go_wp2_with fail
    go_region
    obtain ⟨X, hX⟩ : ∃ X, (w8.alloc (.cells #[.int .i64 (P : Int), .int .i64 (I : Int)] 34)).drew = X := ⟨_, rfl⟩
    have bX : Below w8.heap.size w8 X := by rw [← hX]; go_grown
    have HLX : Hid (X.heap[w8.heap.size]? = some (.cells #[.int .i64 (P : Int), .int .i64 (I : Int)] 34 (0, 0))) := by show _ = _; rw [← hX]; exact heap_alloc_new w8 _
    have BX : Hid (Below w8.heap.size w8 X) := bX
    rw [hX]
    clear hX bX c8 r1 r2 hcell q0
    have hzX : w8.heap.size < X.heap.size := (Array.getElem?_eq_some_iff.1 HLX.out).1
    have OAX : Hid (X.ownsRow w.heap.size 34 2 (.slice (some ⟨ag, 0, none⟩) n ac) n (ints xs)) := own_kept OA8.out BX.out
    have RPX : Hid (ReadsP X (.slice (some ⟨pg, poff, none⟩) ps.length uc) ps) := readsP_below RP8.out BX.out
    have OSX : Hid (X.ownsRow W.heap.size 34 2 (.slice sa nn sc) nn (ints S)) := own_kept (own_kept OS.out B8.out) BX.out
    have OOX : Hid (X.ownsRow w2.heap.size 34 2 (.slice oa mm oc) mm (ints O)) := own_kept (own_kept OO.out B8.out) BX.out
    have HPX : Hid (X.heap[w1.heap.size]? = some (.cells #[.slice (some ⟨pg, poff, none⟩) ps.length uc] 26 (0, 0))) := (BX.out.block _ z8d).trans HBX8.out
    have zPX : w1.heap.size < X.heap.size := by omega
    have BWX : Hid (Below w.heap.size w X) := BW8.out.trans (BX.out.mono BW8.out.size)
    clear OA8 RP8 OS OO HBX8 B3 B5 B6 B7 B8 BW8 BW3 HBX RP OA HB3 BW
    have hwa := fun (a b : Int) (mv : Value) Y (hY : Below X.heap.size X Y) (hr : Y.ownsRow X.heap.size 34 2 mv (n + 1) (ints (xs ++ [a, b]))) => implWalkOk ps (xs ++ [a, b]) (n + 1) (.slice (some ⟨pg, poff, none⟩) ps.length uc) mv Y hps hpe (readsP_below RPX.out hY) (by simp [hxs]; omega) (by unfold maxLen; omega) (reads2_own hr) (own_capO hr)
    have hop := fun (a b : Int) (mv : Value) Y (hY : Below X.heap.size X Y) (hr : Y.ownsRow X.heap.size 34 2 mv (n + 1) (ints (xs ++ [a, b]))) => implOpen ps (xs ++ [a, b]) (n + 1) (.slice (some ⟨pg, poff, none⟩) ps.length uc) mv Y hps hpe (readsP_below RPX.out hY) (by simp [hxs]; omega) (by unfold maxLen; omega) (reads2_own hr) (own_capO hr)
    obtain ⟨ip, hip, hq0, hq1, hq2⟩ := info_parts infoPlace
    go_wp2_with fail
    go_loopw [9] (fun iv wr => ∃ k : Nat, k ≤ nn ∧ iv = .int .i64 k ∧ Below X.heap.size X wr) (fun iv _ => nn - (intOf iv).toNat)
    case atStart => exact ⟨0, Nat.zero_le _, rfl, Below.refl _ _⟩
    case round =>
      obtain ⟨k, hk, rfl, hB⟩ := hrel
      have HB : Hid (Below X.heap.size X wr) := hB
      by_cases hlt : k < nn
      · have hlt' : (k : Int) < (nn : Int) := by omega
        have OSr : Hid (wr.ownsRow W.heap.size 34 2 (.slice sa nn sc) nn (ints S)) := own_kept OSX.out hB
        obtain ⟨sg, sc', hfs, _, _⟩ := World.ownsRow.form OSr.out (by omega)
        cases hfs
        have OAr : Hid (wr.ownsRow w.heap.size 34 2 (.slice (some ⟨ag, 0, none⟩) n ac) n (ints xs)) := own_kept OAX.out hB
        obtain ⟨a, ha⟩ : ∃ a, S.getD (k * 2) 0 = a := ⟨_, rfl⟩
        obtain ⟨b, hb⟩ : ∃ b, S.getD (k * 2 + 1) 0 = b := ⟨_, rfl⟩
        have q1 : wr.cell? ⟨sg, k * 2, none⟩ = some (.int .i64 a) := by rw [World.ownsRow.cellAt OSr.out (k * 2) (by omega), ← ha]; simp [ints, List.getD, show k * 2 < S.length by omega]
        have q2 : wr.cell? ⟨sg, k * 2 + 1, none⟩ = some (.int .i64 b) := by rw [World.ownsRow.cellAt OSr.out (k * 2 + 1) (by omega), ← hb]; simp [ints, List.getD, show k * 2 + 1 < S.length by omega]
        have NI := next_is hcan HOK.out (j := k) (m := nn) (by rw [← HSN.out]; exact hnS) hlt
        rw [← HSN.out, ha, hb] at NI
        have HNI : Hid _ := NI
        clear ha hb NI hB
        have z1 := World.block_lt_of_cell? wr _ q1
        simp only at z1
        go_wp2_with fail
        refine later4 (F := fun x76 x78 x83 nv y => Below wr.heap.size wr y ∧ y.ownsRow wr.heap.size 34 2 nv (n + 1) (ints xs ++ [.int .i64 a, .int .i64 b])) (R := ?PLg) (fun hk => ?regg) ?restg
        case regg =>
          refine wp_region_held_drew (S := fun w' => w'.cell? ⟨sg, k * 2, none⟩ = some (.int .i64 a) ∧ w'.cell? ⟨sg, k * 2 + 1, none⟩ = some (.int .i64 b)) (by kernel_rfl) ⟨q1, q2⟩ (fun hHeld => ?_)
          refine wpAnyH_take (i := 1) (oi := ?oig1) (v := .slice (some ⟨ag, 0, none⟩) n ac) ?hig1 (by kernel_rfl) (by kernel_rfl) (by kernel_rfl) ?hqg1 ?hyg1 hHeld ?hrg1
          case hig1 =>
            simp only [List.getElem?_toArray, List.getElem?_cons_succ, List.getElem?_cons_zero]
            rfl
          case hqg1 => exact fun _ _ _ h => h
          case hyg1 => exact Or.inl ⟨by kernel_rfl, fun w hSw => by go_simp⟩
          try simp only [Act.put, List.setIfInBounds_toArray, List.set_cons_zero, List.set_cons_succ]
          refine wpAnyH_take (i := 3) (oi := ?oig3) (v := .slice (some ⟨sg, 0, none⟩) nn sc) ?hig3 (by kernel_rfl) (by kernel_rfl) (by kernel_rfl) ?hqg3 ?hyg3 hHeld ?hrg3
          case hig3 =>
            simp only [List.getElem?_toArray, List.getElem?_cons_succ, List.getElem?_cons_zero]
            rfl
          case hqg3 => exact fun _ _ _ h => h
          case hyg3 => exact Or.inl ⟨by kernel_rfl, fun w hSw => by go_simp⟩
          try simp only [Act.put, List.setIfInBounds_toArray, List.set_cons_zero, List.set_cons_succ]
          refine wpAnyH_take (i := 4) (oi := ?oig4) (v := .int .i64 (k : Int)) ?hig4 (by kernel_rfl) (by kernel_rfl) (by kernel_rfl) ?hqg4 ?hyg4 hHeld ?hrg4
          case hig4 =>
            simp only [List.getElem?_toArray, List.getElem?_cons_succ, List.getElem?_cons_zero]
            rfl
          case hqg4 => exact fun _ _ _ h => h
          case hyg4 => exact Or.inl ⟨by kernel_rfl, fun w hSw => by go_simp⟩
          try simp only [Act.put, List.setIfInBounds_toArray, List.set_cons_zero, List.set_cons_succ]
          refine wpAnyH_take (i := 5) (oi := ?oig5) (v := .pointer (some ⟨sg, k * 2, none⟩)) ?hig5 (by kernel_rfl) (by kernel_rfl) (by kernel_rfl) ?hqg5 ?hyg5 hHeld ?hrg5
          case hig5 =>
            simp only [List.getElem?_toArray, List.getElem?_cons_succ, List.getElem?_cons_zero]
            rfl
          case hqg5 => exact fun _ _ _ h => h
          case hyg5 => exact Or.inl ⟨by kernel_rfl, fun w hSw => by go_simp⟩
          try simp only [Act.put, List.setIfInBounds_toArray, List.set_cons_zero, List.set_cons_succ]
          refine wpAnyH_take (i := 6) (oi := ?oig6) (v := .agg #[.int .i64 a, .int .i64 b]) ?hig6 (by kernel_rfl) (by kernel_rfl) (by kernel_rfl) ?hqg6 ?hyg6 hHeld ?hrg6
          case hig6 =>
            simp only [List.getElem?_toArray, List.getElem?_cons_succ, List.getElem?_cons_zero]
            rfl
          case hqg6 => exact fun _ _ _ h => h
          case hyg6 => exact Or.inl ⟨by kernel_rfl, fun w hSw => by obtain ⟨s1, s2⟩ := hSw; go_simp⟩
          try simp only [Act.put, List.setIfInBounds_toArray, List.set_cons_zero, List.set_cons_succ]
          refine wpAnyH_ready (rs := [0, 7]) (by kernel_rfl) (by simp) ?_
          refine (AllReadyH.cons (o := ?oog0) ?hog0 (fun K hK => ?hkg0) (AllReadyH.cons (o := ?oog7) ?hog7 (fun K hK => ?hkg7) AllReadyH.nil))
          case hog0 =>
            simp only [List.getElem?_toArray, List.getElem?_cons_succ, List.getElem?_cons_zero]
            rfl
          case hog7 =>
            simp only [List.getElem?_toArray, List.getElem?_cons_succ, List.getElem?_cons_zero]
            rfl
          case hkg0 =>
            go_simp
            try go_wp2_with fail
            have bz : Below wr.heap.size wr (wr.alloc (.cells #[] 34)).drew := by go_grown
            have Ba : Hid (Below wr.heap.size wr (wr.alloc (.cells #[] 34)).drew) := Below.trans (Below.refl _ _) (bz.mono (Nat.le_refl _))
            have Va : Hid ((wr.alloc (.cells #[] 34)).drew.ownsRow wr.heap.size 34 2 (.slice (some ⟨wr.heap.size, 0, none⟩) 0 0) 0 []) := own_mono (World.ownsRow_made wr #[] 0 (Nat.le_refl _) (by unfold maxLen; omega) rfl) (Nat.le_refl _)
            have qa : wr.heap.size < (wr.alloc (.cells #[] 34)).drew.heap.size := by simp
            generalize (wr.alloc (.cells #[] 34)).drew = wa at *
            clear bz
            refine hK.out _ _ ⟨(Ba.out.cell z1).trans q1, (Ba.out.cell z1).trans q2⟩ (fun hHeld => ?_)
            clear hK K
            try simp only [Act.put, List.setIfInBounds_toArray, List.set_cons_zero, List.set_cons_succ]
            refine wpAnyH_ready (rs := [2, 7]) (by kernel_rfl) (by simp) ?_
            refine (AllReadyH.cons (o := ?ooga2) ?hoga2 (fun K hK => ?hkga2) (AllReadyH.cons (o := ?ooga7) ?hoga7 (fun K hK => ?hkga7) AllReadyH.nil))
            case hoga2 =>
              simp only [List.getElem?_toArray, List.getElem?_cons_succ, List.getElem?_cons_zero]
              rfl
            case hoga7 =>
              simp only [List.getElem?_toArray, List.getElem?_cons_succ, List.getElem?_cons_zero]
              rfl
            case hkga2 =>
              refine step_append_row rfl (.tmp 76) (.tmp 77) 27 rfl wr.heap.size 34 ip (.agg #[.int .i64 0, .int .i64 0]) 2 16 Try.underlying27 hip hq0 hq1 hq2 rfl (by decide) (.slice (some ⟨wr.heap.size, 0, none⟩) 0 0) 0 [] rfl Va.out (.slice (some ⟨ag, 0, none⟩) n ac) w.heap.size n (ints xs) rfl (own_kept OAr.out Ba.out) (ints_oneCell _) (by unfold maxLen; omega) (by omega) Ba.out.size ?_
              intro v6 w6 own6 grow6
              have V6 : Hid (w6.ownsRow wr.heap.size 34 2 v6 n (ints xs)) := by (have hh := own6; rw [Nat.zero_add, List.nil_append] at hh; exact hh)
              have B6 : Hid (Below wr.heap.size wr w6) := Ba.out.grown grow6 Ba.out.size (fun k hk => Nat.le_trans (Nat.le_refl _) (Nat.le_of_eq (Option.some.inj (show some wr.heap.size = some k from hk))))
              clear own6 grow6
              refine hK.out _ _ ⟨(B6.out.cell z1).trans q1, (B6.out.cell z1).trans q2⟩ (fun hHeld => ?_)
              clear hK K
              try simp only [Act.put, List.setIfInBounds_toArray, List.set_cons_zero, List.set_cons_succ]
              refine wpAnyH_ready (rs := [7]) (by kernel_rfl) (by simp) ?_
              refine (AllReadyH.cons (o := ?oogaa7) ?hogaa7 (fun K hK => ?hkgaa7) AllReadyH.nil)
              case hogaa7 =>
                simp only [List.getElem?_toArray, List.getElem?_cons_succ, List.getElem?_cons_zero]
                rfl
              case hkgaa7 =>
                go_simp
                try go_wp2_with fail
                have bz : Below w6.heap.size w6 (w6.alloc (.cells #[.int .i64 a, .int .i64 b] 34)) := by go_grown
                have Bc : Hid (Below wr.heap.size wr (w6.alloc (.cells #[.int .i64 a, .int .i64 b] 34))) := Below.trans B6.out (bz.mono B6.out.size)
                have Lc : Hid ((w6.alloc (.cells #[.int .i64 a, .int .i64 b] 34)).heap[w6.heap.size]? = some (.cells #[.int .i64 a, .int .i64 b] 34 (0, 0))) := heap_alloc_new w6 (.cells #[.int .i64 a, .int .i64 b] 34)
                have qc : w6.heap.size < (w6.alloc (.cells #[.int .i64 a, .int .i64 b] 34)).heap.size := by simp
                have Vc : Hid ((w6.alloc (.cells #[.int .i64 a, .int .i64 b] 34)).ownsRow wr.heap.size 34 2 (v6) n (ints xs)) := own_kept V6.out bz
                generalize (w6.alloc (.cells #[.int .i64 a, .int .i64 b] 34)) = wc at *
                clear bz
                refine hK.out _ _ ⟨(Bc.out.cell z1).trans q1, (Bc.out.cell z1).trans q2⟩ (fun hHeld => ?_)
                clear hK K
                try simp only [Act.put, List.setIfInBounds_toArray, List.set_cons_zero, List.set_cons_succ]
                refine wpAnyH_ready (rs := [8]) (by kernel_rfl) (by simp) ?_
                refine (AllReadyH.cons (o := ?oogaa8) ?hogaa8 (fun K hK => ?hkgaa8) AllReadyH.nil)
                case hogaa8 =>
                  simp only [List.getElem?_toArray, List.getElem?_cons_succ, List.getElem?_cons_zero]
                  rfl
                case hkgaa8 =>
                  refine step_append_lies _ rfl (.tmp 78) (.tmp 83) 27 rfl wr.heap.size 34 ip (.agg #[.int .i64 0, .int .i64 0]) 2 16 Try.underlying27 hip hq0 hq1 hq2 rfl (by decide) v6 n _ rfl Vc.out ⟨w6.heap.size, 0, none⟩ 1 1 [.int .i64 a, .int .i64 b] rfl rfl (World.news_of_block Lc.out) (two_one a b) (by omega) (by unfold maxLen; omega) (by omega) Bc.out.size _ rfl ?_
                  intro g9 cp9 w9 own9 grow9 hat9 hlt9
                  have V9 : Hid (w9.ownsRow wr.heap.size 34 2 (.slice (some ⟨g9, 0, none⟩) (n + 1) cp9) (n + 1) (ints xs ++ [.int .i64 a, .int .i64 b])) := own9
                  have B9 : Hid (Below wr.heap.size wr w9) := Bc.out.grown grow9 Bc.out.size (fun k hk => (Vc.out.lt k hk).1)
                  clear own9 grow9 hat9 hlt9
                  refine hK.out _ _ ⟨(B9.out.cell z1).trans q1, (B9.out.cell z1).trans q2⟩ (fun hHeld => ?_)
                  clear hK K
                  try simp only [Act.put, List.setIfInBounds_toArray, List.set_cons_zero, List.set_cons_succ]
                  refine wpAnyH_take (i := 9) (oi := ?oigaa9) (v := .slice (some ⟨g9, 0, none⟩) (n + 1) cp9) ?higaa9 (by kernel_rfl) (by kernel_rfl) (by kernel_rfl) ?hqgaa9 ?hygaa9 hHeld ?hrgaa9
                  case higaa9 =>
                    simp only [List.getElem?_toArray, List.getElem?_cons_succ, List.getElem?_cons_zero]
                    rfl
                  case hqgaa9 => exact fun _ _ _ h => h
                  case hygaa9 => exact Or.inl ⟨by kernel_rfl, fun w hSw => by go_simp⟩
                  try simp only [Act.put, List.setIfInBounds_toArray, List.set_cons_zero, List.set_cons_succ]
                  refine wpAnyH_done (by kernel_rfl) ?_ _
                  generalize Value.slice (some ⟨g9, 0, none⟩) (n + 1) cp9 = nv at *
                  generalize Value.slice (some ⟨w6.heap.size, 0, none⟩) 1 1 = x44 at *
                  generalize Value.slice (some ⟨wr.heap.size, 0, none⟩) 0 0 = x37 at *
                  exact hk x37 v6 x44 nv w9 ⟨B9.out, V9.out⟩
            case hkga7 =>
              go_simp
              try go_wp2_with fail
              have bz : Below wa.heap.size wa (wa.alloc (.cells #[.int .i64 a, .int .i64 b] 34)) := by go_grown
              have Bc : Hid (Below wr.heap.size wr (wa.alloc (.cells #[.int .i64 a, .int .i64 b] 34))) := Below.trans Ba.out (bz.mono Ba.out.size)
              have Lc : Hid ((wa.alloc (.cells #[.int .i64 a, .int .i64 b] 34)).heap[wa.heap.size]? = some (.cells #[.int .i64 a, .int .i64 b] 34 (0, 0))) := heap_alloc_new wa (.cells #[.int .i64 a, .int .i64 b] 34)
              have qc : wa.heap.size < (wa.alloc (.cells #[.int .i64 a, .int .i64 b] 34)).heap.size := by simp
              have Vc : Hid ((wa.alloc (.cells #[.int .i64 a, .int .i64 b] 34)).ownsRow wr.heap.size 34 2 (.slice (some ⟨wr.heap.size, 0, none⟩) 0 0) 0 ([])) := own_kept Va.out bz
              generalize (wa.alloc (.cells #[.int .i64 a, .int .i64 b] 34)) = wc at *
              clear bz
              refine hK.out _ _ ⟨(Bc.out.cell z1).trans q1, (Bc.out.cell z1).trans q2⟩ (fun hHeld => ?_)
              clear hK K
              try simp only [Act.put, List.setIfInBounds_toArray, List.set_cons_zero, List.set_cons_succ]
              refine wpAnyH_ready (rs := [2]) (by kernel_rfl) (by simp) ?_
              refine (AllReadyH.cons (o := ?oogab2) ?hogab2 (fun K hK => ?hkgab2) AllReadyH.nil)
              case hogab2 =>
                simp only [List.getElem?_toArray, List.getElem?_cons_succ, List.getElem?_cons_zero]
                rfl
              case hkgab2 =>
                refine step_append_row rfl (.tmp 76) (.tmp 77) 27 rfl wr.heap.size 34 ip (.agg #[.int .i64 0, .int .i64 0]) 2 16 Try.underlying27 hip hq0 hq1 hq2 rfl (by decide) (.slice (some ⟨wr.heap.size, 0, none⟩) 0 0) 0 [] rfl Vc.out (.slice (some ⟨ag, 0, none⟩) n ac) w.heap.size n (ints xs) rfl (own_kept OAr.out Bc.out) (ints_oneCell _) (by unfold maxLen; omega) (by omega) Bc.out.size ?_
                intro v6 w6 own6 grow6
                have V6 : Hid (w6.ownsRow wr.heap.size 34 2 v6 n (ints xs)) := by (have hh := own6; rw [Nat.zero_add, List.nil_append] at hh; exact hh)
                have B6 : Hid (Below wr.heap.size wr w6) := Bc.out.grown grow6 Bc.out.size (fun k hk => Nat.le_trans (Nat.le_refl _) (Nat.le_of_eq (Option.some.inj (show some wr.heap.size = some k from hk))))
                have L6 : Hid (w6.heap[wa.heap.size]? = _) := (grow6.block _ qc (fun e => absurd (Option.some.inj (show some (wa.heap.size) = some (wr.heap.size) from e)) (by omega))).trans Lc.out
                clear own6 grow6
                refine hK.out _ _ ⟨(B6.out.cell z1).trans q1, (B6.out.cell z1).trans q2⟩ (fun hHeld => ?_)
                clear hK K
                try simp only [Act.put, List.setIfInBounds_toArray, List.set_cons_zero, List.set_cons_succ]
                refine wpAnyH_ready (rs := [8]) (by kernel_rfl) (by simp) ?_
                refine (AllReadyH.cons (o := ?oogab8) ?hogab8 (fun K hK => ?hkgab8) AllReadyH.nil)
                case hogab8 =>
                  simp only [List.getElem?_toArray, List.getElem?_cons_succ, List.getElem?_cons_zero]
                  rfl
                case hkgab8 =>
                  refine step_append_lies _ rfl (.tmp 78) (.tmp 83) 27 rfl wr.heap.size 34 ip (.agg #[.int .i64 0, .int .i64 0]) 2 16 Try.underlying27 hip hq0 hq1 hq2 rfl (by decide) v6 n _ rfl V6.out ⟨wa.heap.size, 0, none⟩ 1 1 [.int .i64 a, .int .i64 b] rfl rfl (World.news_of_block L6.out) (two_one a b) (by omega) (by unfold maxLen; omega) (by omega) B6.out.size _ rfl ?_
                  intro g9 cp9 w9 own9 grow9 hat9 hlt9
                  have V9 : Hid (w9.ownsRow wr.heap.size 34 2 (.slice (some ⟨g9, 0, none⟩) (n + 1) cp9) (n + 1) (ints xs ++ [.int .i64 a, .int .i64 b])) := own9
                  have B9 : Hid (Below wr.heap.size wr w9) := B6.out.grown grow9 B6.out.size (fun k hk => (V6.out.lt k hk).1)
                  clear own9 grow9 hat9 hlt9
                  refine hK.out _ _ ⟨(B9.out.cell z1).trans q1, (B9.out.cell z1).trans q2⟩ (fun hHeld => ?_)
                  clear hK K
                  try simp only [Act.put, List.setIfInBounds_toArray, List.set_cons_zero, List.set_cons_succ]
                  refine wpAnyH_take (i := 9) (oi := ?oigab9) (v := .slice (some ⟨g9, 0, none⟩) (n + 1) cp9) ?higab9 (by kernel_rfl) (by kernel_rfl) (by kernel_rfl) ?hqgab9 ?hygab9 hHeld ?hrgab9
                  case higab9 =>
                    simp only [List.getElem?_toArray, List.getElem?_cons_succ, List.getElem?_cons_zero]
                    rfl
                  case hqgab9 => exact fun _ _ _ h => h
                  case hygab9 => exact Or.inl ⟨by kernel_rfl, fun w hSw => by go_simp⟩
                  try simp only [Act.put, List.setIfInBounds_toArray, List.set_cons_zero, List.set_cons_succ]
                  refine wpAnyH_done (by kernel_rfl) ?_ _
                  generalize Value.slice (some ⟨g9, 0, none⟩) (n + 1) cp9 = nv at *
                  generalize Value.slice (some ⟨wa.heap.size, 0, none⟩) 1 1 = x44 at *
                  generalize Value.slice (some ⟨wr.heap.size, 0, none⟩) 0 0 = x37 at *
                  exact hk x37 v6 x44 nv w9 ⟨B9.out, V9.out⟩
          case hkg7 =>
            go_simp
            try go_wp2_with fail
            have bz : Below wr.heap.size wr (wr.alloc (.cells #[.int .i64 a, .int .i64 b] 34)).drew := by go_grown
            have Bb : Hid (Below wr.heap.size wr (wr.alloc (.cells #[.int .i64 a, .int .i64 b] 34)).drew) := Below.trans (Below.refl _ _) (bz.mono (Nat.le_refl _))
            have Lb : Hid ((wr.alloc (.cells #[.int .i64 a, .int .i64 b] 34)).drew.heap[wr.heap.size]? = some (.cells #[.int .i64 a, .int .i64 b] 34 (0, 0))) := heap_alloc_new wr (.cells #[.int .i64 a, .int .i64 b] 34)
            have qb : wr.heap.size < (wr.alloc (.cells #[.int .i64 a, .int .i64 b] 34)).drew.heap.size := by simp
            generalize (wr.alloc (.cells #[.int .i64 a, .int .i64 b] 34)).drew = wb at *
            clear bz
            refine hK.out _ _ ⟨(Bb.out.cell z1).trans q1, (Bb.out.cell z1).trans q2⟩ (fun hHeld => ?_)
            clear hK K
            try simp only [Act.put, List.setIfInBounds_toArray, List.set_cons_zero, List.set_cons_succ]
            refine wpAnyH_ready (rs := [0]) (by kernel_rfl) (by simp) ?_
            refine (AllReadyH.cons (o := ?oogb0) ?hogb0 (fun K hK => ?hkgb0) AllReadyH.nil)
            case hogb0 =>
              simp only [List.getElem?_toArray, List.getElem?_cons_succ, List.getElem?_cons_zero]
              rfl
            case hkgb0 =>
              go_simp
              try go_wp2_with fail
              have bz : Below wb.heap.size wb (wb.alloc (.cells #[] 34)) := by go_grown
              have Ba : Hid (Below wr.heap.size wr (wb.alloc (.cells #[] 34))) := Below.trans Bb.out (bz.mono Bb.out.size)
              have Va : Hid ((wb.alloc (.cells #[] 34)).ownsRow wr.heap.size 34 2 (.slice (some ⟨wb.heap.size, 0, none⟩) 0 0) 0 []) := own_mono (World.ownsRow_made wb #[] 0 (Nat.le_refl _) (by unfold maxLen; omega) rfl) Bb.out.size
              have qa : wb.heap.size < (wb.alloc (.cells #[] 34)).heap.size := by simp
              have La : Hid ((wb.alloc (.cells #[] 34)).heap[wr.heap.size]? = _) := (bz.block _ qb).trans Lb.out
              generalize (wb.alloc (.cells #[] 34)) = wa at *
              clear bz
              have ql : wr.heap.size < wa.heap.size := by omega
              refine hK.out _ _ ⟨(Ba.out.cell z1).trans q1, (Ba.out.cell z1).trans q2⟩ (fun hHeld => ?_)
              clear hK K
              try simp only [Act.put, List.setIfInBounds_toArray, List.set_cons_zero, List.set_cons_succ]
              refine wpAnyH_ready (rs := [2]) (by kernel_rfl) (by simp) ?_
              refine (AllReadyH.cons (o := ?oogb2) ?hogb2 (fun K hK => ?hkgb2) AllReadyH.nil)
              case hogb2 =>
                simp only [List.getElem?_toArray, List.getElem?_cons_succ, List.getElem?_cons_zero]
                rfl
              case hkgb2 =>
                refine step_append_row rfl (.tmp 76) (.tmp 77) 27 rfl wr.heap.size 34 ip (.agg #[.int .i64 0, .int .i64 0]) 2 16 Try.underlying27 hip hq0 hq1 hq2 rfl (by decide) (.slice (some ⟨wb.heap.size, 0, none⟩) 0 0) 0 [] rfl Va.out (.slice (some ⟨ag, 0, none⟩) n ac) w.heap.size n (ints xs) rfl (own_kept OAr.out Ba.out) (ints_oneCell _) (by unfold maxLen; omega) (by omega) Ba.out.size ?_
                intro v6 w6 own6 grow6
                have V6 : Hid (w6.ownsRow wr.heap.size 34 2 v6 n (ints xs)) := by (have hh := own6; rw [Nat.zero_add, List.nil_append] at hh; exact hh)
                have B6 : Hid (Below wr.heap.size wr w6) := Ba.out.grown grow6 Ba.out.size (fun k hk => Nat.le_trans Bb.out.size (Nat.le_of_eq (Option.some.inj (show some wb.heap.size = some k from hk))))
                have L6 : Hid (w6.heap[wr.heap.size]? = _) := (grow6.block _ ql (fun e => absurd (Option.some.inj (show some (wr.heap.size) = some (wb.heap.size) from e)) (by omega))).trans La.out
                clear own6 grow6
                refine hK.out _ _ ⟨(B6.out.cell z1).trans q1, (B6.out.cell z1).trans q2⟩ (fun hHeld => ?_)
                clear hK K
                try simp only [Act.put, List.setIfInBounds_toArray, List.set_cons_zero, List.set_cons_succ]
                refine wpAnyH_ready (rs := [8]) (by kernel_rfl) (by simp) ?_
                refine (AllReadyH.cons (o := ?oogb8) ?hogb8 (fun K hK => ?hkgb8) AllReadyH.nil)
                case hogb8 =>
                  simp only [List.getElem?_toArray, List.getElem?_cons_succ, List.getElem?_cons_zero]
                  rfl
                case hkgb8 =>
                  refine step_append_lies _ rfl (.tmp 78) (.tmp 83) 27 rfl wr.heap.size 34 ip (.agg #[.int .i64 0, .int .i64 0]) 2 16 Try.underlying27 hip hq0 hq1 hq2 rfl (by decide) v6 n _ rfl V6.out ⟨wr.heap.size, 0, none⟩ 1 1 [.int .i64 a, .int .i64 b] rfl rfl (World.news_of_block L6.out) (two_one a b) (by omega) (by unfold maxLen; omega) (by omega) B6.out.size _ rfl ?_
                  intro g9 cp9 w9 own9 grow9 hat9 hlt9
                  have V9 : Hid (w9.ownsRow wr.heap.size 34 2 (.slice (some ⟨g9, 0, none⟩) (n + 1) cp9) (n + 1) (ints xs ++ [.int .i64 a, .int .i64 b])) := own9
                  have B9 : Hid (Below wr.heap.size wr w9) := B6.out.grown grow9 B6.out.size (fun k hk => (V6.out.lt k hk).1)
                  clear own9 grow9 hat9 hlt9
                  refine hK.out _ _ ⟨(B9.out.cell z1).trans q1, (B9.out.cell z1).trans q2⟩ (fun hHeld => ?_)
                  clear hK K
                  try simp only [Act.put, List.setIfInBounds_toArray, List.set_cons_zero, List.set_cons_succ]
                  refine wpAnyH_take (i := 9) (oi := ?oigb9) (v := .slice (some ⟨g9, 0, none⟩) (n + 1) cp9) ?higb9 (by kernel_rfl) (by kernel_rfl) (by kernel_rfl) ?hqgb9 ?hygb9 hHeld ?hrgb9
                  case higb9 =>
                    simp only [List.getElem?_toArray, List.getElem?_cons_succ, List.getElem?_cons_zero]
                    rfl
                  case hqgb9 => exact fun _ _ _ h => h
                  case hygb9 => exact Or.inl ⟨by kernel_rfl, fun w hSw => by go_simp⟩
                  try simp only [Act.put, List.setIfInBounds_toArray, List.set_cons_zero, List.set_cons_succ]
                  refine wpAnyH_done (by kernel_rfl) ?_ _
                  generalize Value.slice (some ⟨g9, 0, none⟩) (n + 1) cp9 = nv at *
                  generalize Value.slice (some ⟨wr.heap.size, 0, none⟩) 1 1 = x44 at *
                  generalize Value.slice (some ⟨wb.heap.size, 0, none⟩) 0 0 = x37 at *
                  exact hk x37 v6 x44 nv w9 ⟨B9.out, V9.out⟩
        case restg =>
          rintro x76 x78 x83 nv y ⟨by_, oy_⟩
          have BY : Hid (Below X.heap.size X y) := HB.out.trans (by_.mono HB.out.size)
          have OY : Hid (y.ownsRow X.heap.size 34 2 nv (n + 1) (ints (xs ++ [a, b]))) := by
            show y.ownsRow _ _ _ _ _ _
            rw [ints_append]
            exact own_mono oy_ HB.out.size
          obtain ⟨na, nm, nc, rfl⟩ := own_slice oy_
          have hwa1 := hwa a b _ y BY.out OY.out
          rw [more_isSome HK.out hxs (by omega), ← HSN.out, HNI.out.1] at hwa1
          obtain ⟨cy, _⟩ := one_cell ((BY.out.block _ zPX).trans HPX.out)
          clear by_ oy_
          go_wp2_with fail
          go_at_call 12
          refine hwa1.mono ?_
          rintro e y1 ⟨rfl, b1'⟩
          have BY1 : Hid (Below X.heap.size X y1) := BY.out.trans (b1'.mono BY.out.size)
          have OY1 : Hid (y1.ownsRow X.heap.size 34 2 (.slice na nm nc) (n + 1) (ints (xs ++ [a, b]))) := own_kept OY.out b1'
          obtain ⟨cy1, _⟩ := one_cell ((BY1.out.block _ zPX).trans HPX.out)
          have hop1 := hop a b _ y1 BY1.out OY1.out
          rw [more_open HK.out hxs (by omega) (by rw [← HSN.out]; exact HNI.out.1)] at hop1
          clear b1' cy hwa1
          go_wp2_with fail
          go_at_call 7
          refine hop1.mono ?_
          rintro e y2 ⟨xv, rfl, oxv, b2'⟩
          have BY2 : Hid (Below X.heap.size X y2) := BY1.out.trans (b2'.mono BY1.out.size)
          clear b2' cy1 hop1
          have HXV : Hid (OwnPl y2 y1.heap.size xv (flatP (opS (stW ps st.p st.i) st))) := oxv
          have OS2 : Hid (y2.ownsRow W.heap.size 34 2 (.slice (some ⟨sg, 0, none⟩) nn sc) nn (ints S)) := own_kept OSX.out BY2.out
          have OO2 : Hid (y2.ownsRow w2.heap.size 34 2 (.slice oa mm oc) mm (ints O)) := own_kept OOX.out BY2.out
          have e1 : y2.cell? ⟨sg, k * 2, none⟩ = some (.int .i64 a) := by
            have h1 := World.ownsRow.cellAt OS2.out (k * 2) (by omega)
            have h2 := World.ownsRow.cellAt OSr.out (k * 2) (by omega)
            rw [h1, ← h2]; exact q1
          have e2 : y2.cell? ⟨sg, k * 2 + 1, none⟩ = some (.int .i64 b) := by
            have h1 := World.ownsRow.cellAt OS2.out (k * 2 + 1) (by omega)
            have h2 := World.ownsRow.cellAt OSr.out (k * 2 + 1) (by omega)
            rw [h1, ← h2]; exact q2
          have hl9 := (BY2.out.block _ hzX).trans HLX.out
          have e3 : y2.cell? ⟨w8.heap.size, 0, none⟩ = some (.int .i64 (P : Int)) := by simp [World.cell?, hl9]
          have e4 : y2.cell? ⟨w8.heap.size, 1, none⟩ = some (.int .i64 (I : Int)) := by simp [World.cell?, hl9]
          have REL : Hid (∀ Y, Below X.heap.size X Y → ∃ k_1 : Nat, k_1 ≤ nn ∧ Value.int .i64 ((k : Int) + 1) = .int .i64 (k_1 : Int) ∧ Below X.heap.size X Y) := fun Y hY => ⟨k + 1, by omega, by push_cast; rfl, hY⟩
          clear oxv OY OY1 q1 q2 hl9 OSr OAr z1
          by_cases h8 : kd = 8
          · obtain ⟨h1, h2⟩ := HNI.out.2.1 (HKD.out.trans h8)
            subst h8
            subst h2
            rw [h1, ← HON.out, HP.out, HI.out] at HXV
            obtain ⟨mx, hmx, orx⟩ := HXV.out.ex
            obtain rfl : mx = mm + 1 := by simp at hmx; omega
            obtain ⟨xg, xc', hfx, _, _⟩ := World.ownsRow.form orx (by omega)
            subst hfx
            have x1 : y2.cell? ⟨xg, mm * 2, none⟩ = some (.int .i64 (P : Int)) := by
              rw [orx.cellAt (mm * 2) (by omega), ints_append, List.getElem?_append_right (by rw [ints_length]; omega), ints_length, hmO, show mm * 2 - 2 * mm = 0 by omega]; rfl
            have x2 : y2.cell? ⟨xg, mm * 2 + 1, none⟩ = some (.int .i64 (I : Int)) := by
              rw [orx.cellAt (mm * 2 + 1) (by omega), ints_append, List.getElem?_append_right (by rw [ints_length]; omega), ints_length, hmO, show mm * 2 + 1 - 2 * mm = 1 by omega]; rfl
            have hw1 : IntKind.i64.wrap ((mm : Int) + 1) = (mm : Int) + 1 := IntWalk.i64_in _ (by omega)
            have hw2 : IntKind.i64.wrap (mm : Int) = (mm : Int) := IntWalk.i64_in _ (by omega)
            have hw3 : IntKind.i64.wrap ((mm : Int) + 1 - 1) = (mm : Int) := by rw [show (mm : Int) + 1 - 1 = mm by omega]; exact hw2
            have hm1 : (mm : Int) < (mm : Int) + 1 := by omega
            clear orx h1 HXV hmx
            go_wp2_with fail
            refine wp_region_held_drew (S := fun w' => w'.cell? ⟨xg, mm * 2, none⟩ = some (.int .i64 (P : Int)) ∧ w'.cell? ⟨xg, mm * 2 + 1, none⟩ = some (.int .i64 (I : Int)) ∧ w'.cell? ⟨w8.heap.size, 0, none⟩ = some (.int .i64 (P : Int)) ∧ w'.cell? ⟨w8.heap.size, 1, none⟩ = some (.int .i64 (I : Int)) ∧ w'.cell? ⟨sg, k * 2 + 1, none⟩ = some (.int .i64 0)) (by kernel_rfl) ⟨x1, x2, e3, e4, e2⟩ (fun hHeld => ?_)
            refine wpAnyH_take (i := 0) (oi := ?oih0) (v := .slice (some ⟨xg, 0, none⟩) (mm + 1) xc') ?hih0 (by kernel_rfl) (by kernel_rfl) (by kernel_rfl) ?hqh0 ?hyh0 hHeld ?hrh0
            case hih0 =>
              simp only [List.getElem?_toArray, List.getElem?_cons_succ, List.getElem?_cons_zero]
              rfl
            case hqh0 => exact fun _ _ _ h => h
            case hyh0 => exact Or.inl ⟨by kernel_rfl, fun w hSw => by go_simp⟩
            try simp only [Act.put, List.setIfInBounds_toArray, List.set_cons_zero, List.set_cons_succ]
            refine wpAnyH_take (i := 1) (oi := ?oih1) (v := .int .i64 ((mm : Int) + 1)) ?hih1 (by kernel_rfl) (by kernel_rfl) (by kernel_rfl) ?hqh1 ?hyh1 hHeld ?hrh1
            case hih1 =>
              simp only [List.getElem?_toArray, List.getElem?_cons_succ, List.getElem?_cons_zero]
              rfl
            case hqh1 => exact fun _ _ _ h => h
            case hyh1 => exact Or.inl ⟨by kernel_rfl, fun w hSw => by go_simp⟩
            try simp only [Act.put, List.setIfInBounds_toArray, List.set_cons_zero, List.set_cons_succ]
            refine wpAnyH_take (i := 2) (oi := ?oih2) (v := .slice oa mm oc) ?hih2 (by kernel_rfl) (by kernel_rfl) (by kernel_rfl) ?hqh2 ?hyh2 hHeld ?hrh2
            case hih2 =>
              simp only [List.getElem?_toArray, List.getElem?_cons_succ, List.getElem?_cons_zero]
              rfl
            case hqh2 => exact fun _ _ _ h => h
            case hyh2 => exact Or.inl ⟨by kernel_rfl, fun w hSw => by go_simp⟩
            try simp only [Act.put, List.setIfInBounds_toArray, List.set_cons_zero, List.set_cons_succ]
            refine wpAnyH_take (i := 3) (oi := ?oih3) (v := .int .i64 (mm : Int)) ?hih3 (by kernel_rfl) (by kernel_rfl) (by kernel_rfl) ?hqh3 ?hyh3 hHeld ?hrh3
            case hih3 =>
              simp only [List.getElem?_toArray, List.getElem?_cons_succ, List.getElem?_cons_zero]
              rfl
            case hqh3 => exact fun _ _ _ h => h
            case hyh3 => exact Or.inl ⟨by kernel_rfl, fun w hSw => by go_simp⟩
            try simp only [Act.put, List.setIfInBounds_toArray, List.set_cons_zero, List.set_cons_succ]
            refine wpAnyH_take (i := 4) (oi := ?oih4) (v := .int .i64 ((mm : Int) + 1)) ?hih4 (by kernel_rfl) (by kernel_rfl) (by kernel_rfl) ?hqh4 ?hyh4 hHeld ?hrh4
            case hih4 =>
              simp only [List.getElem?_toArray, List.getElem?_cons_succ, List.getElem?_cons_zero]
              rfl
            case hqh4 => exact fun _ _ _ h => h
            case hyh4 => exact Or.inl ⟨by kernel_rfl, fun w hSw => by go_simp⟩
            try simp only [Act.put, List.setIfInBounds_toArray, List.set_cons_zero, List.set_cons_succ]
            refine wpAnyH_take (i := 5) (oi := ?oih5) (v := .bool false) ?hih5 (by kernel_rfl) (by kernel_rfl) (by kernel_rfl) ?hqh5 ?hyh5 hHeld ?hrh5
            case hih5 =>
              simp only [List.getElem?_toArray, List.getElem?_cons_succ, List.getElem?_cons_zero]
              rfl
            case hqh5 => exact fun _ _ _ h => h
            case hyh5 => exact Or.inl ⟨by kernel_rfl, fun w hSw => by go_simp⟩
            try simp only [Act.put, List.setIfInBounds_toArray, List.set_cons_zero, List.set_cons_succ]
            refine wpAnyH_take (i := 6) (oi := ?oih6) (v := .bool false) ?hih6 (by kernel_rfl) (by kernel_rfl) (by kernel_rfl) ?hqh6 ?hyh6 hHeld ?hrh6
            case hih6 =>
              simp only [List.getElem?_toArray, List.getElem?_cons_succ, List.getElem?_cons_zero]
              rfl
            case hqh6 => exact fun _ _ _ h => h
            case hyh6 => exact Or.inl ⟨by kernel_rfl, fun w hSw => by go_simp⟩
            try simp only [Act.put, List.setIfInBounds_toArray, List.set_cons_zero, List.set_cons_succ]
            refine wpAnyH_take (i := 7) (oi := ?oih7) (v := .slice (some ⟨xg, 0, none⟩) (mm + 1) xc') ?hih7 (by kernel_rfl) (by kernel_rfl) (by kernel_rfl) ?hqh7 ?hyh7 hHeld ?hrh7
            case hih7 =>
              simp only [List.getElem?_toArray, List.getElem?_cons_succ, List.getElem?_cons_zero]
              rfl
            case hqh7 => exact fun _ _ _ h => h
            case hyh7 => exact Or.inl ⟨by kernel_rfl, fun w hSw => by go_simp⟩
            try simp only [Act.put, List.setIfInBounds_toArray, List.set_cons_zero, List.set_cons_succ]
            refine wpAnyH_take (i := 8) (oi := ?oih8) (v := .slice (some ⟨xg, 0, none⟩) (mm + 1) xc') ?hih8 (by kernel_rfl) (by kernel_rfl) (by kernel_rfl) ?hqh8 ?hyh8 hHeld ?hrh8
            case hih8 =>
              simp only [List.getElem?_toArray, List.getElem?_cons_succ, List.getElem?_cons_zero]
              rfl
            case hqh8 => exact fun _ _ _ h => h
            case hyh8 => exact Or.inl ⟨by kernel_rfl, fun w hSw => by go_simp⟩
            try simp only [Act.put, List.setIfInBounds_toArray, List.set_cons_zero, List.set_cons_succ]
            refine wpAnyH_take (i := 9) (oi := ?oih9) (v := .int .i64 ((mm : Int) + 1)) ?hih9 (by kernel_rfl) (by kernel_rfl) (by kernel_rfl) ?hqh9 ?hyh9 hHeld ?hrh9
            case hih9 =>
              simp only [List.getElem?_toArray, List.getElem?_cons_succ, List.getElem?_cons_zero]
              rfl
            case hqh9 => exact fun _ _ _ h => h
            case hyh9 => exact Or.inl ⟨by kernel_rfl, fun w hSw => by go_simp⟩
            try simp only [Act.put, List.setIfInBounds_toArray, List.set_cons_zero, List.set_cons_succ]
            refine wpAnyH_take (i := 10) (oi := ?oih10) (v := .int .i64 (mm : Int)) ?hih10 (by kernel_rfl) (by kernel_rfl) (by kernel_rfl) ?hqh10 ?hyh10 hHeld ?hrh10
            case hih10 =>
              simp only [List.getElem?_toArray, List.getElem?_cons_succ, List.getElem?_cons_zero]
              rfl
            case hqh10 => exact fun _ _ _ h => h
            case hyh10 => exact Or.inl ⟨by kernel_rfl, fun w hSw => by go_simp⟩
            try simp only [Act.put, List.setIfInBounds_toArray, List.set_cons_zero, List.set_cons_succ]
            refine wpAnyH_take (i := 11) (oi := ?oih11) (v := .pointer (some ⟨xg, mm * 2, none⟩)) ?hih11 (by kernel_rfl) (by kernel_rfl) (by kernel_rfl) ?hqh11 ?hyh11 hHeld ?hrh11
            case hih11 =>
              simp only [List.getElem?_toArray, List.getElem?_cons_succ, List.getElem?_cons_zero]
              rfl
            case hqh11 => exact fun _ _ _ h => h
            case hyh11 => exact Or.inl ⟨by kernel_rfl, fun w hSw => by go_simp⟩
            try simp only [Act.put, List.setIfInBounds_toArray, List.set_cons_zero, List.set_cons_succ]
            refine wpAnyH_take (i := 12) (oi := ?oih12) (v := .agg #[.int .i64 (P : Int), .int .i64 (I : Int)]) ?hih12 (by kernel_rfl) (by kernel_rfl) (by kernel_rfl) ?hqh12 ?hyh12 hHeld ?hrh12
            case hih12 =>
              simp only [List.getElem?_toArray, List.getElem?_cons_succ, List.getElem?_cons_zero]
              rfl
            case hqh12 => exact fun _ _ _ h => h
            case hyh12 => exact Or.inl ⟨by kernel_rfl, fun w hSw => by obtain ⟨s1, s2, s3, s4, s5⟩ := hSw; go_simp⟩
            try simp only [Act.put, List.setIfInBounds_toArray, List.set_cons_zero, List.set_cons_succ]
            refine wpAnyH_take (i := 13) (oi := ?oih13) (v := .agg #[.int .i64 (P : Int), .int .i64 (I : Int)]) ?hih13 (by kernel_rfl) (by kernel_rfl) (by kernel_rfl) ?hqh13 ?hyh13 hHeld ?hrh13
            case hih13 =>
              simp only [List.getElem?_toArray, List.getElem?_cons_succ, List.getElem?_cons_zero]
              rfl
            case hqh13 => exact fun _ _ _ h => h
            case hyh13 => exact Or.inl ⟨by kernel_rfl, fun w hSw => by obtain ⟨s1, s2, s3, s4, s5⟩ := hSw; go_simp⟩
            try simp only [Act.put, List.setIfInBounds_toArray, List.set_cons_zero, List.set_cons_succ]
            refine wpAnyH_take (i := 14) (oi := ?oih14) (v := .bool false) ?hih14 (by kernel_rfl) (by kernel_rfl) (by kernel_rfl) ?hqh14 ?hyh14 hHeld ?hrh14
            case hih14 =>
              simp only [List.getElem?_toArray, List.getElem?_cons_succ, List.getElem?_cons_zero]
              rfl
            case hqh14 => exact fun _ _ _ h => h
            case hyh14 => exact Or.inl ⟨by kernel_rfl, fun w hSw => by go_simp⟩
            try simp only [Act.put, List.setIfInBounds_toArray, List.set_cons_zero, List.set_cons_succ]
            refine wpAnyH_take (i := 15) (oi := ?oih15) (v := .bool false) ?hih15 (by kernel_rfl) (by kernel_rfl) (by kernel_rfl) ?hqh15 ?hyh15 hHeld ?hrh15
            case hih15 =>
              simp only [List.getElem?_toArray, List.getElem?_cons_succ, List.getElem?_cons_zero]
              rfl
            case hqh15 => exact fun _ _ _ h => h
            case hyh15 => exact Or.inl ⟨by kernel_rfl, fun w hSw => by go_simp⟩
            try simp only [Act.put, List.setIfInBounds_toArray, List.set_cons_zero, List.set_cons_succ]
            refine wpAnyH_take (i := 16) (oi := ?oih16) (v := .bool false) ?hih16 (by kernel_rfl) (by kernel_rfl) (by kernel_rfl) ?hqh16 ?hyh16 hHeld ?hrh16
            case hih16 =>
              simp only [List.getElem?_toArray, List.getElem?_cons_succ, List.getElem?_cons_zero]
              rfl
            case hqh16 => exact fun _ _ _ h => h
            case hyh16 => exact Or.inl ⟨by kernel_rfl, fun w hSw => by go_simp⟩
            try simp only [Act.put, List.setIfInBounds_toArray, List.set_cons_zero, List.set_cons_succ]
            refine wpAnyH_take (i := 17) (oi := ?oih17) (v := .slice (some ⟨sg, 0, none⟩) nn sc) ?hih17 (by kernel_rfl) (by kernel_rfl) (by kernel_rfl) ?hqh17 ?hyh17 hHeld ?hrh17
            case hih17 =>
              simp only [List.getElem?_toArray, List.getElem?_cons_succ, List.getElem?_cons_zero]
              rfl
            case hqh17 => exact fun _ _ _ h => h
            case hyh17 => exact Or.inl ⟨by kernel_rfl, fun w hSw => by go_simp⟩
            try simp only [Act.put, List.setIfInBounds_toArray, List.set_cons_zero, List.set_cons_succ]
            refine wpAnyH_take (i := 18) (oi := ?oih18) (v := .int .i64 (k : Int)) ?hih18 (by kernel_rfl) (by kernel_rfl) (by kernel_rfl) ?hqh18 ?hyh18 hHeld ?hrh18
            case hih18 =>
              simp only [List.getElem?_toArray, List.getElem?_cons_succ, List.getElem?_cons_zero]
              rfl
            case hqh18 => exact fun _ _ _ h => h
            case hyh18 => exact Or.inl ⟨by kernel_rfl, fun w hSw => by go_simp⟩
            try simp only [Act.put, List.setIfInBounds_toArray, List.set_cons_zero, List.set_cons_succ]
            refine wpAnyH_take (i := 19) (oi := ?oih19) (v := .pointer (some ⟨sg, k * 2, none⟩)) ?hih19 (by kernel_rfl) (by kernel_rfl) (by kernel_rfl) ?hqh19 ?hyh19 hHeld ?hrh19
            case hih19 =>
              simp only [List.getElem?_toArray, List.getElem?_cons_succ, List.getElem?_cons_zero]
              rfl
            case hqh19 => exact fun _ _ _ h => h
            case hyh19 => exact Or.inl ⟨by kernel_rfl, fun w hSw => by go_simp⟩
            try simp only [Act.put, List.setIfInBounds_toArray, List.set_cons_zero, List.set_cons_succ]
            refine wpAnyH_take (i := 20) (oi := ?oih20) (v := .pointer (some ⟨sg, k * 2 + 1, none⟩)) ?hih20 (by kernel_rfl) (by kernel_rfl) (by kernel_rfl) ?hqh20 ?hyh20 hHeld ?hrh20
            case hih20 =>
              simp only [List.getElem?_toArray, List.getElem?_cons_succ, List.getElem?_cons_zero]
              rfl
            case hqh20 => exact fun _ _ _ h => h
            case hyh20 => exact Or.inl ⟨by kernel_rfl, fun w hSw => by go_simp⟩
            try simp only [Act.put, List.setIfInBounds_toArray, List.set_cons_zero, List.set_cons_succ]
            refine wpAnyH_take (i := 21) (oi := ?oih21) (v := .int .i64 0) ?hih21 (by kernel_rfl) (by kernel_rfl) (by kernel_rfl) ?hqh21 ?hyh21 hHeld ?hrh21
            case hih21 =>
              simp only [List.getElem?_toArray, List.getElem?_cons_succ, List.getElem?_cons_zero]
              rfl
            case hqh21 => exact fun _ _ _ h => h
            case hyh21 => exact Or.inl ⟨by kernel_rfl, fun w hSw => by obtain ⟨s1, s2, s3, s4, s5⟩ := hSw; go_simp⟩
            try simp only [Act.put, List.setIfInBounds_toArray, List.set_cons_zero, List.set_cons_succ]
            refine wpAnyH_take (i := 22) (oi := ?oih22) (v := .bool false) ?hih22 (by kernel_rfl) (by kernel_rfl) (by kernel_rfl) ?hqh22 ?hyh22 hHeld ?hrh22
            case hih22 =>
              simp only [List.getElem?_toArray, List.getElem?_cons_succ, List.getElem?_cons_zero]
              rfl
            case hqh22 => exact fun _ _ _ h => h
            case hyh22 => exact Or.inl ⟨by kernel_rfl, fun w hSw => by go_simp⟩
            try simp only [Act.put, List.setIfInBounds_toArray, List.set_cons_zero, List.set_cons_succ]
            refine wpAnyH_take (i := 23) (oi := ?oih23) (v := .bool false) ?hih23 (by kernel_rfl) (by kernel_rfl) (by kernel_rfl) ?hqh23 ?hyh23 hHeld ?hrh23
            case hih23 =>
              simp only [List.getElem?_toArray, List.getElem?_cons_succ, List.getElem?_cons_zero]
              rfl
            case hqh23 => exact fun _ _ _ h => h
            case hyh23 => exact Or.inl ⟨by kernel_rfl, fun w hSw => by go_simp⟩
            try simp only [Act.put, List.setIfInBounds_toArray, List.set_cons_zero, List.set_cons_succ]
            refine wpAnyH_done (by kernel_rfl) ?_ _
            go_wp2_with fail
            go_roundw
            case rel => exact REL.out _ (Below.drew BY2.out)
            case measure => simp [intOf]; omega
          by_cases h9 : kd = 9
          · obtain ⟨op', t', h1, h2, h3, h4⟩ := HNI.out.2.2.1 (HKD.out.trans h9)
            subst h9
            rw [h2] at HXV
            obtain ⟨mx, hmx, orx⟩ := HXV.out.ex
            rw [flatP_len] at hmx
            obtain rfl : mx = op'.length := by omega
            have hmm9 : mm = op'.length + 1 := by rw [HMO.out, h1]; simp
            have hOe : O = flatP op' ++ [(t'.1 : Int), (t'.2.1 : Int)] := by rw [HON.out, h1, flatP_app]
            have h12 := (HOK.out.op t' (by rw [h1]; simp))
            have h13 := (procOk_parts (procs_of hcan h12.1).1).2.1
            have hti : t'.2.1 ≤ 12 := by omega
            obtain ⟨xa, xc, hxv', _⟩ := reads2_own orx
            subst hxv'
            obtain ⟨tp, ti, tk⟩ := t'
            simp only at h3 h4 hOe hti
            rw [h3] at e1
            rw [h4] at e2
            obtain ⟨og, oc', hfo, _, _⟩ := World.ownsRow.form OO2.out (by omega)
            cases hfo
            have y1_ : y2.cell? ⟨og, op'.length * 2, none⟩ = some (.int .i64 (tp : Int)) := by
              rw [World.ownsRow.cellAt OO2.out (op'.length * 2) (by omega), hOe, ints_append, List.getElem?_append_right (by rw [ints_length, flatP_len]; omega), ints_length, flatP_len, show op'.length * 2 - 2 * op'.length = 0 by omega]; rfl
            have y2_ : y2.cell? ⟨og, op'.length * 2 + 1, none⟩ = some (.int .i64 (ti : Int)) := by
              rw [World.ownsRow.cellAt OO2.out (op'.length * 2 + 1) (by omega), hOe, ints_append, List.getElem?_append_right (by rw [ints_length, flatP_len]; omega), ints_length, flatP_len, show op'.length * 2 + 1 - 2 * op'.length = 1 by omega]; rfl
            subst hmm9
            have hm'b : op'.length ≤ 100 := by omega
            have hw1 : IntKind.i64.wrap ((op'.length : Int) + 1 - 1) = (op'.length : Int) := by rw [show (op'.length : Int) + 1 - 1 = op'.length by omega]; exact IntWalk.i64_in _ (by omega)
            have hw2 : IntKind.i64.wrap (op'.length : Int) = (op'.length : Int) := IntWalk.i64_in _ (by omega)
            have hw3 : IntKind.i64.wrap ((ti : Int) + 1) = (ti : Int) + 1 := IntWalk.i64_in _ (by omega)
            have hm1 : (op'.length : Int) < (op'.length : Int) + 1 := by omega
            clear orx h1 h2 h3 h4 HXV hmx hOe h12 h13
            go_wp2_with fail
            refine wp_region_held_drew (S := fun w' => (w'.cell? ⟨sg, k * 2, none⟩ = some (.int .i64 (tp : Int)) ∧ w'.cell? ⟨sg, k * 2 + 1, none⟩ = some (.int .i64 ((ti : Int) + 1))) ∧ w'.cell? ⟨og, op'.length * 2, none⟩ = some (.int .i64 (tp : Int)) ∧ w'.cell? ⟨og, op'.length * 2 + 1, none⟩ = some (.int .i64 (ti : Int))) (by kernel_rfl) ⟨⟨e1, e2⟩, y1_, y2_⟩ (fun hHeld => ?_)
            refine wpAnyH_take (i := 0) (oi := ?oii0) (v := .slice xa op'.length xc) ?hii0 (by kernel_rfl) (by kernel_rfl) (by kernel_rfl) ?hqi0 ?hyi0 hHeld ?hri0
            case hii0 =>
              simp only [List.getElem?_toArray, List.getElem?_cons_succ, List.getElem?_cons_zero]
              rfl
            case hqi0 => exact fun _ _ _ h => h
            case hyi0 => exact Or.inl ⟨by kernel_rfl, fun w hSw => by go_simp⟩
            try simp only [Act.put, List.setIfInBounds_toArray, List.set_cons_zero, List.set_cons_succ]
            refine wpAnyH_take (i := 1) (oi := ?oii1) (v := .int .i64 (op'.length : Int)) ?hii1 (by kernel_rfl) (by kernel_rfl) (by kernel_rfl) ?hqi1 ?hyi1 hHeld ?hri1
            case hii1 =>
              simp only [List.getElem?_toArray, List.getElem?_cons_succ, List.getElem?_cons_zero]
              rfl
            case hqi1 => exact fun _ _ _ h => h
            case hyi1 => exact Or.inl ⟨by kernel_rfl, fun w hSw => by go_simp⟩
            try simp only [Act.put, List.setIfInBounds_toArray, List.set_cons_zero, List.set_cons_succ]
            refine wpAnyH_take (i := 2) (oi := ?oii2) (v := .slice (some ⟨og, 0, none⟩) (op'.length + 1) oc) ?hii2 (by kernel_rfl) (by kernel_rfl) (by kernel_rfl) ?hqi2 ?hyi2 hHeld ?hri2
            case hii2 =>
              simp only [List.getElem?_toArray, List.getElem?_cons_succ, List.getElem?_cons_zero]
              rfl
            case hqi2 => exact fun _ _ _ h => h
            case hyi2 => exact Or.inl ⟨by kernel_rfl, fun w hSw => by go_simp⟩
            try simp only [Act.put, List.setIfInBounds_toArray, List.set_cons_zero, List.set_cons_succ]
            refine wpAnyH_take (i := 3) (oi := ?oii3) (v := .int .i64 ((op'.length : Int) + 1)) ?hii3 (by kernel_rfl) (by kernel_rfl) (by kernel_rfl) ?hqi3 ?hyi3 hHeld ?hri3
            case hii3 =>
              simp only [List.getElem?_toArray, List.getElem?_cons_succ, List.getElem?_cons_zero]
              rfl
            case hqi3 => exact fun _ _ _ h => h
            case hyi3 => exact Or.inl ⟨by kernel_rfl, fun w hSw => by go_simp⟩
            try simp only [Act.put, List.setIfInBounds_toArray, List.set_cons_zero, List.set_cons_succ]
            refine wpAnyH_take (i := 4) (oi := ?oii4) (v := .int .i64 (op'.length : Int)) ?hii4 (by kernel_rfl) (by kernel_rfl) (by kernel_rfl) ?hqi4 ?hyi4 hHeld ?hri4
            case hii4 =>
              simp only [List.getElem?_toArray, List.getElem?_cons_succ, List.getElem?_cons_zero]
              rfl
            case hqi4 => exact fun _ _ _ h => h
            case hyi4 => exact Or.inl ⟨by kernel_rfl, fun w hSw => by go_simp⟩
            try simp only [Act.put, List.setIfInBounds_toArray, List.set_cons_zero, List.set_cons_succ]
            refine wpAnyH_take (i := 5) (oi := ?oii5) (v := .bool false) ?hii5 (by kernel_rfl) (by kernel_rfl) (by kernel_rfl) ?hqi5 ?hyi5 hHeld ?hri5
            case hii5 =>
              simp only [List.getElem?_toArray, List.getElem?_cons_succ, List.getElem?_cons_zero]
              rfl
            case hqi5 => exact fun _ _ _ h => h
            case hyi5 => exact Or.inl ⟨by kernel_rfl, fun w hSw => by go_simp⟩
            try simp only [Act.put, List.setIfInBounds_toArray, List.set_cons_zero, List.set_cons_succ]
            refine wpAnyH_take (i := 6) (oi := ?oii6) (v := .bool false) ?hii6 (by kernel_rfl) (by kernel_rfl) (by kernel_rfl) ?hqi6 ?hyi6 hHeld ?hri6
            case hii6 =>
              simp only [List.getElem?_toArray, List.getElem?_cons_succ, List.getElem?_cons_zero]
              rfl
            case hqi6 => exact fun _ _ _ h => h
            case hyi6 => exact Or.inl ⟨by kernel_rfl, fun w hSw => by go_simp⟩
            try simp only [Act.put, List.setIfInBounds_toArray, List.set_cons_zero, List.set_cons_succ]
            refine wpAnyH_take (i := 7) (oi := ?oii7) (v := .slice (some ⟨sg, 0, none⟩) nn sc) ?hii7 (by kernel_rfl) (by kernel_rfl) (by kernel_rfl) ?hqi7 ?hyi7 hHeld ?hri7
            case hii7 =>
              simp only [List.getElem?_toArray, List.getElem?_cons_succ, List.getElem?_cons_zero]
              rfl
            case hqi7 => exact fun _ _ _ h => h
            case hyi7 => exact Or.inl ⟨by kernel_rfl, fun w hSw => by go_simp⟩
            try simp only [Act.put, List.setIfInBounds_toArray, List.set_cons_zero, List.set_cons_succ]
            refine wpAnyH_take (i := 8) (oi := ?oii8) (v := .int .i64 (k : Int)) ?hii8 (by kernel_rfl) (by kernel_rfl) (by kernel_rfl) ?hqi8 ?hyi8 hHeld ?hri8
            case hii8 =>
              simp only [List.getElem?_toArray, List.getElem?_cons_succ, List.getElem?_cons_zero]
              rfl
            case hqi8 => exact fun _ _ _ h => h
            case hyi8 => exact Or.inl ⟨by kernel_rfl, fun w hSw => by go_simp⟩
            try simp only [Act.put, List.setIfInBounds_toArray, List.set_cons_zero, List.set_cons_succ]
            refine wpAnyH_take (i := 9) (oi := ?oii9) (v := .pointer (some ⟨sg, k * 2, none⟩)) ?hii9 (by kernel_rfl) (by kernel_rfl) (by kernel_rfl) ?hqi9 ?hyi9 hHeld ?hri9
            case hii9 =>
              simp only [List.getElem?_toArray, List.getElem?_cons_succ, List.getElem?_cons_zero]
              rfl
            case hqi9 => exact fun _ _ _ h => h
            case hyi9 => exact Or.inl ⟨by kernel_rfl, fun w hSw => by go_simp⟩
            try simp only [Act.put, List.setIfInBounds_toArray, List.set_cons_zero, List.set_cons_succ]
            refine wpAnyH_take (i := 10) (oi := ?oii10) (v := .agg #[.int .i64 (tp : Int), .int .i64 ((ti : Int) + 1)]) ?hii10 (by kernel_rfl) (by kernel_rfl) (by kernel_rfl) ?hqi10 ?hyi10 hHeld ?hri10
            case hii10 =>
              simp only [List.getElem?_toArray, List.getElem?_cons_succ, List.getElem?_cons_zero]
              rfl
            case hqi10 => exact fun _ _ _ h => h
            case hyi10 => exact Or.inl ⟨by kernel_rfl, fun w hSw => by obtain ⟨⟨s1, s2⟩, s3, s4⟩ := hSw; go_simp⟩
            try simp only [Act.put, List.setIfInBounds_toArray, List.set_cons_zero, List.set_cons_succ]
            refine wpAnyH_take (i := 11) (oi := ?oii11) (v := .slice (some ⟨og, 0, none⟩) (op'.length + 1) oc) ?hii11 (by kernel_rfl) (by kernel_rfl) (by kernel_rfl) ?hqi11 ?hyi11 hHeld ?hri11
            case hii11 =>
              simp only [List.getElem?_toArray, List.getElem?_cons_succ, List.getElem?_cons_zero]
              rfl
            case hqi11 => exact fun _ _ _ h => h
            case hyi11 => exact Or.inl ⟨by kernel_rfl, fun w hSw => by go_simp⟩
            try simp only [Act.put, List.setIfInBounds_toArray, List.set_cons_zero, List.set_cons_succ]
            refine wpAnyH_take (i := 12) (oi := ?oii12) (v := .slice (some ⟨og, 0, none⟩) (op'.length + 1) oc) ?hii12 (by kernel_rfl) (by kernel_rfl) (by kernel_rfl) ?hqi12 ?hyi12 hHeld ?hri12
            case hii12 =>
              simp only [List.getElem?_toArray, List.getElem?_cons_succ, List.getElem?_cons_zero]
              rfl
            case hqi12 => exact fun _ _ _ h => h
            case hyi12 => exact Or.inl ⟨by kernel_rfl, fun w hSw => by go_simp⟩
            try simp only [Act.put, List.setIfInBounds_toArray, List.set_cons_zero, List.set_cons_succ]
            refine wpAnyH_take (i := 13) (oi := ?oii13) (v := .int .i64 ((op'.length : Int) + 1)) ?hii13 (by kernel_rfl) (by kernel_rfl) (by kernel_rfl) ?hqi13 ?hyi13 hHeld ?hri13
            case hii13 =>
              simp only [List.getElem?_toArray, List.getElem?_cons_succ, List.getElem?_cons_zero]
              rfl
            case hqi13 => exact fun _ _ _ h => h
            case hyi13 => exact Or.inl ⟨by kernel_rfl, fun w hSw => by go_simp⟩
            try simp only [Act.put, List.setIfInBounds_toArray, List.set_cons_zero, List.set_cons_succ]
            refine wpAnyH_take (i := 14) (oi := ?oii14) (v := .int .i64 (op'.length : Int)) ?hii14 (by kernel_rfl) (by kernel_rfl) (by kernel_rfl) ?hqi14 ?hyi14 hHeld ?hri14
            case hii14 =>
              simp only [List.getElem?_toArray, List.getElem?_cons_succ, List.getElem?_cons_zero]
              rfl
            case hqi14 => exact fun _ _ _ h => h
            case hyi14 => exact Or.inl ⟨by kernel_rfl, fun w hSw => by go_simp⟩
            try simp only [Act.put, List.setIfInBounds_toArray, List.set_cons_zero, List.set_cons_succ]
            refine wpAnyH_take (i := 15) (oi := ?oii15) (v := .pointer (some ⟨og, op'.length * 2, none⟩)) ?hii15 (by kernel_rfl) (by kernel_rfl) (by kernel_rfl) ?hqi15 ?hyi15 hHeld ?hri15
            case hii15 =>
              simp only [List.getElem?_toArray, List.getElem?_cons_succ, List.getElem?_cons_zero]
              rfl
            case hqi15 => exact fun _ _ _ h => h
            case hyi15 => exact Or.inl ⟨by kernel_rfl, fun w hSw => by go_simp⟩
            try simp only [Act.put, List.setIfInBounds_toArray, List.set_cons_zero, List.set_cons_succ]
            refine wpAnyH_take (i := 16) (oi := ?oii16) (v := .pointer (some ⟨og, op'.length * 2, none⟩)) ?hii16 (by kernel_rfl) (by kernel_rfl) (by kernel_rfl) ?hqi16 ?hyi16 hHeld ?hri16
            case hii16 =>
              simp only [List.getElem?_toArray, List.getElem?_cons_succ, List.getElem?_cons_zero]
              rfl
            case hqi16 => exact fun _ _ _ h => h
            case hyi16 => exact Or.inl ⟨by kernel_rfl, fun w hSw => by go_simp⟩
            try simp only [Act.put, List.setIfInBounds_toArray, List.set_cons_zero, List.set_cons_succ]
            refine wpAnyH_take (i := 17) (oi := ?oii17) (v := .int .i64 (tp : Int)) ?hii17 (by kernel_rfl) (by kernel_rfl) (by kernel_rfl) ?hqi17 ?hyi17 hHeld ?hri17
            case hii17 =>
              simp only [List.getElem?_toArray, List.getElem?_cons_succ, List.getElem?_cons_zero]
              rfl
            case hqi17 => exact fun _ _ _ h => h
            case hyi17 => exact Or.inl ⟨by kernel_rfl, fun w hSw => by obtain ⟨⟨s1, s2⟩, s3, s4⟩ := hSw; go_simp⟩
            try simp only [Act.put, List.setIfInBounds_toArray, List.set_cons_zero, List.set_cons_succ]
            refine wpAnyH_take (i := 18) (oi := ?oii18) (v := .slice (some ⟨og, 0, none⟩) (op'.length + 1) oc) ?hii18 (by kernel_rfl) (by kernel_rfl) (by kernel_rfl) ?hqi18 ?hyi18 hHeld ?hri18
            case hii18 =>
              simp only [List.getElem?_toArray, List.getElem?_cons_succ, List.getElem?_cons_zero]
              rfl
            case hqi18 => exact fun _ _ _ h => h
            case hyi18 => exact Or.inl ⟨by kernel_rfl, fun w hSw => by go_simp⟩
            try simp only [Act.put, List.setIfInBounds_toArray, List.set_cons_zero, List.set_cons_succ]
            refine wpAnyH_take (i := 19) (oi := ?oii19) (v := .slice (some ⟨og, 0, none⟩) (op'.length + 1) oc) ?hii19 (by kernel_rfl) (by kernel_rfl) (by kernel_rfl) ?hqi19 ?hyi19 hHeld ?hri19
            case hii19 =>
              simp only [List.getElem?_toArray, List.getElem?_cons_succ, List.getElem?_cons_zero]
              rfl
            case hqi19 => exact fun _ _ _ h => h
            case hyi19 => exact Or.inl ⟨by kernel_rfl, fun w hSw => by go_simp⟩
            try simp only [Act.put, List.setIfInBounds_toArray, List.set_cons_zero, List.set_cons_succ]
            refine wpAnyH_take (i := 20) (oi := ?oii20) (v := .int .i64 ((op'.length : Int) + 1)) ?hii20 (by kernel_rfl) (by kernel_rfl) (by kernel_rfl) ?hqi20 ?hyi20 hHeld ?hri20
            case hii20 =>
              simp only [List.getElem?_toArray, List.getElem?_cons_succ, List.getElem?_cons_zero]
              rfl
            case hqi20 => exact fun _ _ _ h => h
            case hyi20 => exact Or.inl ⟨by kernel_rfl, fun w hSw => by go_simp⟩
            try simp only [Act.put, List.setIfInBounds_toArray, List.set_cons_zero, List.set_cons_succ]
            refine wpAnyH_take (i := 21) (oi := ?oii21) (v := .int .i64 (op'.length : Int)) ?hii21 (by kernel_rfl) (by kernel_rfl) (by kernel_rfl) ?hqi21 ?hyi21 hHeld ?hri21
            case hii21 =>
              simp only [List.getElem?_toArray, List.getElem?_cons_succ, List.getElem?_cons_zero]
              rfl
            case hqi21 => exact fun _ _ _ h => h
            case hyi21 => exact Or.inl ⟨by kernel_rfl, fun w hSw => by go_simp⟩
            try simp only [Act.put, List.setIfInBounds_toArray, List.set_cons_zero, List.set_cons_succ]
            refine wpAnyH_take (i := 22) (oi := ?oii22) (v := .pointer (some ⟨og, op'.length * 2, none⟩)) ?hii22 (by kernel_rfl) (by kernel_rfl) (by kernel_rfl) ?hqi22 ?hyi22 hHeld ?hri22
            case hii22 =>
              simp only [List.getElem?_toArray, List.getElem?_cons_succ, List.getElem?_cons_zero]
              rfl
            case hqi22 => exact fun _ _ _ h => h
            case hyi22 => exact Or.inl ⟨by kernel_rfl, fun w hSw => by go_simp⟩
            try simp only [Act.put, List.setIfInBounds_toArray, List.set_cons_zero, List.set_cons_succ]
            refine wpAnyH_take (i := 23) (oi := ?oii23) (v := .pointer (some ⟨og, op'.length * 2 + 1, none⟩)) ?hii23 (by kernel_rfl) (by kernel_rfl) (by kernel_rfl) ?hqi23 ?hyi23 hHeld ?hri23
            case hii23 =>
              simp only [List.getElem?_toArray, List.getElem?_cons_succ, List.getElem?_cons_zero]
              rfl
            case hqi23 => exact fun _ _ _ h => h
            case hyi23 => exact Or.inl ⟨by kernel_rfl, fun w hSw => by go_simp⟩
            try simp only [Act.put, List.setIfInBounds_toArray, List.set_cons_zero, List.set_cons_succ]
            refine wpAnyH_take (i := 24) (oi := ?oii24) (v := .int .i64 (ti : Int)) ?hii24 (by kernel_rfl) (by kernel_rfl) (by kernel_rfl) ?hqi24 ?hyi24 hHeld ?hri24
            case hii24 =>
              simp only [List.getElem?_toArray, List.getElem?_cons_succ, List.getElem?_cons_zero]
              rfl
            case hqi24 => exact fun _ _ _ h => h
            case hyi24 => exact Or.inl ⟨by kernel_rfl, fun w hSw => by obtain ⟨⟨s1, s2⟩, s3, s4⟩ := hSw; go_simp⟩
            try simp only [Act.put, List.setIfInBounds_toArray, List.set_cons_zero, List.set_cons_succ]
            refine wpAnyH_take (i := 25) (oi := ?oii25) (v := .int .i64 ((ti : Int) + 1)) ?hii25 (by kernel_rfl) (by kernel_rfl) (by kernel_rfl) ?hqi25 ?hyi25 hHeld ?hri25
            case hii25 =>
              simp only [List.getElem?_toArray, List.getElem?_cons_succ, List.getElem?_cons_zero]
              rfl
            case hqi25 => exact fun _ _ _ h => h
            case hyi25 => exact Or.inl ⟨by kernel_rfl, fun w hSw => by go_simp⟩
            try simp only [Act.put, List.setIfInBounds_toArray, List.set_cons_zero, List.set_cons_succ]
            refine wpAnyH_take (i := 26) (oi := ?oii26) (v := .agg #[.int .i64 (tp : Int), .int .i64 ((ti : Int) + 1)]) ?hii26 (by kernel_rfl) (by kernel_rfl) (by kernel_rfl) ?hqi26 ?hyi26 hHeld ?hri26
            case hii26 =>
              simp only [List.getElem?_toArray, List.getElem?_cons_succ, List.getElem?_cons_zero]
              rfl
            case hqi26 => exact fun _ _ _ h => h
            case hyi26 => exact Or.inl ⟨by kernel_rfl, fun w hSw => by go_simp⟩
            try simp only [Act.put, List.setIfInBounds_toArray, List.set_cons_zero, List.set_cons_succ]
            refine wpAnyH_take (i := 27) (oi := ?oii27) (v := .bool false) ?hii27 (by kernel_rfl) (by kernel_rfl) (by kernel_rfl) ?hqi27 ?hyi27 hHeld ?hri27
            case hii27 =>
              simp only [List.getElem?_toArray, List.getElem?_cons_succ, List.getElem?_cons_zero]
              rfl
            case hqi27 => exact fun _ _ _ h => h
            case hyi27 => exact Or.inl ⟨by kernel_rfl, fun w hSw => by go_simp⟩
            try simp only [Act.put, List.setIfInBounds_toArray, List.set_cons_zero, List.set_cons_succ]
            refine wpAnyH_take (i := 28) (oi := ?oii28) (v := .bool false) ?hii28 (by kernel_rfl) (by kernel_rfl) (by kernel_rfl) ?hqi28 ?hyi28 hHeld ?hri28
            case hii28 =>
              simp only [List.getElem?_toArray, List.getElem?_cons_succ, List.getElem?_cons_zero]
              rfl
            case hqi28 => exact fun _ _ _ h => h
            case hyi28 => exact Or.inl ⟨by kernel_rfl, fun w hSw => by go_simp⟩
            try simp only [Act.put, List.setIfInBounds_toArray, List.set_cons_zero, List.set_cons_succ]
            refine wpAnyH_done (by kernel_rfl) ?_ _
            go_wp2_with fail
            go_roundw
            case rel => exact REL.out _ (Below.drew BY2.out)
            case measure => simp [intOf]; omega
          obtain ⟨h1, h2⟩ := HNI.out.2.2.2 (fun h => h8 (HKD.out.symm.trans h)) (fun h => h9 (HKD.out.symm.trans h))
          rw [h1, ← HON.out] at HXV
          rw [h2, HP.out] at e1
          obtain ⟨mx, hmx, orx⟩ := HXV.out.ex
          obtain rfl : mx = mm := by omega
          obtain ⟨xa, xc, hxv', _⟩ := reads2_own orx
          subst hxv'
          have hx8 : (kd == 8) = false := by simpa using h8
          have hx9 : (kd == 9) = false := by simpa using h9
          have hlk := fun Y (hY : Below y2.heap.size y2 Y) => likePlaces mx O _ _ Y hmO (by omega) (reads2_below (reads2_own orx) hY) (reads2_below (reads2_own OO2.out) hY)
          have zs1 := World.block_lt_of_cell? y2 _ e1
          have zs2 := World.block_lt_of_cell? y2 _ e3
          clear h1 h2 hmx HXV
          go_wp2_with fail
          refine wp_region_held_drew (S := fun w' => w'.cell? ⟨sg, k * 2, none⟩ = some (.int .i64 (P : Int)) ∧ w'.cell? ⟨w8.heap.size, 0, none⟩ = some (.int .i64 (P : Int))) (by kernel_rfl) ⟨e1, e3⟩ (fun hHeld => ?_)
          refine wpAnyH_take (i := 0) (oi := ?oij0) (v := .slice xa mx xc) ?hij0 (by kernel_rfl) (by kernel_rfl) (by kernel_rfl) ?hqj0 ?hyj0 hHeld ?hrj0
          case hij0 =>
            simp only [List.getElem?_toArray, List.getElem?_cons_succ, List.getElem?_cons_zero]
            rfl
          case hqj0 => exact fun _ _ _ h => h
          case hyj0 => exact Or.inl ⟨by kernel_rfl, fun w hSw => by go_simp⟩
          try simp only [Act.put, List.setIfInBounds_toArray, List.set_cons_zero, List.set_cons_succ]
          refine wpAnyH_take (i := 1) (oi := ?oij1) (v := .slice oa mx oc) ?hij1 (by kernel_rfl) (by kernel_rfl) (by kernel_rfl) ?hqj1 ?hyj1 hHeld ?hrj1
          case hij1 =>
            simp only [List.getElem?_toArray, List.getElem?_cons_succ, List.getElem?_cons_zero]
            rfl
          case hqj1 => exact fun _ _ _ h => h
          case hyj1 => exact Or.inl ⟨by kernel_rfl, fun w hSw => by go_simp⟩
          try simp only [Act.put, List.setIfInBounds_toArray, List.set_cons_zero, List.set_cons_succ]
          refine wpAnyH_ready (rs := [2]) (by kernel_rfl) (by simp) ?_
          refine (AllReadyH.cons (o := ?ooj2) ?hoj2 (fun K hK => ?hkj2) AllReadyH.nil)
          case hoj2 =>
            simp only [List.getElem?_toArray, List.getElem?_cons_succ, List.getElem?_cons_zero]
            rfl
          case hkj2 =>
            go_simp
            go_at_call 8
            refine (hlk y2.drew (by go_grown)).mono ?_
            rintro e y3 ⟨rfl, b3_⟩
            have BY3' : Hid (Below y2.heap.size y2 y3) := Below.trans (by go_grown) b3_
            have BY3 : Hid (Below X.heap.size X y3) := BY2.out.trans (BY3'.out.mono BY2.out.size)
            clear b3_
            try go_wp2_with fail
            refine hK.out _ _ ⟨(BY3'.out.cell zs1).trans e1, (BY3'.out.cell zs2).trans e3⟩ (fun hHeld => ?_)
            clear hK K
            try simp only [Act.put, List.setIfInBounds_toArray, List.set_cons_zero, List.set_cons_succ]
            refine wpAnyH_take (i := 3) (oi := ?oij3) (v := .bool false) ?hij3 (by kernel_rfl) (by kernel_rfl) (by kernel_rfl) ?hqj3 ?hyj3 hHeld ?hrj3
            case hij3 =>
              simp only [List.getElem?_toArray, List.getElem?_cons_succ, List.getElem?_cons_zero]
              rfl
            case hqj3 => exact fun _ _ _ h => h
            case hyj3 => exact Or.inl ⟨by kernel_rfl, fun w hSw => by go_simp⟩
            try simp only [Act.put, List.setIfInBounds_toArray, List.set_cons_zero, List.set_cons_succ]
            refine wpAnyH_take (i := 4) (oi := ?oij4) (v := .bool false) ?hij4 (by kernel_rfl) (by kernel_rfl) (by kernel_rfl) ?hqj4 ?hyj4 hHeld ?hrj4
            case hij4 =>
              simp only [List.getElem?_toArray, List.getElem?_cons_succ, List.getElem?_cons_zero]
              rfl
            case hqj4 => exact fun _ _ _ h => h
            case hyj4 => exact Or.inl ⟨by kernel_rfl, fun w hSw => by go_simp⟩
            try simp only [Act.put, List.setIfInBounds_toArray, List.set_cons_zero, List.set_cons_succ]
            refine wpAnyH_take (i := 5) (oi := ?oij5) (v := .slice (some ⟨sg, 0, none⟩) nn sc) ?hij5 (by kernel_rfl) (by kernel_rfl) (by kernel_rfl) ?hqj5 ?hyj5 hHeld ?hrj5
            case hij5 =>
              simp only [List.getElem?_toArray, List.getElem?_cons_succ, List.getElem?_cons_zero]
              rfl
            case hqj5 => exact fun _ _ _ h => h
            case hyj5 => exact Or.inl ⟨by kernel_rfl, fun w hSw => by go_simp⟩
            try simp only [Act.put, List.setIfInBounds_toArray, List.set_cons_zero, List.set_cons_succ]
            refine wpAnyH_take (i := 6) (oi := ?oij6) (v := .int .i64 (k : Int)) ?hij6 (by kernel_rfl) (by kernel_rfl) (by kernel_rfl) ?hqj6 ?hyj6 hHeld ?hrj6
            case hij6 =>
              simp only [List.getElem?_toArray, List.getElem?_cons_succ, List.getElem?_cons_zero]
              rfl
            case hqj6 => exact fun _ _ _ h => h
            case hyj6 => exact Or.inl ⟨by kernel_rfl, fun w hSw => by go_simp⟩
            try simp only [Act.put, List.setIfInBounds_toArray, List.set_cons_zero, List.set_cons_succ]
            refine wpAnyH_take (i := 7) (oi := ?oij7) (v := .pointer (some ⟨sg, k * 2, none⟩)) ?hij7 (by kernel_rfl) (by kernel_rfl) (by kernel_rfl) ?hqj7 ?hyj7 hHeld ?hrj7
            case hij7 =>
              simp only [List.getElem?_toArray, List.getElem?_cons_succ, List.getElem?_cons_zero]
              rfl
            case hqj7 => exact fun _ _ _ h => h
            case hyj7 => exact Or.inl ⟨by kernel_rfl, fun w hSw => by go_simp⟩
            try simp only [Act.put, List.setIfInBounds_toArray, List.set_cons_zero, List.set_cons_succ]
            refine wpAnyH_take (i := 8) (oi := ?oij8) (v := .pointer (some ⟨sg, k * 2, none⟩)) ?hij8 (by kernel_rfl) (by kernel_rfl) (by kernel_rfl) ?hqj8 ?hyj8 hHeld ?hrj8
            case hij8 =>
              simp only [List.getElem?_toArray, List.getElem?_cons_succ, List.getElem?_cons_zero]
              rfl
            case hqj8 => exact fun _ _ _ h => h
            case hyj8 => exact Or.inl ⟨by kernel_rfl, fun w hSw => by go_simp⟩
            try simp only [Act.put, List.setIfInBounds_toArray, List.set_cons_zero, List.set_cons_succ]
            refine wpAnyH_take (i := 9) (oi := ?oij9) (v := .int .i64 (P : Int)) ?hij9 (by kernel_rfl) (by kernel_rfl) (by kernel_rfl) ?hqj9 ?hyj9 hHeld ?hrj9
            case hij9 =>
              simp only [List.getElem?_toArray, List.getElem?_cons_succ, List.getElem?_cons_zero]
              rfl
            case hqj9 => exact fun _ _ _ h => h
            case hyj9 => exact Or.inl ⟨by kernel_rfl, fun w hSw => by obtain ⟨s1, s2⟩ := hSw; go_simp⟩
            try simp only [Act.put, List.setIfInBounds_toArray, List.set_cons_zero, List.set_cons_succ]
            refine wpAnyH_take (i := 10) (oi := ?oij10) (v := .pointer (some ⟨w8.heap.size, 0, none⟩)) ?hij10 (by kernel_rfl) (by kernel_rfl) (by kernel_rfl) ?hqj10 ?hyj10 hHeld ?hrj10
            case hij10 =>
              simp only [List.getElem?_toArray, List.getElem?_cons_succ, List.getElem?_cons_zero]
              rfl
            case hqj10 => exact fun _ _ _ h => h
            case hyj10 => exact Or.inl ⟨by kernel_rfl, fun w hSw => by go_simp⟩
            try simp only [Act.put, List.setIfInBounds_toArray, List.set_cons_zero, List.set_cons_succ]
            refine wpAnyH_take (i := 11) (oi := ?oij11) (v := .int .i64 (P : Int)) ?hij11 (by kernel_rfl) (by kernel_rfl) (by kernel_rfl) ?hqj11 ?hyj11 hHeld ?hrj11
            case hij11 =>
              simp only [List.getElem?_toArray, List.getElem?_cons_succ, List.getElem?_cons_zero]
              rfl
            case hqj11 => exact fun _ _ _ h => h
            case hyj11 => exact Or.inl ⟨by kernel_rfl, fun w hSw => by obtain ⟨s1, s2⟩ := hSw; go_simp⟩
            try simp only [Act.put, List.setIfInBounds_toArray, List.set_cons_zero, List.set_cons_succ]
            refine wpAnyH_take (i := 12) (oi := ?oij12) (v := .bool false) ?hij12 (by kernel_rfl) (by kernel_rfl) (by kernel_rfl) ?hqj12 ?hyj12 hHeld ?hrj12
            case hij12 =>
              simp only [List.getElem?_toArray, List.getElem?_cons_succ, List.getElem?_cons_zero]
              rfl
            case hqj12 => exact fun _ _ _ h => h
            case hyj12 => exact Or.inl ⟨by kernel_rfl, fun w hSw => by go_simp⟩
            try simp only [Act.put, List.setIfInBounds_toArray, List.set_cons_zero, List.set_cons_succ]
            refine wpAnyH_take (i := 13) (oi := ?oij13) (v := .bool false) ?hij13 (by kernel_rfl) (by kernel_rfl) (by kernel_rfl) ?hqj13 ?hyj13 hHeld ?hrj13
            case hij13 =>
              simp only [List.getElem?_toArray, List.getElem?_cons_succ, List.getElem?_cons_zero]
              rfl
            case hqj13 => exact fun _ _ _ h => h
            case hyj13 => exact Or.inl ⟨by kernel_rfl, fun w hSw => by go_simp⟩
            try simp only [Act.put, List.setIfInBounds_toArray, List.set_cons_zero, List.set_cons_succ]
            refine wpAnyH_done (by kernel_rfl) ?_ _
            go_wp2_with fail
            go_roundw
            case rel => exact REL.out _ BY3.out
            case measure => simp [intOf]; omega
      · have hkk : k = nn := by omega
        subst hkk
        have hpk1 := fun Y hr => lawPick bs v 1 4 Y (by omega) hby hr (by omega) (by omega) (by omega)
        have hpk2 := fun Y hr => lawPick bs v 2 12 Y (by omega) hby hr (by omega) (by omega) (by omega)
        have BWr : Hid (Below w.heap.size w wr) := BWX.out.trans (hB.mono BWX.out.size)
        go_wp2_with fail
        go_at_call 13
        refine (hpk1 wr (reads_below hv BWr.out)).mono ?_
        rintro e p1 ⟨a, rfl, _, _, bp1⟩
        have BP1 : Hid (Below w.heap.size w p1) := BWr.out.trans (bp1.mono BWr.out.size)
        have BX1 : Hid (Below X.heap.size X p1) := HB.out.trans (bp1.mono HB.out.size)
        clear bp1 hB hpk1
        go_wp2_with fail
        go_at_call 13
        refine (hpk2 p1 (reads_below hv BP1.out)).mono ?_
        rintro e p2 ⟨b, rfl, _, _, bp2⟩
        have BP2 : Hid (Below w.heap.size w p2) := BP1.out.trans (bp2.mono BP1.out.size)
        have BX2 : Hid (Below X.heap.size X p2) := BX1.out.trans (bp2.mono BX1.out.size)
        clear bp2 hpk2 BX1 BP1
        obtain ⟨Z, hZ⟩ : ∃ Z, p2.alloc (.cells #[.int .i64 a, .int .i64 b] 34) = Z := ⟨_, rfl⟩
        have bZ : Below p2.heap.size p2 Z := by rw [← hZ]; go_grown
        have HZ : Hid (Z.heap[p2.heap.size]? = some (.cells #[.int .i64 a, .int .i64 b] 34 (0, 0))) := by show _ = _; rw [← hZ]; exact heap_alloc_new p2 _
        have BPZ : Hid (Below w.heap.size w Z) := BP2.out.trans (bZ.mono BP2.out.size)
        have BXZ : Hid (Below X.heap.size X Z) := BX2.out.trans (bZ.mono BX2.out.size)
        have hzZ : p2.heap.size < Z.heap.size := (Array.getElem?_eq_some_iff.1 HZ.out).1
        clear bZ BP2 BX2
        obtain ⟨z0, z1⟩ := go_cells2 HZ.out
        go_wp2_with fail
        go_loopw [13, 14] (fun fv iv wq => ∃ j : Nat, j ≤ k ∧ iv = .int .i64 j ∧ fv = .bool (hasN S a b j) ∧ Below Z.heap.size Z wq) (fun _ iv _ => k - (intOf iv).toNat)
        case atStart => exact ⟨0, Nat.zero_le _, rfl, rfl, Below.refl _ _⟩
        case round =>
          obtain ⟨j, hj, rfl, rfl, hbq⟩ := hrel
          have HBQ : Hid (Below Z.heap.size Z wr) := hbq
          by_cases hjl : j < k
          · have hjl' : (j : Int) < (k : Int) := by omega
            have OSq : Hid (wr.ownsRow W.heap.size 34 2 (.slice sa k sc) k (ints S)) := own_kept (own_kept OSX.out BXZ.out) hbq
            obtain ⟨sg, sc', hfs, _, _⟩ := World.ownsRow.form OSq.out (by omega)
            cases hfs
            have q1 : wr.cell? ⟨sg, j * 2, none⟩ = some (.int .i64 (S.getD (j * 2) 0)) := by rw [World.ownsRow.cellAt OSq.out (j * 2) (by omega)]; simp [ints, List.getD, show j * 2 < S.length by omega]
            have q2 : wr.cell? ⟨sg, j * 2 + 1, none⟩ = some (.int .i64 (S.getD (j * 2 + 1) 0)) := by rw [World.ownsRow.cellAt OSq.out (j * 2 + 1) (by omega)]; simp [ints, List.getD, show j * 2 + 1 < S.length by omega]
            have r3 := (hbq.cell (p := ⟨p2.heap.size, 0, none⟩) hzZ).trans z0
            have r4 := (hbq.cell (p := ⟨p2.heap.size, 1, none⟩) hzZ).trans z1
            have HSTP : Hid (hasN S a b (j + 1) = (hasN S a b j || (decide (S.getD (j * 2) 0 = a) && decide (S.getD (j * 2 + 1) 0 = b)))) := rfl
            clear hbq OSq
            generalize S.getD (j * 2) 0 = x at *
            generalize S.getD (j * 2 + 1) 0 = y at *
            cases hf : hasN S a b j with
            | true =>
              have HF1 : Hid (hasN S a b (j + 1) = true) := by show _ = _; rw [HSTP.out, hf, Bool.true_or]
              clear hf HSTP
              go_wp2_with fail
              refine wp_region_held_drew (S := fun w' => (w'.cell? ⟨sg, j * 2, none⟩ = some (.int .i64 x) ∧ w'.cell? ⟨sg, j * 2 + 1, none⟩ = some (.int .i64 y)) ∧ w'.cell? ⟨p2.heap.size, 0, none⟩ = some (.int .i64 a) ∧ w'.cell? ⟨p2.heap.size, 1, none⟩ = some (.int .i64 b)) (by kernel_rfl) ⟨⟨q1, q2⟩, r3, r4⟩ (fun hHeld => ?_)
              refine wpAnyH_take (i := 0) (oi := ?oik0) (v := .bool true) ?hik0 (by kernel_rfl) (by kernel_rfl) (by kernel_rfl) ?hqk0 ?hyk0 hHeld ?hrk0
              case hik0 =>
                simp only [List.getElem?_toArray, List.getElem?_cons_succ, List.getElem?_cons_zero]
                rfl
              case hqk0 => exact fun _ _ _ h => h
              case hyk0 => exact Or.inl ⟨by kernel_rfl, fun w hSw => by go_simp⟩
              try simp only [Act.put, List.setIfInBounds_toArray, List.set_cons_zero, List.set_cons_succ]
              refine wpAnyH_take (i := 1) (oi := ?oik1) (v := .bool true) ?hik1 (by kernel_rfl) (by kernel_rfl) (by kernel_rfl) ?hqk1 ?hyk1 hHeld ?hrk1
              case hik1 =>
                simp only [List.getElem?_toArray, List.getElem?_cons_succ, List.getElem?_cons_zero]
                rfl
              case hqk1 => exact fun _ _ _ h => h
              case hyk1 => exact Or.inl ⟨by kernel_rfl, fun w hSw => by go_simp⟩
              try simp only [Act.put, List.setIfInBounds_toArray, List.set_cons_zero, List.set_cons_succ]
              refine wpAnyH_take (i := 2) (oi := ?oik2) (v := undef) ?hik2 (by kernel_rfl) (by kernel_rfl) (by kernel_rfl) ?hqk2 ?hyk2 hHeld ?hrk2
              case hik2 =>
                simp only [List.getElem?_toArray, List.getElem?_cons_succ, List.getElem?_cons_zero]
                rfl
              case hqk2 => exact fun _ _ _ h => h
              case hyk2 => exact Or.inr ⟨by kernel_rfl, rfl⟩
              try simp only [Act.put, List.setIfInBounds_toArray, List.set_cons_zero, List.set_cons_succ]
              refine wpAnyH_take (i := 3) (oi := ?oik3) (v := undef) ?hik3 (by kernel_rfl) (by kernel_rfl) (by kernel_rfl) ?hqk3 ?hyk3 hHeld ?hrk3
              case hik3 =>
                simp only [List.getElem?_toArray, List.getElem?_cons_succ, List.getElem?_cons_zero]
                rfl
              case hqk3 => exact fun _ _ _ h => h
              case hyk3 => exact Or.inr ⟨by kernel_rfl, rfl⟩
              try simp only [Act.put, List.setIfInBounds_toArray, List.set_cons_zero, List.set_cons_succ]
              refine wpAnyH_take (i := 4) (oi := ?oik4) (v := undef) ?hik4 (by kernel_rfl) (by kernel_rfl) (by kernel_rfl) ?hqk4 ?hyk4 hHeld ?hrk4
              case hik4 =>
                simp only [List.getElem?_toArray, List.getElem?_cons_succ, List.getElem?_cons_zero]
                rfl
              case hqk4 => exact fun _ _ _ h => h
              case hyk4 => exact Or.inr ⟨by kernel_rfl, rfl⟩
              try simp only [Act.put, List.setIfInBounds_toArray, List.set_cons_zero, List.set_cons_succ]
              refine wpAnyH_take (i := 5) (oi := ?oik5) (v := undef) ?hik5 (by kernel_rfl) (by kernel_rfl) (by kernel_rfl) ?hqk5 ?hyk5 hHeld ?hrk5
              case hik5 =>
                simp only [List.getElem?_toArray, List.getElem?_cons_succ, List.getElem?_cons_zero]
                rfl
              case hqk5 => exact fun _ _ _ h => h
              case hyk5 => exact Or.inr ⟨by kernel_rfl, rfl⟩
              try simp only [Act.put, List.setIfInBounds_toArray, List.set_cons_zero, List.set_cons_succ]
              refine wpAnyH_take (i := 6) (oi := ?oik6) (v := undef) ?hik6 (by kernel_rfl) (by kernel_rfl) (by kernel_rfl) ?hqk6 ?hyk6 hHeld ?hrk6
              case hik6 =>
                simp only [List.getElem?_toArray, List.getElem?_cons_succ, List.getElem?_cons_zero]
                rfl
              case hqk6 => exact fun _ _ _ h => h
              case hyk6 => exact Or.inr ⟨by kernel_rfl, rfl⟩
              try simp only [Act.put, List.setIfInBounds_toArray, List.set_cons_zero, List.set_cons_succ]
              refine wpAnyH_take (i := 7) (oi := ?oik7) (v := undef) ?hik7 (by kernel_rfl) (by kernel_rfl) (by kernel_rfl) ?hqk7 ?hyk7 hHeld ?hrk7
              case hik7 =>
                simp only [List.getElem?_toArray, List.getElem?_cons_succ, List.getElem?_cons_zero]
                rfl
              case hqk7 => exact fun _ _ _ h => h
              case hyk7 => exact Or.inr ⟨by kernel_rfl, rfl⟩
              try simp only [Act.put, List.setIfInBounds_toArray, List.set_cons_zero, List.set_cons_succ]
              refine wpAnyH_take (i := 8) (oi := ?oik8) (v := .bool true) ?hik8 (by kernel_rfl) (by kernel_rfl) (by kernel_rfl) ?hqk8 ?hyk8 hHeld ?hrk8
              case hik8 =>
                simp only [List.getElem?_toArray, List.getElem?_cons_succ, List.getElem?_cons_zero]
                rfl
              case hqk8 => exact fun _ _ _ h => h
              case hyk8 => exact Or.inl ⟨by kernel_rfl, fun w hSw => by go_simp⟩
              try simp only [Act.put, List.setIfInBounds_toArray, List.set_cons_zero, List.set_cons_succ]
              refine wpAnyH_take (i := 9) (oi := ?oik9) (v := .bool true) ?hik9 (by kernel_rfl) (by kernel_rfl) (by kernel_rfl) ?hqk9 ?hyk9 hHeld ?hrk9
              case hik9 =>
                simp only [List.getElem?_toArray, List.getElem?_cons_succ, List.getElem?_cons_zero]
                rfl
              case hqk9 => exact fun _ _ _ h => h
              case hyk9 => exact Or.inl ⟨by kernel_rfl, fun w hSw => by go_simp⟩
              try simp only [Act.put, List.setIfInBounds_toArray, List.set_cons_zero, List.set_cons_succ]
              refine wpAnyH_done (by kernel_rfl) ?_ _
              go_wp2_with fail
              go_roundw
              case rel => exact ⟨j + 1, by omega, by go_num, by rw [HF1.out], Below.drew HBQ.out⟩
              case measure => simp [intOf]; omega
            | false =>
              have HF1 : Hid (hasN S a b (j + 1) = (decide (x = a) && decide (y = b))) := by show _ = _; rw [HSTP.out, hf, Bool.false_or]
              clear hf HSTP
              go_wp2_with fail
              refine wp_region_held_drew (S := fun w' => (w'.cell? ⟨sg, j * 2, none⟩ = some (.int .i64 x) ∧ w'.cell? ⟨sg, j * 2 + 1, none⟩ = some (.int .i64 y)) ∧ w'.cell? ⟨p2.heap.size, 0, none⟩ = some (.int .i64 a) ∧ w'.cell? ⟨p2.heap.size, 1, none⟩ = some (.int .i64 b)) (by kernel_rfl) ⟨⟨q1, q2⟩, r3, r4⟩ (fun hHeld => ?_)
              refine wpAnyH_take (i := 0) (oi := ?oil0) (v := .bool false) ?hil0 (by kernel_rfl) (by kernel_rfl) (by kernel_rfl) ?hql0 ?hyl0 hHeld ?hrl0
              case hil0 =>
                simp only [List.getElem?_toArray, List.getElem?_cons_succ, List.getElem?_cons_zero]
                rfl
              case hql0 => exact fun _ _ _ h => h
              case hyl0 => exact Or.inl ⟨by kernel_rfl, fun w hSw => by go_simp⟩
              try simp only [Act.put, List.setIfInBounds_toArray, List.set_cons_zero, List.set_cons_succ]
              refine wpAnyH_take (i := 1) (oi := ?oil1) (v := .bool false) ?hil1 (by kernel_rfl) (by kernel_rfl) (by kernel_rfl) ?hql1 ?hyl1 hHeld ?hrl1
              case hil1 =>
                simp only [List.getElem?_toArray, List.getElem?_cons_succ, List.getElem?_cons_zero]
                rfl
              case hql1 => exact fun _ _ _ h => h
              case hyl1 => exact Or.inl ⟨by kernel_rfl, fun w hSw => by go_simp⟩
              try simp only [Act.put, List.setIfInBounds_toArray, List.set_cons_zero, List.set_cons_succ]
              refine wpAnyH_take (i := 2) (oi := ?oil2) (v := .slice (some ⟨sg, 0, none⟩) k sc) ?hil2 (by kernel_rfl) (by kernel_rfl) (by kernel_rfl) ?hql2 ?hyl2 hHeld ?hrl2
              case hil2 =>
                simp only [List.getElem?_toArray, List.getElem?_cons_succ, List.getElem?_cons_zero]
                rfl
              case hql2 => exact fun _ _ _ h => h
              case hyl2 => exact Or.inl ⟨by kernel_rfl, fun w hSw => by go_simp⟩
              try simp only [Act.put, List.setIfInBounds_toArray, List.set_cons_zero, List.set_cons_succ]
              refine wpAnyH_take (i := 3) (oi := ?oil3) (v := .int .i64 (j : Int)) ?hil3 (by kernel_rfl) (by kernel_rfl) (by kernel_rfl) ?hql3 ?hyl3 hHeld ?hrl3
              case hil3 =>
                simp only [List.getElem?_toArray, List.getElem?_cons_succ, List.getElem?_cons_zero]
                rfl
              case hql3 => exact fun _ _ _ h => h
              case hyl3 => exact Or.inl ⟨by kernel_rfl, fun w hSw => by go_simp⟩
              try simp only [Act.put, List.setIfInBounds_toArray, List.set_cons_zero, List.set_cons_succ]
              refine wpAnyH_take (i := 4) (oi := ?oil4) (v := .pointer (some ⟨sg, j * 2, none⟩)) ?hil4 (by kernel_rfl) (by kernel_rfl) (by kernel_rfl) ?hql4 ?hyl4 hHeld ?hrl4
              case hil4 =>
                simp only [List.getElem?_toArray, List.getElem?_cons_succ, List.getElem?_cons_zero]
                rfl
              case hql4 => exact fun _ _ _ h => h
              case hyl4 => exact Or.inl ⟨by kernel_rfl, fun w hSw => by go_simp⟩
              try simp only [Act.put, List.setIfInBounds_toArray, List.set_cons_zero, List.set_cons_succ]
              refine wpAnyH_take (i := 5) (oi := ?oil5) (v := .agg #[.int .i64 x, .int .i64 y]) ?hil5 (by kernel_rfl) (by kernel_rfl) (by kernel_rfl) ?hql5 ?hyl5 hHeld ?hrl5
              case hil5 =>
                simp only [List.getElem?_toArray, List.getElem?_cons_succ, List.getElem?_cons_zero]
                rfl
              case hql5 => exact fun _ _ _ h => h
              case hyl5 => exact Or.inl ⟨by kernel_rfl, fun w hSw => by obtain ⟨⟨s1, s2⟩, s3, s4⟩ := hSw; go_simp⟩
              try simp only [Act.put, List.setIfInBounds_toArray, List.set_cons_zero, List.set_cons_succ]
              refine wpAnyH_take (i := 6) (oi := ?oil6) (v := .agg #[.int .i64 a, .int .i64 b]) ?hil6 (by kernel_rfl) (by kernel_rfl) (by kernel_rfl) ?hql6 ?hyl6 hHeld ?hrl6
              case hil6 =>
                simp only [List.getElem?_toArray, List.getElem?_cons_succ, List.getElem?_cons_zero]
                rfl
              case hql6 => exact fun _ _ _ h => h
              case hyl6 => exact Or.inl ⟨by kernel_rfl, fun w hSw => by obtain ⟨⟨s1, s2⟩, s3, s4⟩ := hSw; go_simp⟩
              try simp only [Act.put, List.setIfInBounds_toArray, List.set_cons_zero, List.set_cons_succ]
              refine wpAnyH_take (i := 7) (oi := ?oil7) (v := .bool (decide (x = a) && decide (y = b))) ?hil7 (by kernel_rfl) (by kernel_rfl) (by kernel_rfl) ?hql7 ?hyl7 hHeld ?hrl7
              case hil7 =>
                simp only [List.getElem?_toArray, List.getElem?_cons_succ, List.getElem?_cons_zero]
                rfl
              case hql7 => exact fun _ _ _ h => h
              case hyl7 => exact Or.inl ⟨by kernel_rfl, fun w hSw => by go_simp; by_cases hxa : x = a <;> by_cases hyb : y = b <;> simp [hxa, hyb]⟩
              try simp only [Act.put, List.setIfInBounds_toArray, List.set_cons_zero, List.set_cons_succ]
              refine wpAnyH_take (i := 8) (oi := ?oil8) (v := .bool (decide (x = a) && decide (y = b))) ?hil8 (by kernel_rfl) (by kernel_rfl) (by kernel_rfl) ?hql8 ?hyl8 hHeld ?hrl8
              case hil8 =>
                simp only [List.getElem?_toArray, List.getElem?_cons_succ, List.getElem?_cons_zero]
                rfl
              case hql8 => exact fun _ _ _ h => h
              case hyl8 => exact Or.inl ⟨by kernel_rfl, fun w hSw => by go_simp⟩
              try simp only [Act.put, List.setIfInBounds_toArray, List.set_cons_zero, List.set_cons_succ]
              refine wpAnyH_take (i := 9) (oi := ?oil9) (v := .bool (decide (x = a) && decide (y = b))) ?hil9 (by kernel_rfl) (by kernel_rfl) (by kernel_rfl) ?hql9 ?hyl9 hHeld ?hrl9
              case hil9 =>
                simp only [List.getElem?_toArray, List.getElem?_cons_succ, List.getElem?_cons_zero]
                rfl
              case hql9 => exact fun _ _ _ h => h
              case hyl9 => exact Or.inl ⟨by kernel_rfl, fun w hSw => by go_simp⟩
              try simp only [Act.put, List.setIfInBounds_toArray, List.set_cons_zero, List.set_cons_succ]
              refine wpAnyH_done (by kernel_rfl) ?_ _
              go_wp2_with fail
              go_roundw
              case rel => exact ⟨j + 1, by omega, by go_num, by rw [HF1.out], Below.drew HBQ.out⟩
              case measure => simp [intOf]; omega
          · have hjm : j = k := by omega
            subst hjm
            have HHF : Hid (hasN S a b j = hasPl (nxW ps st) a b) := by
              show _ = _
              unfold hasPl
              rw [← HSN.out, hnS, Nat.mul_div_cancel_left j (by omega)]
            generalize hfd : hasN S a b j = fd at *
            clear hfd
            have BQX : Hid (Below X.heap.size X wr) := BXZ.out.trans (HBQ.out.mono BXZ.out.size)
            have BQW : Hid (Below w.heap.size w wr) := BPZ.out.trans (HBQ.out.mono BPZ.out.size)
            obtain ⟨cq, _⟩ := one_cell ((BQX.out.block _ zPX).trans HPX.out)
            have r3 := (hbq.cell (p := ⟨p2.heap.size, 0, none⟩) hzZ).trans z0
            have r4 := (hbq.cell (p := ⟨p2.heap.size, 1, none⟩) hzZ).trans z1
            have OAq : Hid (wr.ownsRow w.heap.size 34 2 (.slice (some ⟨ag, 0, none⟩) n ac) n (ints xs)) := own_kept OAX.out BQX.out
            have hn100 : ((n : Int) == 100) = false := by simp; omega
            have zc1 : w1.heap.size < wr.heap.size := Nat.lt_of_lt_of_le zPX BQX.out.size
            have zc2 : p2.heap.size < wr.heap.size := Nat.lt_of_lt_of_le hzZ HBQ.out.size
            go_wp2_with fail
            refine wp_region_held_drew (S := fun w' => w'.cell? ⟨w1.heap.size, 0, none⟩ = some (.slice (some ⟨pg, poff, none⟩) ps.length uc) ∧ w'.cell? ⟨p2.heap.size, 0, none⟩ = some (.int .i64 a) ∧ w'.cell? ⟨p2.heap.size, 1, none⟩ = some (.int .i64 b)) (by kernel_rfl) ⟨cq, r3, r4⟩ (fun hHeld => ?_)
            refine wpAnyH_take (i := 0) (oi := ?oim0) (v := .slice (some ⟨ag, 0, none⟩) n ac) ?him0 (by kernel_rfl) (by kernel_rfl) (by kernel_rfl) ?hqm0 ?hym0 hHeld ?hrm0
            case him0 =>
              simp only [List.getElem?_toArray, List.getElem?_cons_succ, List.getElem?_cons_zero]
              rfl
            case hqm0 => exact fun _ _ _ h => h
            case hym0 => exact Or.inl ⟨by kernel_rfl, fun w hSw => by go_simp⟩
            try simp only [Act.put, List.setIfInBounds_toArray, List.set_cons_zero, List.set_cons_succ]
            refine wpAnyH_take (i := 1) (oi := ?oim1) (v := .int .i64 (n : Int)) ?him1 (by kernel_rfl) (by kernel_rfl) (by kernel_rfl) ?hqm1 ?hym1 hHeld ?hrm1
            case him1 =>
              simp only [List.getElem?_toArray, List.getElem?_cons_succ, List.getElem?_cons_zero]
              rfl
            case hqm1 => exact fun _ _ _ h => h
            case hym1 => exact Or.inl ⟨by kernel_rfl, fun w hSw => by go_simp⟩
            try simp only [Act.put, List.setIfInBounds_toArray, List.set_cons_zero, List.set_cons_succ]
            refine wpAnyH_take (i := 2) (oi := ?oim2) (v := .bool false) ?him2 (by kernel_rfl) (by kernel_rfl) (by kernel_rfl) ?hqm2 ?hym2 hHeld ?hrm2
            case him2 =>
              simp only [List.getElem?_toArray, List.getElem?_cons_succ, List.getElem?_cons_zero]
              rfl
            case hqm2 => exact fun _ _ _ h => h
            case hym2 => exact Or.inl ⟨by kernel_rfl, fun w hSw => by go_simp⟩
            try simp only [Act.put, List.setIfInBounds_toArray, List.set_cons_zero, List.set_cons_succ]
            refine wpAnyH_take (i := 3) (oi := ?oim3) (v := .bool false) ?him3 (by kernel_rfl) (by kernel_rfl) (by kernel_rfl) ?hqm3 ?hym3 hHeld ?hrm3
            case him3 =>
              simp only [List.getElem?_toArray, List.getElem?_cons_succ, List.getElem?_cons_zero]
              rfl
            case hqm3 => exact fun _ _ _ h => h
            case hym3 => exact Or.inl ⟨by kernel_rfl, fun w hSw => by go_simp⟩
            try simp only [Act.put, List.setIfInBounds_toArray, List.set_cons_zero, List.set_cons_succ]
            refine wpAnyH_take (i := 4) (oi := ?oim4) (v := .agg #[.slice (some ⟨pg, poff, none⟩) ps.length uc]) ?him4 (by kernel_rfl) (by kernel_rfl) (by kernel_rfl) ?hqm4 ?hym4 hHeld ?hrm4
            case him4 =>
              simp only [List.getElem?_toArray, List.getElem?_cons_succ, List.getElem?_cons_zero]
              rfl
            case hqm4 => exact fun _ _ _ h => h
            case hym4 => exact Or.inl ⟨by kernel_rfl, fun w hSw => by obtain ⟨s1, s2, s3⟩ := hSw; go_simp⟩
            try simp only [Act.put, List.setIfInBounds_toArray, List.set_cons_zero, List.set_cons_succ]
            refine wpAnyH_take (i := 6) (oi := ?oim6) (v := .slice (some ⟨ag, 0, none⟩) n ac) ?him6 (by kernel_rfl) (by kernel_rfl) (by kernel_rfl) ?hqm6 ?hym6 hHeld ?hrm6
            case him6 =>
              simp only [List.getElem?_toArray, List.getElem?_cons_succ, List.getElem?_cons_zero]
              rfl
            case hqm6 => exact fun _ _ _ h => h
            case hym6 => exact Or.inl ⟨by kernel_rfl, fun w hSw => by go_simp⟩
            try simp only [Act.put, List.setIfInBounds_toArray, List.set_cons_zero, List.set_cons_succ]
            refine wpAnyH_take (i := 8) (oi := ?oim8) (v := .agg #[.int .i64 a, .int .i64 b]) ?him8 (by kernel_rfl) (by kernel_rfl) (by kernel_rfl) ?hqm8 ?hym8 hHeld ?hrm8
            case him8 =>
              simp only [List.getElem?_toArray, List.getElem?_cons_succ, List.getElem?_cons_zero]
              rfl
            case hqm8 => exact fun _ _ _ h => h
            case hym8 => exact Or.inl ⟨by kernel_rfl, fun w hSw => by obtain ⟨s1, s2, s3⟩ := hSw; go_simp⟩
            try simp only [Act.put, List.setIfInBounds_toArray, List.set_cons_zero, List.set_cons_succ]
            refine wpAnyH_take (i := 12) (oi := ?oim12) (v := .bool fd) ?him12 (by kernel_rfl) (by kernel_rfl) (by kernel_rfl) ?hqm12 ?hym12 hHeld ?hrm12
            case him12 =>
              simp only [List.getElem?_toArray, List.getElem?_cons_succ, List.getElem?_cons_zero]
              rfl
            case hqm12 => exact fun _ _ _ h => h
            case hym12 => exact Or.inl ⟨by kernel_rfl, fun w hSw => by go_simp⟩
            try simp only [Act.put, List.setIfInBounds_toArray, List.set_cons_zero, List.set_cons_succ]
            refine wpAnyH_ready (rs := [5, 9]) (by kernel_rfl) (by simp) ?_
            refine (AllReadyH.cons (o := ?oom5) ?hom5 (fun K hK => ?hkm5) (AllReadyH.cons (o := ?oom9) ?hom9 (fun K hK => ?hkm9) AllReadyH.nil))
            case hom5 =>
              simp only [List.getElem?_toArray, List.getElem?_cons_succ, List.getElem?_cons_zero]
              rfl
            case hom9 =>
              simp only [List.getElem?_toArray, List.getElem?_cons_succ, List.getElem?_cons_zero]
              rfl
            case hkm5 =>
              go_simp
              try go_wp2_with fail
              have bz : Below wr.heap.size wr (wr.alloc (.cells #[] 34)).drew := by go_grown
              have Ba : Hid (Below wr.heap.size wr (wr.alloc (.cells #[] 34)).drew) := Below.trans (Below.refl _ _) (bz.mono (Nat.le_refl _))
              have Va : Hid ((wr.alloc (.cells #[] 34)).drew.ownsRow wr.heap.size 34 2 (.slice (some ⟨wr.heap.size, 0, none⟩) 0 0) 0 []) := own_mono (World.ownsRow_made wr #[] 0 (Nat.le_refl _) (by unfold maxLen; omega) rfl) (Nat.le_refl _)
              have qa : wr.heap.size < (wr.alloc (.cells #[] 34)).drew.heap.size := by simp
              generalize (wr.alloc (.cells #[] 34)).drew = wa at *
              clear bz
              refine hK.out _ _ ⟨(Ba.out.cell zc1).trans cq, (Ba.out.cell zc2).trans r3, (Ba.out.cell zc2).trans r4⟩ (fun hHeld => ?_)
              clear hK K
              try simp only [Act.put, List.setIfInBounds_toArray, List.set_cons_zero, List.set_cons_succ]
              refine wpAnyH_ready (rs := [7, 9]) (by kernel_rfl) (by simp) ?_
              refine (AllReadyH.cons (o := ?ooma7) ?homa7 (fun K hK => ?hkma7) (AllReadyH.cons (o := ?ooma9) ?homa9 (fun K hK => ?hkma9) AllReadyH.nil))
              case homa7 =>
                simp only [List.getElem?_toArray, List.getElem?_cons_succ, List.getElem?_cons_zero]
                rfl
              case homa9 =>
                simp only [List.getElem?_toArray, List.getElem?_cons_succ, List.getElem?_cons_zero]
                rfl
              case hkma7 =>
                refine step_append_rowG (by rfl) (.tmp 189) (.tmp 190) 27 rfl wr.heap.size 34 ip (.agg #[.int .i64 0, .int .i64 0]) 2 16 Try.underlying27 hip hq0 hq1 hq2 rfl (by decide) (.slice (some ⟨wr.heap.size, 0, none⟩) 0 0) 0 [] rfl Va.out (.slice (some ⟨ag, 0, none⟩) n ac) w.heap.size n (ints xs) rfl (own_kept OAq.out Ba.out) (ints_oneCell _) (by unfold maxLen; omega) (by omega) Ba.out.size ?_
                intro v6 w6 own6 grow6
                have V6 : Hid (w6.ownsRow wr.heap.size 34 2 v6 n (ints xs)) := by (have hh := own6; rw [Nat.zero_add, List.nil_append] at hh; exact hh)
                have B6 : Hid (Below wr.heap.size wr w6) := Ba.out.grown grow6 Ba.out.size (fun k hk => Nat.le_trans (Nat.le_refl _) (Nat.le_of_eq (Option.some.inj (show some wr.heap.size = some k from hk))))
                clear own6 grow6
                refine hK.out _ _ ⟨(B6.out.cell zc1).trans cq, (B6.out.cell zc2).trans r3, (B6.out.cell zc2).trans r4⟩ (fun hHeld => ?_)
                clear hK K
                try simp only [Act.put, List.setIfInBounds_toArray, List.set_cons_zero, List.set_cons_succ]
                refine wpAnyH_ready (rs := [9]) (by kernel_rfl) (by simp) ?_
                refine (AllReadyH.cons (o := ?oomaa9) ?homaa9 (fun K hK => ?hkmaa9) AllReadyH.nil)
                case homaa9 =>
                  simp only [List.getElem?_toArray, List.getElem?_cons_succ, List.getElem?_cons_zero]
                  rfl
                case hkmaa9 =>
                  go_simp
                  try go_wp2_with fail
                  have bz : Below w6.heap.size w6 (w6.alloc (.cells #[.int .i64 a, .int .i64 b] 34)) := by go_grown
                  have Bc : Hid (Below wr.heap.size wr (w6.alloc (.cells #[.int .i64 a, .int .i64 b] 34))) := Below.trans B6.out (bz.mono B6.out.size)
                  have Lc : Hid ((w6.alloc (.cells #[.int .i64 a, .int .i64 b] 34)).heap[w6.heap.size]? = some (.cells #[.int .i64 a, .int .i64 b] 34 (0, 0))) := heap_alloc_new w6 (.cells #[.int .i64 a, .int .i64 b] 34)
                  have qc : w6.heap.size < (w6.alloc (.cells #[.int .i64 a, .int .i64 b] 34)).heap.size := by simp
                  have Vc : Hid ((w6.alloc (.cells #[.int .i64 a, .int .i64 b] 34)).ownsRow wr.heap.size 34 2 (v6) n (ints xs)) := own_kept V6.out bz
                  generalize (w6.alloc (.cells #[.int .i64 a, .int .i64 b] 34)) = wc at *
                  clear bz
                  refine hK.out _ _ ⟨(Bc.out.cell zc1).trans cq, (Bc.out.cell zc2).trans r3, (Bc.out.cell zc2).trans r4⟩ (fun hHeld => ?_)
                  clear hK K
                  try simp only [Act.put, List.setIfInBounds_toArray, List.set_cons_zero, List.set_cons_succ]
                  refine wpAnyH_ready (rs := [10]) (by kernel_rfl) (by simp) ?_
                  refine (AllReadyH.cons (o := ?oomaa10) ?homaa10 (fun K hK => ?hkmaa10) AllReadyH.nil)
                  case homaa10 =>
                    simp only [List.getElem?_toArray, List.getElem?_cons_succ, List.getElem?_cons_zero]
                    rfl
                  case hkmaa10 =>
                    refine step_append_liesG _ (by rfl) (.tmp 191) (.tmp 193) 27 rfl wr.heap.size 34 ip (.agg #[.int .i64 0, .int .i64 0]) 2 16 Try.underlying27 hip hq0 hq1 hq2 rfl (by decide) v6 n _ rfl Vc.out ⟨w6.heap.size, 0, none⟩ 1 1 [.int .i64 a, .int .i64 b] rfl rfl (World.news_of_block Lc.out) (two_one a b) (by omega) (by unfold maxLen; omega) (by omega) Bc.out.size _ rfl ?_
                    intro g9 cp9 w9 own9 grow9 hat9 hlt9
                    have V9 : Hid (w9.ownsRow wr.heap.size 34 2 (.slice (some ⟨g9, 0, none⟩) (n + 1) cp9) (n + 1) (ints xs ++ [.int .i64 a, .int .i64 b])) := own9
                    have B9 : Hid (Below wr.heap.size wr w9) := Bc.out.grown grow9 Bc.out.size (fun k hk => (Vc.out.lt k hk).1)
                    clear own9 grow9 hat9 hlt9
                    refine hK.out _ _ ⟨(B9.out.cell zc1).trans cq, (B9.out.cell zc2).trans r3, (B9.out.cell zc2).trans r4⟩ (fun hHeld => ?_)
                    clear hK K
                    try simp only [Act.put, List.setIfInBounds_toArray, List.set_cons_zero, List.set_cons_succ]
                    refine wpAnyH_ready (rs := [11]) (by kernel_rfl) (by simp) ?_
                    refine (AllReadyH.cons (o := ?oomaa11) ?homaa11 (fun K hK => ?hkmaa11) AllReadyH.nil)
                    case homaa11 =>
                      simp only [List.getElem?_toArray, List.getElem?_cons_succ, List.getElem?_cons_zero]
                      rfl
                    case hkmaa11 =>
                      have OY9 : Hid (w9.ownsRow X.heap.size 34 2 (.slice (some ⟨g9, 0, none⟩) (n + 1) cp9) (n + 1) (ints (xs ++ [a, b]))) := by (show w9.ownsRow _ _ _ _ _ _; rw [ints_append]; exact own_mono V9.out BQX.out.size)
                      have B9X : Hid (Below X.heap.size X w9) := BQX.out.trans (B9.out.mono BQX.out.size)
                      have hwl := hwa a b _ w9 B9X.out OY9.out
                      rw [more_isSome HK.out hxs (by omega), ← HHF.out] at hwl
                      go_simp
                      go_at_call 12
                      refine hwl.mono ?_
                      rintro e w10 ⟨rfl, b10⟩
                      have B10 : Hid (Below wr.heap.size wr w10) := B9.out.trans (b10.mono B9.out.size)
                      clear b10
                      try go_wp2_with fail
                      refine hK.out _ _ ⟨(B10.out.cell zc1).trans cq, (B10.out.cell zc2).trans r3, (B10.out.cell zc2).trans r4⟩ (fun hHeld => ?_)
                      clear hK K
                      try simp only [Act.put, List.setIfInBounds_toArray, List.set_cons_zero, List.set_cons_succ]
                      refine wpAnyH_take (i := 13) (oi := ?oimaa13) (v := .bool true) ?himaa13 (by kernel_rfl) (by kernel_rfl) (by kernel_rfl) ?hqmaa13 ?hymaa13 hHeld ?hrmaa13
                      case himaa13 =>
                        simp only [List.getElem?_toArray, List.getElem?_cons_succ, List.getElem?_cons_zero]
                        rfl
                      case hqmaa13 => exact fun _ _ _ h => h
                      case hymaa13 => exact Or.inl ⟨by kernel_rfl, fun w hSw => by go_simp; (try cases fd <;> rfl)⟩
                      try simp only [Act.put, List.setIfInBounds_toArray, List.set_cons_zero, List.set_cons_succ]
                      refine wpAnyH_take (i := 14) (oi := ?oimaa14) (v := .bool true) ?himaa14 (by kernel_rfl) (by kernel_rfl) (by kernel_rfl) ?hqmaa14 ?hymaa14 hHeld ?hrmaa14
                      case himaa14 =>
                        simp only [List.getElem?_toArray, List.getElem?_cons_succ, List.getElem?_cons_zero]
                        rfl
                      case hqmaa14 => exact fun _ _ _ h => h
                      case hymaa14 => exact Or.inl ⟨by kernel_rfl, fun w hSw => by go_simp⟩
                      try simp only [Act.put, List.setIfInBounds_toArray, List.set_cons_zero, List.set_cons_succ]
                      refine wpAnyH_take (i := 15) (oi := ?oimaa15) (v := .bool true) ?himaa15 (by kernel_rfl) (by kernel_rfl) (by kernel_rfl) ?hqmaa15 ?hymaa15 hHeld ?hrmaa15
                      case himaa15 =>
                        simp only [List.getElem?_toArray, List.getElem?_cons_succ, List.getElem?_cons_zero]
                        rfl
                      case hqmaa15 => exact fun _ _ _ h => h
                      case hymaa15 => exact Or.inl ⟨by kernel_rfl, fun w hSw => by go_simp⟩
                      try simp only [Act.put, List.setIfInBounds_toArray, List.set_cons_zero, List.set_cons_succ]
                      refine wpAnyH_done (by kernel_rfl) ?_ _
                      go_wp2_with fail
                      go_ret
                      exact ⟨rfl, BQW.out.trans (B10.out.mono BQW.out.size)⟩
              case hkma9 =>
                go_simp
                try go_wp2_with fail
                have bz : Below wa.heap.size wa (wa.alloc (.cells #[.int .i64 a, .int .i64 b] 34)) := by go_grown
                have Bc : Hid (Below wr.heap.size wr (wa.alloc (.cells #[.int .i64 a, .int .i64 b] 34))) := Below.trans Ba.out (bz.mono Ba.out.size)
                have Lc : Hid ((wa.alloc (.cells #[.int .i64 a, .int .i64 b] 34)).heap[wa.heap.size]? = some (.cells #[.int .i64 a, .int .i64 b] 34 (0, 0))) := heap_alloc_new wa (.cells #[.int .i64 a, .int .i64 b] 34)
                have qc : wa.heap.size < (wa.alloc (.cells #[.int .i64 a, .int .i64 b] 34)).heap.size := by simp
                have Vc : Hid ((wa.alloc (.cells #[.int .i64 a, .int .i64 b] 34)).ownsRow wr.heap.size 34 2 (.slice (some ⟨wr.heap.size, 0, none⟩) 0 0) 0 ([])) := own_kept Va.out bz
                generalize (wa.alloc (.cells #[.int .i64 a, .int .i64 b] 34)) = wc at *
                clear bz
                refine hK.out _ _ ⟨(Bc.out.cell zc1).trans cq, (Bc.out.cell zc2).trans r3, (Bc.out.cell zc2).trans r4⟩ (fun hHeld => ?_)
                clear hK K
                try simp only [Act.put, List.setIfInBounds_toArray, List.set_cons_zero, List.set_cons_succ]
                refine wpAnyH_ready (rs := [7]) (by kernel_rfl) (by simp) ?_
                refine (AllReadyH.cons (o := ?oomab7) ?homab7 (fun K hK => ?hkmab7) AllReadyH.nil)
                case homab7 =>
                  simp only [List.getElem?_toArray, List.getElem?_cons_succ, List.getElem?_cons_zero]
                  rfl
                case hkmab7 =>
                  refine step_append_rowG (by rfl) (.tmp 189) (.tmp 190) 27 rfl wr.heap.size 34 ip (.agg #[.int .i64 0, .int .i64 0]) 2 16 Try.underlying27 hip hq0 hq1 hq2 rfl (by decide) (.slice (some ⟨wr.heap.size, 0, none⟩) 0 0) 0 [] rfl Vc.out (.slice (some ⟨ag, 0, none⟩) n ac) w.heap.size n (ints xs) rfl (own_kept OAq.out Bc.out) (ints_oneCell _) (by unfold maxLen; omega) (by omega) Bc.out.size ?_
                  intro v6 w6 own6 grow6
                  have V6 : Hid (w6.ownsRow wr.heap.size 34 2 v6 n (ints xs)) := by (have hh := own6; rw [Nat.zero_add, List.nil_append] at hh; exact hh)
                  have B6 : Hid (Below wr.heap.size wr w6) := Bc.out.grown grow6 Bc.out.size (fun k hk => Nat.le_trans (Nat.le_refl _) (Nat.le_of_eq (Option.some.inj (show some wr.heap.size = some k from hk))))
                  have L6 : Hid (w6.heap[wa.heap.size]? = _) := (grow6.block _ qc (fun e => absurd (Option.some.inj (show some (wa.heap.size) = some (wr.heap.size) from e)) (by omega))).trans Lc.out
                  clear own6 grow6
                  refine hK.out _ _ ⟨(B6.out.cell zc1).trans cq, (B6.out.cell zc2).trans r3, (B6.out.cell zc2).trans r4⟩ (fun hHeld => ?_)
                  clear hK K
                  try simp only [Act.put, List.setIfInBounds_toArray, List.set_cons_zero, List.set_cons_succ]
                  refine wpAnyH_ready (rs := [10]) (by kernel_rfl) (by simp) ?_
                  refine (AllReadyH.cons (o := ?oomab10) ?homab10 (fun K hK => ?hkmab10) AllReadyH.nil)
                  case homab10 =>
                    simp only [List.getElem?_toArray, List.getElem?_cons_succ, List.getElem?_cons_zero]
                    rfl
                  case hkmab10 =>
                    refine step_append_liesG _ (by rfl) (.tmp 191) (.tmp 193) 27 rfl wr.heap.size 34 ip (.agg #[.int .i64 0, .int .i64 0]) 2 16 Try.underlying27 hip hq0 hq1 hq2 rfl (by decide) v6 n _ rfl V6.out ⟨wa.heap.size, 0, none⟩ 1 1 [.int .i64 a, .int .i64 b] rfl rfl (World.news_of_block L6.out) (two_one a b) (by omega) (by unfold maxLen; omega) (by omega) B6.out.size _ rfl ?_
                    intro g9 cp9 w9 own9 grow9 hat9 hlt9
                    have V9 : Hid (w9.ownsRow wr.heap.size 34 2 (.slice (some ⟨g9, 0, none⟩) (n + 1) cp9) (n + 1) (ints xs ++ [.int .i64 a, .int .i64 b])) := own9
                    have B9 : Hid (Below wr.heap.size wr w9) := B6.out.grown grow9 B6.out.size (fun k hk => (V6.out.lt k hk).1)
                    clear own9 grow9 hat9 hlt9
                    refine hK.out _ _ ⟨(B9.out.cell zc1).trans cq, (B9.out.cell zc2).trans r3, (B9.out.cell zc2).trans r4⟩ (fun hHeld => ?_)
                    clear hK K
                    try simp only [Act.put, List.setIfInBounds_toArray, List.set_cons_zero, List.set_cons_succ]
                    refine wpAnyH_ready (rs := [11]) (by kernel_rfl) (by simp) ?_
                    refine (AllReadyH.cons (o := ?oomab11) ?homab11 (fun K hK => ?hkmab11) AllReadyH.nil)
                    case homab11 =>
                      simp only [List.getElem?_toArray, List.getElem?_cons_succ, List.getElem?_cons_zero]
                      rfl
                    case hkmab11 =>
                      have OY9 : Hid (w9.ownsRow X.heap.size 34 2 (.slice (some ⟨g9, 0, none⟩) (n + 1) cp9) (n + 1) (ints (xs ++ [a, b]))) := by (show w9.ownsRow _ _ _ _ _ _; rw [ints_append]; exact own_mono V9.out BQX.out.size)
                      have B9X : Hid (Below X.heap.size X w9) := BQX.out.trans (B9.out.mono BQX.out.size)
                      have hwl := hwa a b _ w9 B9X.out OY9.out
                      rw [more_isSome HK.out hxs (by omega), ← HHF.out] at hwl
                      go_simp
                      go_at_call 12
                      refine hwl.mono ?_
                      rintro e w10 ⟨rfl, b10⟩
                      have B10 : Hid (Below wr.heap.size wr w10) := B9.out.trans (b10.mono B9.out.size)
                      clear b10
                      try go_wp2_with fail
                      refine hK.out _ _ ⟨(B10.out.cell zc1).trans cq, (B10.out.cell zc2).trans r3, (B10.out.cell zc2).trans r4⟩ (fun hHeld => ?_)
                      clear hK K
                      try simp only [Act.put, List.setIfInBounds_toArray, List.set_cons_zero, List.set_cons_succ]
                      refine wpAnyH_take (i := 13) (oi := ?oimab13) (v := .bool true) ?himab13 (by kernel_rfl) (by kernel_rfl) (by kernel_rfl) ?hqmab13 ?hymab13 hHeld ?hrmab13
                      case himab13 =>
                        simp only [List.getElem?_toArray, List.getElem?_cons_succ, List.getElem?_cons_zero]
                        rfl
                      case hqmab13 => exact fun _ _ _ h => h
                      case hymab13 => exact Or.inl ⟨by kernel_rfl, fun w hSw => by go_simp; (try cases fd <;> rfl)⟩
                      try simp only [Act.put, List.setIfInBounds_toArray, List.set_cons_zero, List.set_cons_succ]
                      refine wpAnyH_take (i := 14) (oi := ?oimab14) (v := .bool true) ?himab14 (by kernel_rfl) (by kernel_rfl) (by kernel_rfl) ?hqmab14 ?hymab14 hHeld ?hrmab14
                      case himab14 =>
                        simp only [List.getElem?_toArray, List.getElem?_cons_succ, List.getElem?_cons_zero]
                        rfl
                      case hqmab14 => exact fun _ _ _ h => h
                      case hymab14 => exact Or.inl ⟨by kernel_rfl, fun w hSw => by go_simp⟩
                      try simp only [Act.put, List.setIfInBounds_toArray, List.set_cons_zero, List.set_cons_succ]
                      refine wpAnyH_take (i := 15) (oi := ?oimab15) (v := .bool true) ?himab15 (by kernel_rfl) (by kernel_rfl) (by kernel_rfl) ?hqmab15 ?hymab15 hHeld ?hrmab15
                      case himab15 =>
                        simp only [List.getElem?_toArray, List.getElem?_cons_succ, List.getElem?_cons_zero]
                        rfl
                      case hqmab15 => exact fun _ _ _ h => h
                      case hymab15 => exact Or.inl ⟨by kernel_rfl, fun w hSw => by go_simp⟩
                      try simp only [Act.put, List.setIfInBounds_toArray, List.set_cons_zero, List.set_cons_succ]
                      refine wpAnyH_done (by kernel_rfl) ?_ _
                      go_wp2_with fail
                      go_ret
                      exact ⟨rfl, BQW.out.trans (B10.out.mono BQW.out.size)⟩
            case hkm9 =>
              go_simp
              try go_wp2_with fail
              have bz : Below wr.heap.size wr (wr.alloc (.cells #[.int .i64 a, .int .i64 b] 34)).drew := by go_grown
              have Bb : Hid (Below wr.heap.size wr (wr.alloc (.cells #[.int .i64 a, .int .i64 b] 34)).drew) := Below.trans (Below.refl _ _) (bz.mono (Nat.le_refl _))
              have Lb : Hid ((wr.alloc (.cells #[.int .i64 a, .int .i64 b] 34)).drew.heap[wr.heap.size]? = some (.cells #[.int .i64 a, .int .i64 b] 34 (0, 0))) := heap_alloc_new wr (.cells #[.int .i64 a, .int .i64 b] 34)
              have qb : wr.heap.size < (wr.alloc (.cells #[.int .i64 a, .int .i64 b] 34)).drew.heap.size := by simp
              generalize (wr.alloc (.cells #[.int .i64 a, .int .i64 b] 34)).drew = wb at *
              clear bz
              refine hK.out _ _ ⟨(Bb.out.cell zc1).trans cq, (Bb.out.cell zc2).trans r3, (Bb.out.cell zc2).trans r4⟩ (fun hHeld => ?_)
              clear hK K
              try simp only [Act.put, List.setIfInBounds_toArray, List.set_cons_zero, List.set_cons_succ]
              refine wpAnyH_ready (rs := [5]) (by kernel_rfl) (by simp) ?_
              refine (AllReadyH.cons (o := ?oomb5) ?homb5 (fun K hK => ?hkmb5) AllReadyH.nil)
              case homb5 =>
                simp only [List.getElem?_toArray, List.getElem?_cons_succ, List.getElem?_cons_zero]
                rfl
              case hkmb5 =>
                go_simp
                try go_wp2_with fail
                have bz : Below wb.heap.size wb (wb.alloc (.cells #[] 34)) := by go_grown
                have Ba : Hid (Below wr.heap.size wr (wb.alloc (.cells #[] 34))) := Below.trans Bb.out (bz.mono Bb.out.size)
                have Va : Hid ((wb.alloc (.cells #[] 34)).ownsRow wr.heap.size 34 2 (.slice (some ⟨wb.heap.size, 0, none⟩) 0 0) 0 []) := own_mono (World.ownsRow_made wb #[] 0 (Nat.le_refl _) (by unfold maxLen; omega) rfl) Bb.out.size
                have qa : wb.heap.size < (wb.alloc (.cells #[] 34)).heap.size := by simp
                have La : Hid ((wb.alloc (.cells #[] 34)).heap[wr.heap.size]? = _) := (bz.block _ qb).trans Lb.out
                generalize (wb.alloc (.cells #[] 34)) = wa at *
                clear bz
                have ql : wr.heap.size < wa.heap.size := by omega
                refine hK.out _ _ ⟨(Ba.out.cell zc1).trans cq, (Ba.out.cell zc2).trans r3, (Ba.out.cell zc2).trans r4⟩ (fun hHeld => ?_)
                clear hK K
                try simp only [Act.put, List.setIfInBounds_toArray, List.set_cons_zero, List.set_cons_succ]
                refine wpAnyH_ready (rs := [7]) (by kernel_rfl) (by simp) ?_
                refine (AllReadyH.cons (o := ?oomb7) ?homb7 (fun K hK => ?hkmb7) AllReadyH.nil)
                case homb7 =>
                  simp only [List.getElem?_toArray, List.getElem?_cons_succ, List.getElem?_cons_zero]
                  rfl
                case hkmb7 =>
                  refine step_append_rowG (by rfl) (.tmp 189) (.tmp 190) 27 rfl wr.heap.size 34 ip (.agg #[.int .i64 0, .int .i64 0]) 2 16 Try.underlying27 hip hq0 hq1 hq2 rfl (by decide) (.slice (some ⟨wb.heap.size, 0, none⟩) 0 0) 0 [] rfl Va.out (.slice (some ⟨ag, 0, none⟩) n ac) w.heap.size n (ints xs) rfl (own_kept OAq.out Ba.out) (ints_oneCell _) (by unfold maxLen; omega) (by omega) Ba.out.size ?_
                  intro v6 w6 own6 grow6
                  have V6 : Hid (w6.ownsRow wr.heap.size 34 2 v6 n (ints xs)) := by (have hh := own6; rw [Nat.zero_add, List.nil_append] at hh; exact hh)
                  have B6 : Hid (Below wr.heap.size wr w6) := Ba.out.grown grow6 Ba.out.size (fun k hk => Nat.le_trans Bb.out.size (Nat.le_of_eq (Option.some.inj (show some wb.heap.size = some k from hk))))
                  have L6 : Hid (w6.heap[wr.heap.size]? = _) := (grow6.block _ ql (fun e => absurd (Option.some.inj (show some (wr.heap.size) = some (wb.heap.size) from e)) (by omega))).trans La.out
                  clear own6 grow6
                  refine hK.out _ _ ⟨(B6.out.cell zc1).trans cq, (B6.out.cell zc2).trans r3, (B6.out.cell zc2).trans r4⟩ (fun hHeld => ?_)
                  clear hK K
                  try simp only [Act.put, List.setIfInBounds_toArray, List.set_cons_zero, List.set_cons_succ]
                  refine wpAnyH_ready (rs := [10]) (by kernel_rfl) (by simp) ?_
                  refine (AllReadyH.cons (o := ?oomb10) ?homb10 (fun K hK => ?hkmb10) AllReadyH.nil)
                  case homb10 =>
                    simp only [List.getElem?_toArray, List.getElem?_cons_succ, List.getElem?_cons_zero]
                    rfl
                  case hkmb10 =>
                    refine step_append_liesG _ (by rfl) (.tmp 191) (.tmp 193) 27 rfl wr.heap.size 34 ip (.agg #[.int .i64 0, .int .i64 0]) 2 16 Try.underlying27 hip hq0 hq1 hq2 rfl (by decide) v6 n _ rfl V6.out ⟨wr.heap.size, 0, none⟩ 1 1 [.int .i64 a, .int .i64 b] rfl rfl (World.news_of_block L6.out) (two_one a b) (by omega) (by unfold maxLen; omega) (by omega) B6.out.size _ rfl ?_
                    intro g9 cp9 w9 own9 grow9 hat9 hlt9
                    have V9 : Hid (w9.ownsRow wr.heap.size 34 2 (.slice (some ⟨g9, 0, none⟩) (n + 1) cp9) (n + 1) (ints xs ++ [.int .i64 a, .int .i64 b])) := own9
                    have B9 : Hid (Below wr.heap.size wr w9) := B6.out.grown grow9 B6.out.size (fun k hk => (V6.out.lt k hk).1)
                    clear own9 grow9 hat9 hlt9
                    refine hK.out _ _ ⟨(B9.out.cell zc1).trans cq, (B9.out.cell zc2).trans r3, (B9.out.cell zc2).trans r4⟩ (fun hHeld => ?_)
                    clear hK K
                    try simp only [Act.put, List.setIfInBounds_toArray, List.set_cons_zero, List.set_cons_succ]
                    refine wpAnyH_ready (rs := [11]) (by kernel_rfl) (by simp) ?_
                    refine (AllReadyH.cons (o := ?oomb11) ?homb11 (fun K hK => ?hkmb11) AllReadyH.nil)
                    case homb11 =>
                      simp only [List.getElem?_toArray, List.getElem?_cons_succ, List.getElem?_cons_zero]
                      rfl
                    case hkmb11 =>
                      have OY9 : Hid (w9.ownsRow X.heap.size 34 2 (.slice (some ⟨g9, 0, none⟩) (n + 1) cp9) (n + 1) (ints (xs ++ [a, b]))) := by (show w9.ownsRow _ _ _ _ _ _; rw [ints_append]; exact own_mono V9.out BQX.out.size)
                      have B9X : Hid (Below X.heap.size X w9) := BQX.out.trans (B9.out.mono BQX.out.size)
                      have hwl := hwa a b _ w9 B9X.out OY9.out
                      rw [more_isSome HK.out hxs (by omega), ← HHF.out] at hwl
                      go_simp
                      go_at_call 12
                      refine hwl.mono ?_
                      rintro e w10 ⟨rfl, b10⟩
                      have B10 : Hid (Below wr.heap.size wr w10) := B9.out.trans (b10.mono B9.out.size)
                      clear b10
                      try go_wp2_with fail
                      refine hK.out _ _ ⟨(B10.out.cell zc1).trans cq, (B10.out.cell zc2).trans r3, (B10.out.cell zc2).trans r4⟩ (fun hHeld => ?_)
                      clear hK K
                      try simp only [Act.put, List.setIfInBounds_toArray, List.set_cons_zero, List.set_cons_succ]
                      refine wpAnyH_take (i := 13) (oi := ?oimb13) (v := .bool true) ?himb13 (by kernel_rfl) (by kernel_rfl) (by kernel_rfl) ?hqmb13 ?hymb13 hHeld ?hrmb13
                      case himb13 =>
                        simp only [List.getElem?_toArray, List.getElem?_cons_succ, List.getElem?_cons_zero]
                        rfl
                      case hqmb13 => exact fun _ _ _ h => h
                      case hymb13 => exact Or.inl ⟨by kernel_rfl, fun w hSw => by go_simp; (try cases fd <;> rfl)⟩
                      try simp only [Act.put, List.setIfInBounds_toArray, List.set_cons_zero, List.set_cons_succ]
                      refine wpAnyH_take (i := 14) (oi := ?oimb14) (v := .bool true) ?himb14 (by kernel_rfl) (by kernel_rfl) (by kernel_rfl) ?hqmb14 ?hymb14 hHeld ?hrmb14
                      case himb14 =>
                        simp only [List.getElem?_toArray, List.getElem?_cons_succ, List.getElem?_cons_zero]
                        rfl
                      case hqmb14 => exact fun _ _ _ h => h
                      case hymb14 => exact Or.inl ⟨by kernel_rfl, fun w hSw => by go_simp⟩
                      try simp only [Act.put, List.setIfInBounds_toArray, List.set_cons_zero, List.set_cons_succ]
                      refine wpAnyH_take (i := 15) (oi := ?oimb15) (v := .bool true) ?himb15 (by kernel_rfl) (by kernel_rfl) (by kernel_rfl) ?hqmb15 ?hymb15 hHeld ?hrmb15
                      case himb15 =>
                        simp only [List.getElem?_toArray, List.getElem?_cons_succ, List.getElem?_cons_zero]
                        rfl
                      case hqmb15 => exact fun _ _ _ h => h
                      case hymb15 => exact Or.inl ⟨by kernel_rfl, fun w hSw => by go_simp⟩
                      try simp only [Act.put, List.setIfInBounds_toArray, List.set_cons_zero, List.set_cons_succ]
                      refine wpAnyH_done (by kernel_rfl) ?_ _
                      go_wp2_with fail
                      go_ret
                      exact ⟨rfl, BQW.out.trans (B10.out.mono BQW.out.size)⟩

end Go.Proofs.Ytnkalhdhmmdofaa
