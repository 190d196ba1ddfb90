/-
 The law FnWalks: what holds along any walk that goes back where it came from is among the facts of its last place.
-/
import Derived.Test.YtnjbihfceckpfaaG00Stmt
import Derived.Test.YtnjbihfceckpfaaG26CanSum
import Derived.Test.YtnjbihfceckpfaaG32EntM
import Derived.Test.YtnjbihfceckpfaaSpecWt
import Derived.Test.YtnjbihfceckpfaaG33ListsLaw
import Derived.Test.YtnjbihfceckpfaaG48FindMore
import Derived.Test.YtnjbihfceckpfaaImplFacts
import Derived.Test.YtnjbihfceckpfaaOpenCode
namespace Go.Proofs.Ytnjbihfceckpfaa
open Go.RowKit
set_option linter.unusedVariables false
set_option linter.unusedSimpArgs false
set_option maxHeartbeats 8000000
set_option maxRecDepth 20000

theorem own_capH {w : World} {base : Nat} {e : TypeId} {s : Nat} {u : Value} {n : Nat} {xs : List Value} (h : w.ownsRow base e s u n xs) : ∀ a c', u = .slice a n c' → n ≤ c' := by
 intro a c' e
 rcases h.2 with ⟨h1, h2⟩ | ⟨b, cap, d, h1, _, _, h2, _⟩
 · omega
 · rw [h1] at e; cases e; exact h2

/-- What the law asks of the set that holds. -/
theorem holdA_cases (c : Int) (ps : List (List Stm)) (xs : List Int) (n : Nat) :
 (holdA c ps xs n = -1 ∧ ((walkA 1 ps xs n).isSome = false ∨ ¬ (c = 1 ∨ c = 2))) ∨ ((c = 1 ∨ c = 2) ∧ ∃ s, walkA c ps xs n = some s ∧ holdA c ps xs n = s.h ∧ Small s.h) := by
 by_cases hc : c = 1 ∨ c = 2
 · cases h : walkA c ps xs n with
   | none =>
    refine .inl ⟨by unfold holdA; rw [if_pos hc, h], .inl ?_⟩
    rw [walkA_isSome 1 c, h]; rfl
   | some s => exact .inr ⟨hc, s, rfl, by unfold holdA; rw [if_pos hc, h], (walkA_ok hc h).2.2.2.h⟩
 · exact .inl ⟨by unfold holdA; rw [if_neg hc], .inr hc⟩

theorem walkFnWalks (bs : List Int) (v : Value) (w : World) (hl : bs.length ≤ maxLen) (hv : Reads w v (bs.map (Value.int .u8))) :
 Calls Try.prog 8 #[v] w fun e w' => e = .returned (.bool true) ∧ Below w.heap.size w w' := by
 have hbig := lawBig bs v w hl hv
 by_cases hb : (4096 : Int) < (bs.length : Int)
 · rw [decide_eq_true hb] at hbig
   go_enter Try.func8, Try.ntmps8
   go_wp2_with (go_at_call 32; refine hbig.mono ?_; rintro e w1 ⟨rfl, rfl⟩)
   go_ret
   exact ⟨rfl, Below.refl _ _⟩
 rw [decide_eq_false hb] at hbig
 go_enter Try.func8, Try.ntmps8
 go_wp2_with fail
 go_at_call 32
 refine hbig.mono ?_
 rintro e w1 ⟨rfl, rfl⟩
 clear hbig
 go_wp2_with fail
 go_at_call 33
 refine (drawHolding bs v w (by omega) hv).mono ?_
 rintro e w1 ⟨u, L, c, a, xs, n, rfl, h5, h14, pr, hxs, hn1, hn2, oa, b1⟩
 obtain ⟨ps, rp, hpL⟩ := pr.reads
 obtain ⟨hps, hpe⟩ := drawn_lens hpL h5 h14
 obtain ⟨ua, un, uc, rfl⟩ := pr.slice
 obtain ⟨aa, ac, ha, _⟩ := reads2_own oa
 subst ha
 obtain ⟨W, hW⟩ : ∃ W, w1.alloc (.cells #[.slice ua un uc] 30) = W := ⟨_, rfl⟩
 have bW : Below w1.heap.size w1 W := by rw [← hW]; go_grown
 have HBX : Hid (W.heap[w1.heap.size]? = some (.cells #[.slice ua un uc] 30 (0, 0))) := by show _ = _; rw [← hW]; exact heap_alloc_new w1 _
 have RP : Hid (ReadsP W (.slice ua un uc) ps) := readsP_below rp bW
 have OA : Hid (W.ownsRow w.heap.size 56 2 (.slice aa n ac) n (ints xs)) := own_kept oa bW
 have BW : Hid (Below w.heap.size w W) := b1.trans (bW.mono b1.size)
 have hnm : n ≤ maxLen := by unfold maxLen; omega
 have hz : w1.heap.size < W.heap.size := (Array.getElem?_eq_some_iff.1 HBX.out).1
 clear pr rp oa b1 bW hpL
 have him := fun X (hX : Below W.heap.size W X) => implHolding ps c xs n (.slice ua un uc) (.slice aa n ac) X hps hpe (readsP_below RP.out hX) hxs hnm (reads2_own (own_kept OA.out hX)) (own_capH OA.out)
 have hsp := fun X (hX : Below W.heap.size W X) => specHolding ps c xs n (.slice ua un uc) (.slice aa n ac) X hps hpe (readsP_below RP.out hX) hxs hnm (reads2_own (own_kept OA.out hX))
 have hwi := fun X (hX : Below W.heap.size W X) => implWalkOk ps xs n (.slice ua un uc) (.slice aa n ac) X hps hpe (readsP_below RP.out hX) hxs hnm (reads2_own (own_kept OA.out hX)) (own_capH OA.out)
 have hws := fun X (hX : Below W.heap.size W X) => specWalkOk ps xs n (.slice ua un uc) (.slice aa n ac) X hps hpe (readsP_below RP.out hX) hxs hnm (reads2_own (own_kept OA.out hX))
 have HC := holdA_cases c ps xs n
 obtain ⟨A, hA⟩ : ∃ A, holdA c ps xs n = A := ⟨_, rfl⟩
 obtain ⟨kb, hkb⟩ : ∃ kb, (walkA 1 ps xs n).isSome = kb := ⟨_, rfl⟩
 rw [hA] at him hsp HC
 rw [hkb] at hwi hws HC
 have HCC : Hid _ := HC
 clear hA hkb HC
 obtain ⟨c1, _⟩ := one_cell HBX.out
 go_wp2_with fail
 go_at_call 34
 refine (him W (Below.refl _ _)).mono ?_
 rintro e w2 ⟨rfl, b2⟩
 have B2 : Hid (Below W.heap.size W w2) := b2
 obtain ⟨c2, _⟩ := one_cell ((b2.block _ hz).trans HBX.out)
 clear b2 c1
 go_wp2_with fail
 refine wp_region_held_drew (S := fun w' => w'.cell? ⟨w1.heap.size, 0, none⟩ = some (.slice ua un uc)) (by kernel_rfl) c2 (fun hHeld => ?_)
 refine wpAnyH_take (i := 0) (oi := ?oia0) (v := .int .i64 A) ?hia0 (by kernel_rfl) (by kernel_rfl) (by kernel_rfl) ?hqa0 ?hya0 hHeld ?hra0
 case hia0 =>
  simp only [gA, gB, gC]
  rfl
 case hqa0 => exact fun _ _ _ h => h
 case hya0 => exact Or.inl ⟨by kernel_rfl, fun w hSw => by go_simp⟩
 try simp only [Act.put, gD, gE, gF]
 refine wpAnyH_take (i := 1) (oi := ?oia1) (v := .agg #[.slice ua un uc]) ?hia1 (by kernel_rfl) (by kernel_rfl) (by kernel_rfl) ?hqa1 ?hya1 hHeld ?hra1
 case hia1 =>
  simp only [gA, gB, gC]
  rfl
 case hqa1 => exact fun _ _ _ h => h
 case hya1 => exact Or.inl ⟨by kernel_rfl, fun w hSw => by go_simp⟩
 try simp only [Act.put, gD, gE, gF]
 refine wpAnyH_take (i := 2) (oi := ?oia2) (v := .int .i64 c) ?hia2 (by kernel_rfl) (by kernel_rfl) (by kernel_rfl) ?hqa2 ?hya2 hHeld ?hra2
 case hia2 =>
  simp only [gA, gB, gC]
  rfl
 case hqa2 => exact fun _ _ _ h => h
 case hya2 => exact Or.inl ⟨by kernel_rfl, fun w hSw => by go_simp⟩
 try simp only [Act.put, gD, gE, gF]
 refine wpAnyH_take (i := 3) (oi := ?oia3) (v := .slice aa n ac) ?hia3 (by kernel_rfl) (by kernel_rfl) (by kernel_rfl) ?hqa3 ?hya3 hHeld ?hra3
 case hia3 =>
  simp only [gA, gB, gC]
  rfl
 case hqa3 => exact fun _ _ _ h => h
 case hya3 => exact Or.inl ⟨by kernel_rfl, fun w hSw => by go_simp⟩
 try simp only [Act.put, gD, gE, gF]
 refine wpAnyH_ready (rs := [4]) (by kernel_rfl) (by simp) ?_
 refine (AllReadyH.cons (o := ?ooa4) ?hoa4 (fun K hK => ?hka4) AllReadyH.nil)
 case hoa4 =>
  simp only [gA, gB, gC]
  rfl
 case hka4 =>
  go_simp
  go_at_call 35
  refine (hsp w2.drew (Below.drew B2.out)).mono ?_
  rintro e w4 ⟨rfl, b4⟩
  have B4 : Hid (Below W.heap.size W w4) := Below.trans (Below.drew B2.out) (b4.mono B2.out.size)
  clear b4
  try go_wp2_with fail
  refine hK.out _ _ ((one_cell ((B4.out.block _ hz).trans HBX.out)).1) (fun hHeld => ?_)
  clear hK K
  try simp only [Act.put, gD, gE, gF]
  refine wpAnyH_take (i := 5) (oi := ?oia5) (v := .bool false) ?hia5 (by kernel_rfl) (by kernel_rfl) (by kernel_rfl) ?hqa5 ?hya5 hHeld ?hra5
  case hia5 =>
   simp only [gA, gB, gC]
   rfl
  case hqa5 => exact fun _ _ _ h => h
  case hya5 => exact Or.inl ⟨by kernel_rfl, fun w hSw => by go_simp⟩
  try simp only [Act.put, gD, gE, gF]
  refine wpAnyH_take (i := 6) (oi := ?oia6) (v := .bool false) ?hia6 (by kernel_rfl) (by kernel_rfl) (by kernel_rfl) ?hqa6 ?hya6 hHeld ?hra6
  case hia6 =>
   simp only [gA, gB, gC]
   rfl
  case hqa6 => exact fun _ _ _ h => h
  case hya6 => exact Or.inl ⟨by kernel_rfl, fun w hSw => by go_simp⟩
  try simp only [Act.put, gD, gE, gF]
  refine wpAnyH_take (i := 7) (oi := ?oia7) (v := .agg #[.slice ua un uc]) ?hia7 (by kernel_rfl) (by kernel_rfl) (by kernel_rfl) ?hqa7 ?hya7 hHeld ?hra7
  case hia7 =>
   simp only [gA, gB, gC]
   rfl
  case hqa7 => exact fun _ _ _ h => h
  case hya7 => exact Or.inl ⟨by kernel_rfl, fun w hSw => by go_simp⟩
  try simp only [Act.put, gD, gE, gF]
  refine wpAnyH_take (i := 8) (oi := ?oia8) (v := .slice aa n ac) ?hia8 (by kernel_rfl) (by kernel_rfl) (by kernel_rfl) ?hqa8 ?hya8 hHeld ?hra8
  case hia8 =>
   simp only [gA, gB, gC]
   rfl
  case hqa8 => exact fun _ _ _ h => h
  case hya8 => exact Or.inl ⟨by kernel_rfl, fun w hSw => by go_simp⟩
  try simp only [Act.put, gD, gE, gF]
  refine wpAnyH_take (i := 10) (oi := ?oia10) (v := .agg #[.slice ua un uc]) ?hia10 (by kernel_rfl) (by kernel_rfl) (by kernel_rfl) ?hqa10 ?hya10 hHeld ?hra10
  case hia10 =>
   simp only [gA, gB, gC]
   rfl
  case hqa10 => exact fun _ _ _ h => h
  case hya10 => exact Or.inl ⟨by kernel_rfl, fun w hSw => by go_simp⟩
  try simp only [Act.put, gD, gE, gF]
  refine wpAnyH_take (i := 11) (oi := ?oia11) (v := .slice aa n ac) ?hia11 (by kernel_rfl) (by kernel_rfl) (by kernel_rfl) ?hqa11 ?hya11 hHeld ?hra11
  case hia11 =>
   simp only [gA, gB, gC]
   rfl
  case hqa11 => exact fun _ _ _ h => h
  case hya11 => exact Or.inl ⟨by kernel_rfl, fun w hSw => by go_simp⟩
  try simp only [Act.put, gD, gE, gF]
  refine wpAnyH_ready (rs := [9]) (by kernel_rfl) (by simp) ?_
  refine (AllReadyH.cons (o := ?ooa9) ?hoa9 (fun K hK => ?hka9) AllReadyH.nil)
  case hoa9 =>
   simp only [gA, gB, gC]
   rfl
  case hka9 =>
   go_simp
   go_at_call 36
   refine (hwi w4 B4.out).mono ?_
   rintro e w5 ⟨rfl, b5⟩
   have B5 : Hid (Below W.heap.size W w5) := B4.out.trans (b5.mono B4.out.size)
   clear b5
   try go_wp2_with fail
   refine hK.out _ _ ((one_cell ((B5.out.block _ hz).trans HBX.out)).1) (fun hHeld => ?_)
   clear hK K
   try simp only [Act.put, gD, gE, gF]
   refine wpAnyH_ready (rs := [12]) (by kernel_rfl) (by simp) ?_
   refine (AllReadyH.cons (o := ?ooa12) ?hoa12 (fun K hK => ?hka12) AllReadyH.nil)
   case hoa12 =>
    simp only [gA, gB, gC]
    rfl
   case hka12 =>
    go_simp
    go_at_call 37
    refine (hws w5 B5.out).mono ?_
    rintro e w6 ⟨rfl, b6⟩
    have B6 : Hid (Below W.heap.size W w6) := B5.out.trans (b6.mono B5.out.size)
    clear b6
    try go_wp2_with fail
    refine hK.out _ _ ((one_cell ((B6.out.block _ hz).trans HBX.out)).1) (fun hHeld => ?_)
    clear hK K
    try simp only [Act.put, gD, gE, gF]
    refine wpAnyH_take (i := 13) (oi := ?oia13) (v := .bool false) ?hia13 (by kernel_rfl) (by kernel_rfl) (by kernel_rfl) ?hqa13 ?hya13 hHeld ?hra13
    case hia13 =>
     simp only [gA, gB, gC]
     rfl
    case hqa13 => exact fun _ _ _ h => h
    case hya13 => exact Or.inl ⟨by kernel_rfl, fun w hSw => by go_simp; (try cases kb <;> rfl)⟩
    try simp only [Act.put, gD, gE, gF]
    refine wpAnyH_take (i := 14) (oi := ?oia14) (v := .bool false) ?hia14 (by kernel_rfl) (by kernel_rfl) (by kernel_rfl) ?hqa14 ?hya14 hHeld ?hra14
    case hia14 =>
     simp only [gA, gB, gC]
     rfl
    case hqa14 => exact fun _ _ _ h => h
    case hya14 => exact Or.inl ⟨by kernel_rfl, fun w hSw => by go_simp⟩
    try simp only [Act.put, gD, gE, gF]
    refine wpAnyH_done (by kernel_rfl) ?_ _
    obtain ⟨c6, _⟩ := one_cell ((B6.out.block _ hz).trans HBX.out)
    have BW6 : Hid (Below w.heap.size w w6) := BW.out.trans (B6.out.mono BW.out.size)
    clear c2 B4 B5 hsp hws
    rcases HCC.out with ⟨hA1, hno⟩ | ⟨hc, st, hst, hAs, hsm⟩
    · subst hA1
      have hwl := hwi w6 B6.out
      have HNO : Hid (kb = false ∨ c < 1 ∨ 2 < c) := by
       rcases hno with h | h
       · exact .inl h
       · refine .inr ?_
         by_cases h1 : c < 1
         · exact .inl h1
         · refine .inr ?_
           have h2 : ¬ c = 1 := fun e => h (.inl e)
           have h3 : ¬ c = 2 := fun e => h (.inr e)
           omega
      clear hno
      go_wp2_with fail
      go_at_call 36
      refine hwl.mono ?_
      rintro e w7 ⟨rfl, b7⟩
      have BW7 : Hid (Below w.heap.size w w7) := BW6.out.trans (b7.mono BW6.out.size)
      clear b7 hwl
      cases kb with
      | false =>
       go_wp2_with fail
       go_ret
       exact ⟨rfl, BW7.out⟩
      | true =>
       by_cases h1 : c < 1
       · have hd : decide (c < 1) = true := by simpa using h1
         go_wp2_with fail
         go_ret
         exact ⟨rfl, BW7.out⟩
       · have h2 : 2 < c := by
          rcases HNO.out with h | h | h
          · cases h
          · exact absurd h h1
          · exact h
         have hd : decide (c < 1) = false := by simpa using h1
         have hd2 : decide ((2 : Int) < c) = true := by simpa using h2
         go_wp2_with fail
         go_ret
         exact ⟨rfl, BW7.out⟩
    · have HST : Hid (walkA c ps xs n = some st) := hst
      have hA0 : ¬ A < 0 := by rw [hAs]; have := hsm.1; omega
      have hd0 : decide (A < 0) = false := by simpa using hA0
      obtain ⟨hoB, _, _, _⟩ := walkA_ok hc hst
      obtain ⟨FL, hFL⟩ := factA_some ps c
      have hfa := implFacts ps c FL hFL (.slice ua un uc) w6 hps hpe (readsP_below RP.out B6.out)
      have HFL : Hid (∃ I E, FA ps c I E ∧ FL = factL ps I E) := hFL.1 hoB
      have HAS : Hid (A = st.h ∧ Small st.h) := ⟨hAs, hsm⟩
      clear hst hAs hsm hFL hwi
      go_wp2_with fail
      go_at_call 19
      refine hfa.mono ?_
      rintro e w7 ⟨fv, us, rfl, ofv, _, b7⟩
      have B7 : Hid (Below W.heap.size W w7) := B6.out.trans (b7.mono B6.out.size)
      have OF : Hid (OwnSS w7 w6.heap.size fv us FL) := ofv
      clear ofv b7 hfa c6
      obtain ⟨I, E, hFA, hFe⟩ := HFL.out
      subst hFe
      have HRD : Hid _ := fun (i : Nat) (h1 : 1 ≤ i) (hi : i ≤ n) => walks_round HST.out hc hxs hFA (i := i) h1 hi
      have hfl := factL_len ps I E
      have hfg := @factL_get ps I E
      obtain ⟨_, _, hCP, hps4⟩ := okB_parts hoB
      have hps1 := ok_one hoB
      obtain ⟨gf, cf, hfv⟩ : ∃ gf cf, fv = .slice (some ⟨gf, 0, none⟩) (factL ps I E).length cf := by
       rcases OF.out.row.2 with ⟨e, h0⟩ | ⟨g, cap, cur, e, _⟩
       · omega
       · exact ⟨g, cap, e⟩
      subst hfv
      have BW7 : Hid (Below w.heap.size w w7) := BW.out.trans (B7.out.mono BW.out.size)
      have HZ : Hid (w1.heap.size < W.heap.size) := hz
      clear hFA HFL HCC HAS hd0 hA0 BW6
      go_wp2_with fail
      go_loopw [8] (fun q wr => ∃ i : Nat, 1 ≤ i ∧ i ≤ n + 1 ∧ q = .int .i64 i ∧ Below w7.heap.size w7 wr) (fun q _ => n + 1 - (intOf q).toNat)
      case atStart => exact ⟨1, by omega, by omega, rfl, Below.refl _ _⟩
      case round =>
       obtain ⟨i, hi1, hi2, rfl, hbr⟩ := hrel
       by_cases hlt : i ≤ n
       · have hlt' : (i : Int) ≤ (n : Int) := by omega
         obtain ⟨p, q, x, f, hp, hq, hxp, hxq, hh, hsx, hsf, hfe, hlor, hod⟩ := HRD.out i hi1 hlt
         have hi0 : (0 : Int) ≤ (i : Int) - 1 := by omega
         have hi9 : ((i : Int) - 1).toNat = i - 1 := by omega
         have hin : (i : Int) - 1 < (n : Int) := by omega
         have BWr : Below W.heap.size W wr := B7.out.trans (hbr.mono B7.out.size)
         have owr := own_kept OA.out BWr
         obtain ⟨ga, haa⟩ : ∃ ga, aa = some ⟨ga, 0, none⟩ := by
          rcases owr.2 with ⟨e, h0⟩ | ⟨g, cap, cur, e, _⟩
          · omega
          · injection e with e1; exact ⟨g, e1⟩
         subst haa
         have l0 : wr.cell? ⟨ga, (i - 1) * 2, none⟩ = some (.int .i64 (p : Int)) := by
          rw [owr.cellAt ((i - 1) * 2) (by omega)]
          simp [ints, hxp]
         have l1 : wr.cell? ⟨ga, (i - 1) * 2 + 1, none⟩ = some (.int .i64 (q : Int)) := by
          rw [owr.cellAt ((i - 1) * 2 + 1) (by omega)]
          simp [ints, hxq]
         have him9 := fun X (hX : Below wr.heap.size wr X) => implHolding ps c (xs.take (2 * i)) i (.slice ua un uc) (.slice (some ⟨ga, 0, none⟩) i ac) X hps hpe (readsP_below RP.out (BWr.trans (hX.mono BWr.size))) (by simp; omega) (by omega) (reads2_take (reads2_own (own_kept owr hX)) (by omega)) (fun a c' e => by injection e with _ _ e3; have := own_capH owr _ _ rfl; omega)
         rw [hh] at him9
         have hcap := own_capH owr _ _ rfl
         have hiac : ¬ ac < i := by omega
         have cP := (one_cell ((BWr.block _ HZ.out).trans HBX.out)).1
         have lP : w1.heap.size < wr.heap.size := Nat.lt_of_lt_of_le HZ.out BWr.size
         have OFr := OF.out.below hbr
         obtain ⟨u9, hu9, k0, ou9⟩ := OFr.at (j := p) (by rw [hfl]; exact hp)
         have hgp := hfg hp
         have hgp2 : (factL ps I E)[p]'(by rw [hfl]; exact hp) = rowF I E p ps[p].length := by
          rw [List.getElem?_eq_getElem (by rw [hfl]; exact hp)] at hgp
          exact Option.some.inj hgp
         rw [hgp2, rowF_len] at ou9
         obtain ⟨gi, ci, hu⟩ : ∃ gi ci, u9 = .slice (some ⟨gi, 0, none⟩) ps[p].length ci := by
          rcases ou9.2 with ⟨e, h0⟩ | ⟨g, cap, cur, e, _⟩
          · omega
          · exact ⟨g, cap, e⟩
         subst hu
         have k1 : wr.cell? ⟨gi, q, none⟩ = some (.int .i64 f) := by
          rw [ou9.cellAt q (by omega), ← hfe]
          simp [ints, rowF, hq]
         have lf : gf < wr.heap.size := (OFr.row.lt gf rfl).2
         have li : gi < wr.heap.size := (ou9.lt gi rfl).2
         have hpl : (p : Int) < (ps.length : Int) := by omega
         obtain ⟨M, hM⟩ : ∃ M, ps[p].length = M := ⟨_, rfl⟩
         rw [hM] at k0
         have hqM : q < M := by rw [← hM]; exact hq
         have hqM' : (q : Int) < (M : Int) := by omega
         have HHB : Hid _ := hbr
         clear ou9 OFr hgp hgp2 hu9 hfe hxp hxq hh hM hq hp owr hbr
         have lor9 : bits .or .i64 x f = f := hlor
         have hmod : x.tmod 2 = 1 := by rw [Int.tmod_eq_emod_of_nonneg hsx.1]; exact hod
         have hx0 : ¬ x < 0 := by have := hsx.1; omega
         have hdx : decide (x < 0) = false := by simpa using hx0
         obtain ⟨wb, hwb⟩ : ∃ wb, wr.alloc (.cells #[.int .i64 (p : Int), .int .i64 (q : Int)] 56) = wb := ⟨_, rfl⟩
         have bb : Below wr.heap.size wr wb := by rw [← hwb]; go_grown
         have hB9 : wb.heap[wr.heap.size]? = some (.cells #[.int .i64 (p : Int), .int .i64 (q : Int)] 56 (0, 0)) := by rw [← hwb]; exact heap_alloc_new wr _
         have sb : wr.heap.size < wb.heap.size := by rw [← hwb]; simp
         have cPb := (bb.cell lP).trans cP
         have lPb : w1.heap.size < wb.heap.size := by omega
         go_wp2_with fail
         clear hwb l0 l1 cP
         refine wp_region_held_drew (S := fun w' => w'.cell? ⟨w1.heap.size, 0, none⟩ = some (.slice ua un uc)) (by kernel_rfl) cPb (fun hHeld => ?_)
         refine wpAnyH_take (i := 0) (oi := ?oib0) (v := .agg #[.slice ua un uc]) ?hib0 (by kernel_rfl) (by kernel_rfl) (by kernel_rfl) ?hqb0 ?hyb0 hHeld ?hrb0
         case hib0 =>
          simp only [gA, gB, gC]
          rfl
         case hqb0 => exact fun _ _ _ h => h
         case hyb0 => exact Or.inl ⟨by kernel_rfl, fun w hSw => by go_simp⟩
         try simp only [Act.put, gD, gE, gF]
         refine wpAnyH_take (i := 1) (oi := ?oib1) (v := .int .i64 c) ?hib1 (by kernel_rfl) (by kernel_rfl) (by kernel_rfl) ?hqb1 ?hyb1 hHeld ?hrb1
         case hib1 =>
          simp only [gA, gB, gC]
          rfl
         case hqb1 => exact fun _ _ _ h => h
         case hyb1 => exact Or.inl ⟨by kernel_rfl, fun w hSw => by go_simp⟩
         try simp only [Act.put, gD, gE, gF]
         refine wpAnyH_take (i := 2) (oi := ?oib2) (v := .slice (some ⟨ga, 0, none⟩) n ac) ?hib2 (by kernel_rfl) (by kernel_rfl) (by kernel_rfl) ?hqb2 ?hyb2 hHeld ?hrb2
         case hib2 =>
          simp only [gA, gB, gC]
          rfl
         case hqb2 => exact fun _ _ _ h => h
         case hyb2 => exact Or.inl ⟨by kernel_rfl, fun w hSw => by go_simp⟩
         try simp only [Act.put, gD, gE, gF]
         refine wpAnyH_take (i := 3) (oi := ?oib3) (v := .int .i64 (i : Int)) ?hib3 (by kernel_rfl) (by kernel_rfl) (by kernel_rfl) ?hqb3 ?hyb3 hHeld ?hrb3
         case hib3 =>
          simp only [gA, gB, gC]
          rfl
         case hqb3 => exact fun _ _ _ h => h
         case hyb3 => exact Or.inl ⟨by kernel_rfl, fun w hSw => by go_simp⟩
         try simp only [Act.put, gD, gE, gF]
         refine wpAnyH_take (i := 4) (oi := ?oib4) (v := .slice (some ⟨ga, 0, none⟩) i ac) ?hib4 (by kernel_rfl) (by kernel_rfl) (by kernel_rfl) ?hqb4 ?hyb4 hHeld ?hrb4
         case hib4 =>
          simp only [gA, gB, gC]
          rfl
         case hqb4 => exact fun _ _ _ h => h
         case hyb4 => exact Or.inl ⟨by kernel_rfl, fun w hSw => by go_simp⟩
         try simp only [Act.put, gD, gE, gF]
         refine wpAnyH_ready (rs := [5]) (by kernel_rfl) (by simp) ?_
         refine (AllReadyH.cons (o := ?oob5) ?hob5 (fun K hK => ?hkb5) AllReadyH.nil)
         case hob5 =>
          simp only [gA, gB, gC]
          rfl
         case hkb5 =>
          go_simp
          go_at_call 34
          refine (him9 wb.drew bb.drew).mono ?_
          rintro e w9 ⟨rfl, b9⟩
          have B9 : Hid (Below wb.heap.size wb w9) := Below.trans (Below.drew (Below.refl _ _)) b9
          clear b9
          try go_wp2_with fail
          refine hK.out _ _ ((B9.out.cell lPb).trans cPb) (fun hHeld => ?_)
          clear hK K
          try simp only [Act.put, gD, gE, gF]
          refine wpAnyH_take (i := 6) (oi := ?oib6) (v := .int .i64 x) ?hib6 (by kernel_rfl) (by kernel_rfl) (by kernel_rfl) ?hqb6 ?hyb6 hHeld ?hrb6
          case hib6 =>
           simp only [gA, gB, gC]
           rfl
          case hqb6 => exact fun _ _ _ h => h
          case hyb6 => exact Or.inl ⟨by kernel_rfl, fun w hSw => by go_simp⟩
          try simp only [Act.put, gD, gE, gF]
          refine wpAnyH_done (by kernel_rfl) ?_ _
          have B9r : Hid (Below wr.heap.size wr w9) := bb.trans (B9.out.mono bb.size)
          have X9 := (B9.out.block _ sb).trans hB9
          have m0 : w9.cell? ⟨wr.heap.size, 0, none⟩ = some (.int .i64 (p : Int)) := by simp [World.cell?, X9]
          have m1 : w9.cell? ⟨wr.heap.size, 1, none⟩ = some (.int .i64 (q : Int)) := by simp [World.cell?, X9]
          have m2 := (B9r.out.cell lf).trans k0
          have m3 := (B9r.out.cell li).trans k1
          have HBE : Hid (Below w7.heap.size w7 w9) := HHB.out.trans (B9r.out.mono HHB.out.size)
          clear X9 k0 k1 him9 cPb bb hB9
          go_wp2_with fail
          refine wp_region_held_drew (S := fun w' => w'.cell? ⟨wr.heap.size, 0, none⟩ = some (.int .i64 (p : Int)) ∧ w'.cell? ⟨wr.heap.size, 1, none⟩ = some (.int .i64 (q : Int)) ∧ w'.cell? ⟨gf, p, none⟩ = some (.slice (some ⟨gi, 0, none⟩) M ci) ∧ w'.cell? ⟨gi, q, none⟩ = some (.int .i64 f)) (by kernel_rfl) ⟨m0, m1, m2, m3⟩ (fun hHeld => ?_)
          refine wpAnyH_take (i := 0) (oi := ?oic0) (v := .int .i64 x) ?hic0 (by kernel_rfl) (by kernel_rfl) (by kernel_rfl) ?hqc0 ?hyc0 hHeld ?hrc0
          case hic0 =>
           simp only [gA, gB, gC]
           rfl
          case hqc0 => exact fun _ _ _ h => h
          case hyc0 => exact Or.inl ⟨by kernel_rfl, fun w hSw => by go_simp⟩
          try simp only [Act.put, gD, gE, gF]
          refine wpAnyH_take (i := 1) (oi := ?oic1) (v := .bool false) ?hic1 (by kernel_rfl) (by kernel_rfl) (by kernel_rfl) ?hqc1 ?hyc1 hHeld ?hrc1
          case hic1 =>
           simp only [gA, gB, gC]
           rfl
          case hqc1 => exact fun _ _ _ h => h
          case hyc1 => exact Or.inl ⟨by kernel_rfl, fun w hSw => by go_simp⟩
          try simp only [Act.put, gD, gE, gF]
          refine wpAnyH_take (i := 2) (oi := ?oic2) (v := .bool false) ?hic2 (by kernel_rfl) (by kernel_rfl) (by kernel_rfl) ?hqc2 ?hyc2 hHeld ?hrc2
          case hic2 =>
           simp only [gA, gB, gC]
           rfl
          case hqc2 => exact fun _ _ _ h => h
          case hyc2 => exact Or.inl ⟨by kernel_rfl, fun w hSw => by go_simp⟩
          try simp only [Act.put, gD, gE, gF]
          refine wpAnyH_take (i := 3) (oi := ?oic3) (v := .int .i64 x) ?hic3 (by kernel_rfl) (by kernel_rfl) (by kernel_rfl) ?hqc3 ?hyc3 hHeld ?hrc3
          case hic3 =>
           simp only [gA, gB, gC]
           rfl
          case hqc3 => exact fun _ _ _ h => h
          case hyc3 => exact Or.inl ⟨by kernel_rfl, fun w hSw => by go_simp⟩
          try simp only [Act.put, gD, gE, gF]
          refine wpAnyH_take (i := 4) (oi := ?oic4) (v := .slice (some ⟨gf, 0, none⟩) ps.length cf) ?hic4 (by kernel_rfl) (by kernel_rfl) (by kernel_rfl) ?hqc4 ?hyc4 hHeld ?hrc4
          case hic4 =>
           simp only [gA, gB, gC]
           rfl
          case hqc4 => exact fun _ _ _ h => h
          case hyc4 => exact Or.inl ⟨by kernel_rfl, fun w hSw => by go_simp⟩
          try simp only [Act.put, gD, gE, gF]
          refine wpAnyH_take (i := 5) (oi := ?oic5) (v := .pointer (some ⟨wr.heap.size, 0, none⟩)) ?hic5 (by kernel_rfl) (by kernel_rfl) (by kernel_rfl) ?hqc5 ?hyc5 hHeld ?hrc5
          case hic5 =>
           simp only [gA, gB, gC]
           rfl
          case hqc5 => exact fun _ _ _ h => h
          case hyc5 => exact Or.inl ⟨by kernel_rfl, fun w hSw => by go_simp⟩
          try simp only [Act.put, gD, gE, gF]
          refine wpAnyH_take (i := 6) (oi := ?oic6) (v := .int .i64 (p : Int)) ?hic6 (by kernel_rfl) (by kernel_rfl) (by kernel_rfl) ?hqc6 ?hyc6 hHeld ?hrc6
          case hic6 =>
           simp only [gA, gB, gC]
           rfl
          case hqc6 => exact fun _ _ _ h => h
          case hyc6 => exact Or.inl ⟨by kernel_rfl, fun w hSw => by obtain ⟨s0, s1, s2, s3⟩ := hSw; go_simp⟩
          try simp only [Act.put, gD, gE, gF]
          refine wpAnyH_take (i := 7) (oi := ?oic7) (v := .pointer (some ⟨gf, p, none⟩)) ?hic7 (by kernel_rfl) (by kernel_rfl) (by kernel_rfl) ?hqc7 ?hyc7 hHeld ?hrc7
          case hic7 =>
           simp only [gA, gB, gC]
           rfl
          case hqc7 => exact fun _ _ _ h => h
          case hyc7 => exact Or.inl ⟨by kernel_rfl, fun w hSw => by go_simp⟩
          try simp only [Act.put, gD, gE, gF]
          refine wpAnyH_take (i := 8) (oi := ?oic8) (v := .slice (some ⟨gi, 0, none⟩) M ci) ?hic8 (by kernel_rfl) (by kernel_rfl) (by kernel_rfl) ?hqc8 ?hyc8 hHeld ?hrc8
          case hic8 =>
           simp only [gA, gB, gC]
           rfl
          case hqc8 => exact fun _ _ _ h => h
          case hyc8 => exact Or.inl ⟨by kernel_rfl, fun w hSw => by obtain ⟨s0, s1, s2, s3⟩ := hSw; go_simp⟩
          try simp only [Act.put, gD, gE, gF]
          refine wpAnyH_take (i := 9) (oi := ?oic9) (v := .pointer (some ⟨wr.heap.size, 1, none⟩)) ?hic9 (by kernel_rfl) (by kernel_rfl) (by kernel_rfl) ?hqc9 ?hyc9 hHeld ?hrc9
          case hic9 =>
           simp only [gA, gB, gC]
           rfl
          case hqc9 => exact fun _ _ _ h => h
          case hyc9 => exact Or.inl ⟨by kernel_rfl, fun w hSw => by go_simp⟩
          try simp only [Act.put, gD, gE, gF]
          refine wpAnyH_take (i := 10) (oi := ?oic10) (v := .int .i64 (q : Int)) ?hic10 (by kernel_rfl) (by kernel_rfl) (by kernel_rfl) ?hqc10 ?hyc10 hHeld ?hrc10
          case hic10 =>
           simp only [gA, gB, gC]
           rfl
          case hqc10 => exact fun _ _ _ h => h
          case hyc10 => exact Or.inl ⟨by kernel_rfl, fun w hSw => by obtain ⟨s0, s1, s2, s3⟩ := hSw; go_simp⟩
          try simp only [Act.put, gD, gE, gF]
          refine wpAnyH_take (i := 11) (oi := ?oic11) (v := .pointer (some ⟨gi, q, none⟩)) ?hic11 (by kernel_rfl) (by kernel_rfl) (by kernel_rfl) ?hqc11 ?hyc11 hHeld ?hrc11
          case hic11 =>
           simp only [gA, gB, gC]
           rfl
          case hqc11 => exact fun _ _ _ h => h
          case hyc11 => exact Or.inl ⟨by kernel_rfl, fun w hSw => by go_simp⟩
          try simp only [Act.put, gD, gE, gF]
          refine wpAnyH_take (i := 12) (oi := ?oic12) (v := .int .i64 f) ?hic12 (by kernel_rfl) (by kernel_rfl) (by kernel_rfl) ?hqc12 ?hyc12 hHeld ?hrc12
          case hic12 =>
           simp only [gA, gB, gC]
           rfl
          case hqc12 => exact fun _ _ _ h => h
          case hyc12 => exact Or.inl ⟨by kernel_rfl, fun w hSw => by obtain ⟨s0, s1, s2, s3⟩ := hSw; go_simp⟩
          try simp only [Act.put, gD, gE, gF]
          refine wpAnyH_take (i := 13) (oi := ?oic13) (v := .int .i64 f) ?hic13 (by kernel_rfl) (by kernel_rfl) (by kernel_rfl) ?hqc13 ?hyc13 hHeld ?hrc13
          case hic13 =>
           simp only [gA, gB, gC]
           rfl
          case hqc13 => exact fun _ _ _ h => h
          case hyc13 => exact Or.inl ⟨by kernel_rfl, fun w hSw => by go_simp; (try rw [lor9])⟩
          try simp only [Act.put, gD, gE, gF]
          refine wpAnyH_take (i := 14) (oi := ?oic14) (v := .slice (some ⟨gf, 0, none⟩) ps.length cf) ?hic14 (by kernel_rfl) (by kernel_rfl) (by kernel_rfl) ?hqc14 ?hyc14 hHeld ?hrc14
          case hic14 =>
           simp only [gA, gB, gC]
           rfl
          case hqc14 => exact fun _ _ _ h => h
          case hyc14 => exact Or.inl ⟨by kernel_rfl, fun w hSw => by go_simp⟩
          try simp only [Act.put, gD, gE, gF]
          refine wpAnyH_take (i := 15) (oi := ?oic15) (v := .pointer (some ⟨wr.heap.size, 0, none⟩)) ?hic15 (by kernel_rfl) (by kernel_rfl) (by kernel_rfl) ?hqc15 ?hyc15 hHeld ?hrc15
          case hic15 =>
           simp only [gA, gB, gC]
           rfl
          case hqc15 => exact fun _ _ _ h => h
          case hyc15 => exact Or.inl ⟨by kernel_rfl, fun w hSw => by go_simp⟩
          try simp only [Act.put, gD, gE, gF]
          refine wpAnyH_take (i := 16) (oi := ?oic16) (v := .int .i64 (p : Int)) ?hic16 (by kernel_rfl) (by kernel_rfl) (by kernel_rfl) ?hqc16 ?hyc16 hHeld ?hrc16
          case hic16 =>
           simp only [gA, gB, gC]
           rfl
          case hqc16 => exact fun _ _ _ h => h
          case hyc16 => exact Or.inl ⟨by kernel_rfl, fun w hSw => by obtain ⟨s0, s1, s2, s3⟩ := hSw; go_simp⟩
          try simp only [Act.put, gD, gE, gF]
          refine wpAnyH_take (i := 17) (oi := ?oic17) (v := .pointer (some ⟨gf, p, none⟩)) ?hic17 (by kernel_rfl) (by kernel_rfl) (by kernel_rfl) ?hqc17 ?hyc17 hHeld ?hrc17
          case hic17 =>
           simp only [gA, gB, gC]
           rfl
          case hqc17 => exact fun _ _ _ h => h
          case hyc17 => exact Or.inl ⟨by kernel_rfl, fun w hSw => by go_simp⟩
          try simp only [Act.put, gD, gE, gF]
          refine wpAnyH_take (i := 18) (oi := ?oic18) (v := .slice (some ⟨gi, 0, none⟩) M ci) ?hic18 (by kernel_rfl) (by kernel_rfl) (by kernel_rfl) ?hqc18 ?hyc18 hHeld ?hrc18
          case hic18 =>
           simp only [gA, gB, gC]
           rfl
          case hqc18 => exact fun _ _ _ h => h
          case hyc18 => exact Or.inl ⟨by kernel_rfl, fun w hSw => by obtain ⟨s0, s1, s2, s3⟩ := hSw; go_simp⟩
          try simp only [Act.put, gD, gE, gF]
          refine wpAnyH_take (i := 19) (oi := ?oic19) (v := .pointer (some ⟨wr.heap.size, 1, none⟩)) ?hic19 (by kernel_rfl) (by kernel_rfl) (by kernel_rfl) ?hqc19 ?hyc19 hHeld ?hrc19
          case hic19 =>
           simp only [gA, gB, gC]
           rfl
          case hqc19 => exact fun _ _ _ h => h
          case hyc19 => exact Or.inl ⟨by kernel_rfl, fun w hSw => by go_simp⟩
          try simp only [Act.put, gD, gE, gF]
          refine wpAnyH_take (i := 20) (oi := ?oic20) (v := .int .i64 (q : Int)) ?hic20 (by kernel_rfl) (by kernel_rfl) (by kernel_rfl) ?hqc20 ?hyc20 hHeld ?hrc20
          case hic20 =>
           simp only [gA, gB, gC]
           rfl
          case hqc20 => exact fun _ _ _ h => h
          case hyc20 => exact Or.inl ⟨by kernel_rfl, fun w hSw => by obtain ⟨s0, s1, s2, s3⟩ := hSw; go_simp⟩
          try simp only [Act.put, gD, gE, gF]
          refine wpAnyH_take (i := 21) (oi := ?oic21) (v := .pointer (some ⟨gi, q, none⟩)) ?hic21 (by kernel_rfl) (by kernel_rfl) (by kernel_rfl) ?hqc21 ?hyc21 hHeld ?hrc21
          case hic21 =>
           simp only [gA, gB, gC]
           rfl
          case hqc21 => exact fun _ _ _ h => h
          case hyc21 => exact Or.inl ⟨by kernel_rfl, fun w hSw => by go_simp⟩
          try simp only [Act.put, gD, gE, gF]
          refine wpAnyH_take (i := 22) (oi := ?oic22) (v := .int .i64 f) ?hic22 (by kernel_rfl) (by kernel_rfl) (by kernel_rfl) ?hqc22 ?hyc22 hHeld ?hrc22
          case hic22 =>
           simp only [gA, gB, gC]
           rfl
          case hqc22 => exact fun _ _ _ h => h
          case hyc22 => exact Or.inl ⟨by kernel_rfl, fun w hSw => by obtain ⟨s0, s1, s2, s3⟩ := hSw; go_simp⟩
          try simp only [Act.put, gD, gE, gF]
          refine wpAnyH_take (i := 23) (oi := ?oic23) (v := .bool false) ?hic23 (by kernel_rfl) (by kernel_rfl) (by kernel_rfl) ?hqc23 ?hyc23 hHeld ?hrc23
          case hic23 =>
           simp only [gA, gB, gC]
           rfl
          case hqc23 => exact fun _ _ _ h => h
          case hyc23 => exact Or.inl ⟨by kernel_rfl, fun w hSw => by go_simp⟩
          try simp only [Act.put, gD, gE, gF]
          refine wpAnyH_take (i := 24) (oi := ?oic24) (v := .bool false) ?hic24 (by kernel_rfl) (by kernel_rfl) (by kernel_rfl) ?hqc24 ?hyc24 hHeld ?hrc24
          case hic24 =>
           simp only [gA, gB, gC]
           rfl
          case hqc24 => exact fun _ _ _ h => h
          case hyc24 => exact Or.inl ⟨by kernel_rfl, fun w hSw => by go_simp⟩
          try simp only [Act.put, gD, gE, gF]
          refine wpAnyH_take (i := 25) (oi := ?oic25) (v := .bool false) ?hic25 (by kernel_rfl) (by kernel_rfl) (by kernel_rfl) ?hqc25 ?hyc25 hHeld ?hrc25
          case hic25 =>
           simp only [gA, gB, gC]
           rfl
          case hqc25 => exact fun _ _ _ h => h
          case hyc25 => exact Or.inl ⟨by kernel_rfl, fun w hSw => by go_simp⟩
          try simp only [Act.put, gD, gE, gF]
          refine wpAnyH_take (i := 26) (oi := ?oic26) (v := .int .i64 x) ?hic26 (by kernel_rfl) (by kernel_rfl) (by kernel_rfl) ?hqc26 ?hyc26 hHeld ?hrc26
          case hic26 =>
           simp only [gA, gB, gC]
           rfl
          case hqc26 => exact fun _ _ _ h => h
          case hyc26 => exact Or.inl ⟨by kernel_rfl, fun w hSw => by go_simp⟩
          try simp only [Act.put, gD, gE, gF]
          refine wpAnyH_take (i := 27) (oi := ?oic27) (v := .int .i64 1) ?hic27 (by kernel_rfl) (by kernel_rfl) (by kernel_rfl) ?hqc27 ?hyc27 hHeld ?hrc27
          case hic27 =>
           simp only [gA, gB, gC]
           rfl
          case hqc27 => exact fun _ _ _ h => h
          case hyc27 => exact Or.inl ⟨by kernel_rfl, fun w hSw => by go_simp⟩
          try simp only [Act.put, gD, gE, gF]
          refine wpAnyH_take (i := 28) (oi := ?oic28) (v := .bool false) ?hic28 (by kernel_rfl) (by kernel_rfl) (by kernel_rfl) ?hqc28 ?hyc28 hHeld ?hrc28
          case hic28 =>
           simp only [gA, gB, gC]
           rfl
          case hqc28 => exact fun _ _ _ h => h
          case hyc28 => exact Or.inl ⟨by kernel_rfl, fun w hSw => by go_simp⟩
          try simp only [Act.put, gD, gE, gF]
          refine wpAnyH_take (i := 29) (oi := ?oic29) (v := .bool false) ?hic29 (by kernel_rfl) (by kernel_rfl) (by kernel_rfl) ?hqc29 ?hyc29 hHeld ?hrc29
          case hic29 =>
           simp only [gA, gB, gC]
           rfl
          case hqc29 => exact fun _ _ _ h => h
          case hyc29 => exact Or.inl ⟨by kernel_rfl, fun w hSw => by go_simp⟩
          try simp only [Act.put, gD, gE, gF]
          refine wpAnyH_done (by kernel_rfl) ?_ _
          go_wp2
          go_roundw
          case rel => exact ⟨i + 1, by omega, by omega, by go_num, HBE.out.drew⟩
          case measure => simp [intOf]; omega
       · have hii : i = n + 1 := by omega
         have HBE : Hid (Below w7.heap.size w7 wr) := hbr
         have hnlt : ¬ (i : Int) ≤ (n : Int) := by omega
         clear hbr hii
         go_wp2
         go_ret
         exact ⟨rfl, BW7.out.trans (HBE.out.mono BW7.out.size)⟩

end Go.Proofs.Ytnjbihfceckpfaa
