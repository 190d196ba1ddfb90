/-
  The law FnProofs.
-/
import Derived.Test.YtciccbbgamklbaaProofsM
import Derived.Test.YtciccbbgamklbaaDrawProof
import Derived.Test.YtciccbbgamklbaaG13SpecProofT
import Derived.Test.YtciccbbgamklbaaG12ImplProof
import Derived.Test.YtciccbbgamklbaaG07SpecLess
import Derived.Test.YtciccbbgamklbaaImplAlong
import Derived.Test.YtciccbbgamklbaaWayImpl
import Derived.Test.YtciccbbgamklbaaSpecWays
import Derived.Test.YtciccbbgamklbaaWaysBoth
import Derived.Test.YtciccbbgamklbaaIntLaws
import Derived.Test.YtciccbbgamklbaaOpenCode
import Derived.Test.YtciccbbgamklbaaFnKit
namespace Go.Proofs.Ytciccbbgamklbaa
open Go.ChangeShapes Go.WideShapes Go.ChangeAt Go.RowKit
set_option linter.unusedVariables false
set_option linter.unusedSimpArgs false
set_option maxHeartbeats 8000000
set_option maxRecDepth 20000
theorem own_capK {w : World} {base : Nat} {e : TypeId} {s : Nat} {u : Value} {n : Nat} {xs : List Value} (h : w.ownsRow base e s u n xs) : ∀ a m c, u = .slice a m c → m ≤ c := by
  intro a m c hu
  subst hu
  rcases h.2 with ⟨e0, _⟩ | ⟨g, cap, cur, e0, _, _, h3, _⟩
  · injection e0 with _ e1 e2
    omega
  · injection e0 with _ e1 e2
    subst e1
    subst e2
    exact h3

theorem walkFnProofs (bs : List Int) (v : Value) (w : World) (hl : bs.length ≤ maxLen) (hv : Reads w v (bs.map (Value.int .u8))) :
    Calls Try.prog 4 #[v] w fun e w' => e = .returned (.bool true) ∧ Below w.heap.size w w' := by
  have hbig := lawBig bs v w hl hv
  by_cases hb : (4096 : Int) < (bs.length : Int)
  · rw [decide_eq_true hb] at hbig
    go_enter Try.func4, Try.ntmps4
    go_wp2_with (go_at_call 14; refine hbig.mono ?_; rintro e w1 ⟨rfl, rfl⟩)
    go_ret
    exact ⟨rfl, Below.refl _ _⟩
  rw [decide_eq_false hb] at hbig
  go_enter Try.func4, Try.ntmps4
  go_wp2_with fail
  go_at_call 14
  refine hbig.mono ?_
  rintro e w1 ⟨rfl, rfl⟩
  clear hbig
  go_wp2_with fail
  go_at_call 15
  refine (drawProof bs v w (by omega) hv).mono ?_
  rintro r w1 ⟨up, ss, c, s, at', fa, rfl, hss1, hss7, hat0, hatl, hfa0, hfa8, op1, b1⟩
  have rp := reads3_own op1
  obtain ⟨pa, pc, rfl⟩ := reads3_form rp
  have hsm : ss.length ≤ maxLen := by unfold maxLen; omega
  obtain ⟨_, _, _, ⟨A, _, hAA, hA2, _⟩, _⟩ := specProofOk ss c s at' fa (.slice pa ss.length pc) w1 hsm rp []
  have HAA : Hid (ProofAns c ss s at' fa A) := hAA
  have hAm : A.length ≤ maxLen := by unfold maxLen; omega
  obtain ⟨S, hS⟩ := solvedAns_some c ss s
  have HSS : Hid (SolvedAns c ss s S) := hS
  have hSl := solvedAns_length hS
  have hSm : S.length ≤ maxLen := by unfold maxLen; omega
  clear hS hAA
  have LW : Hid (Below w.heap.size w w1) := b1
  have RP : Hid (Reads3 w1 (.slice pa ss.length pc) ss) := rp
  clear op1 rp b1
  obtain ⟨w2, hAw2⟩ : ∃ W, w1.alloc (.cells #[.slice pa ss.length pc] 30) = W := ⟨_, rfl⟩
  have bb : Below w1.heap.size w1 w2 := by rw [← hAw2]; go_grown
  obtain ⟨bP, hBw2⟩ : ∃ n, w1.heap.size = n := ⟨_, rfl⟩
  have Pn : Hid (w2.heap[bP]? = some (.cells #[.slice pa ss.length pc] 30 (0, 0))) := by
    show w2.heap[bP]? = _
    rw [← hAw2, ← hBw2]; exact heap_alloc_new w1 _
  have LWx : Hid (Below w.heap.size w w2) := low_step LW.out bb
  have RPx : Hid (Reads3 w2 (.slice pa ss.length pc) ss) := reads3_below RP.out bb
  clear LW RP
  have LW : Hid (Below w.heap.size w w2) := LWx.out
  have RP : Hid (Reads3 w2 (.slice pa ss.length pc) ss) := RPx.out
  clear LWx RPx
  clear bb
  have P : Hid (w2.heap[bP]? = some (.cells #[.slice pa ss.length pc] 30 (0, 0))) := Pn.out
  clear Pn
  obtain ⟨cP, -⟩ := one_cell P.out
  have hcall := implProof ss c s at' fa A HAA.out (.slice pa ss.length pc) w2 hsm RP.out
  go_wp2_with fail
  go_at_call 8
  clear hAw2 hBw2
  refine hcall.mono ?_
  rintro r w3 ⟨wv, rfl, ow, bc⟩
  clear hcall cP
  have LWx : Hid (Below w.heap.size w w3) := low_step LW.out bc
  have RPx : Hid (Reads3 w3 (.slice pa ss.length pc) ss) := reads3_below RP.out bc
  have Px : Hid (w3.heap[bP]? = some (.cells #[.slice pa ss.length pc] 30 (0, 0))) := box_step P.out bc
  clear LW RP P
  have LW : Hid (Below w.heap.size w w3) := LWx.out
  have RP : Hid (Reads3 w3 (.slice pa ss.length pc) ss) := RPx.out
  have P : Hid (w3.heap[bP]? = some (.cells #[.slice pa ss.length pc] 30 (0, 0))) := Px.out
  clear LWx RPx Px
  have HCW : Hid (∀ a m c, wv = .slice a m c → m ≤ c) := own_capK ow
  obtain ⟨wa, wc, rfl⟩ := reads_form (reads_own ow)
  have RW : Hid (Reads w3 (.slice wa A.length wc) (ints A)) := reads_own ow
  clear ow bc
  obtain ⟨cP, -⟩ := one_cell P.out
  have hcall := specProofOk ss c s at' fa (.slice pa ss.length pc) w3 hsm RP.out
  go_wp2_with fail
  go_at_call 6
  refine hcall.mono ?_
  rintro r w4 ⟨A2, zv, hA2u, hA2l, rfl, oz, bc⟩
  clear hcall cP
  have LWx : Hid (Below w.heap.size w w4) := low_step LW.out bc
  have RPx : Hid (Reads3 w4 (.slice pa ss.length pc) ss) := reads3_below RP.out bc
  have Px : Hid (w4.heap[bP]? = some (.cells #[.slice pa ss.length pc] 30 (0, 0))) := box_step P.out bc
  have RWx : Hid (Reads w4 (.slice wa A.length wc) (ints A)) := reads_below RW.out bc
  clear LW RP P RW
  have LW : Hid (Below w.heap.size w w4) := LWx.out
  have RP : Hid (Reads3 w4 (.slice pa ss.length pc) ss) := RPx.out
  have P : Hid (w4.heap[bP]? = some (.cells #[.slice pa ss.length pc] 30 (0, 0))) := Px.out
  have RW : Hid (Reads w4 (.slice wa A.length wc) (ints A)) := RWx.out
  clear LWx RPx Px RWx
  obtain rfl : A = A2 := proofAns_uniq HAA.out hA2u
  have RZ : Hid (Reads w4 zv (ints A)) := reads_own oz
  clear oz bc hA2u hA2l
  have hcall := likeInts A (.slice wa A.length wc) zv w4 hAm RW.out RZ.out
  go_wp2_with fail
  go_at_call 16
  refine hcall.mono ?_
  rintro r w5 ⟨rfl, bc⟩
  clear hcall
  have LWx : Hid (Below w.heap.size w w5) := low_step LW.out bc
  have RPx : Hid (Reads3 w5 (.slice pa ss.length pc) ss) := reads3_below RP.out bc
  have Px : Hid (w5.heap[bP]? = some (.cells #[.slice pa ss.length pc] 30 (0, 0))) := box_step P.out bc
  have RWx : Hid (Reads w5 (.slice wa A.length wc) (ints A)) := reads_below RW.out bc
  clear LW RP P RW
  have LW : Hid (Below w.heap.size w w5) := LWx.out
  have RP : Hid (Reads3 w5 (.slice pa ss.length pc) ss) := RPx.out
  have P : Hid (w5.heap[bP]? = some (.cells #[.slice pa ss.length pc] 30 (0, 0))) := Px.out
  have RW : Hid (Reads w5 (.slice wa A.length wc) (ints A)) := RWx.out
  clear LWx RPx Px RWx
  clear RZ bc
  obtain ⟨cP, -⟩ := one_cell P.out
  have hcall := implSolved ss c s S HSS.out (.slice pa ss.length pc) w5 hsm RP.out
  go_wp2_with fail
  go_at_call 17
  refine hcall.mono ?_
  rintro r w6 ⟨sv, rfl, osv, bc⟩
  clear hcall cP
  have LWx : Hid (Below w.heap.size w w6) := low_step LW.out bc
  have RPx : Hid (Reads3 w6 (.slice pa ss.length pc) ss) := reads3_below RP.out bc
  have Px : Hid (w6.heap[bP]? = some (.cells #[.slice pa ss.length pc] 30 (0, 0))) := box_step P.out bc
  have RWx : Hid (Reads w6 (.slice wa A.length wc) (ints A)) := reads_below RW.out bc
  clear LW RP P RW
  have LW : Hid (Below w.heap.size w w6) := LWx.out
  have RP : Hid (Reads3 w6 (.slice pa ss.length pc) ss) := RPx.out
  have P : Hid (w6.heap[bP]? = some (.cells #[.slice pa ss.length pc] 30 (0, 0))) := Px.out
  have RW : Hid (Reads w6 (.slice wa A.length wc) (ints A)) := RWx.out
  clear LWx RPx Px RWx
  obtain ⟨sa, sc, rfl⟩ := reads_form (reads_own osv)
  have RS : Hid (Reads w6 (.slice sa S.length sc) (ints S)) := reads_own osv
  clear osv bc
  have hn1 : ¬ at' < 0 := by omega
  have hn2 : ¬ fa < 0 := by omega
  have hd1 : decide (at' < 0) = false := decide_eq_false hn1
  have hd2 : decide (fa < 0) = false := decide_eq_false hn2
  have HNO : Hid (S.length = 0 ∨ (S.length : Int) ≤ at' ∨ 6 < fa → A.length = 0) := fun h => by
    have := proof_none HSS.out HAA.out (by omega)
    rw [this]; rfl
  by_cases hS0 : S.length = 0
  · have hA0 : (A.length : Int) = 0 := by have := HNO.out (.inl hS0); omega
    have hA0b : ((A.length : Int) == 0) = true := by simpa using hA0
    have hS0' : (S.length : Int) = 0 := by omega
    have hS0b : ((S.length : Int) == 0) = true := by simpa using hS0'
    clear hn1 hn2 hd1 hd2
    go_wp2
    go_ret
    exact ⟨rfl, LW.out⟩
  have hS0' : ¬ (S.length : Int) = 0 := by omega
  have hS0b : ((S.length : Int) == 0) = false := beq_eq_false_iff_ne.2 hS0'
  by_cases hSa : (S.length : Int) ≤ at'
  · have hA0 : (A.length : Int) = 0 := by have := HNO.out (.inr (.inl hSa)); omega
    have hA0b : ((A.length : Int) == 0) = true := by simpa using hA0
    have hSad : decide ((S.length : Int) ≤ at') = true := decide_eq_true hSa
    go_wp2
    go_ret
    exact ⟨rfl, LW.out⟩
  have hSad : decide ((S.length : Int) ≤ at') = false := decide_eq_false hSa
  by_cases hf6 : 6 < fa
  · have hA0 : (A.length : Int) = 0 := by have := HNO.out (.inr (.inr hf6)); omega
    have hA0b : ((A.length : Int) == 0) = true := by simpa using hA0
    have hf6d : decide (6 < fa) = true := decide_eq_true hf6
    go_wp2
    go_ret
    exact ⟨rfl, LW.out⟩
  have hf6d : decide (6 < fa) = false := decide_eq_false hf6
  obtain ⟨i, rfl⟩ : ∃ i : Nat, at' = (i : Int) := ⟨at'.toNat, by omega⟩
  obtain ⟨f, rfl⟩ : ∃ f : Nat, fa = (f : Int) := ⟨fa.toNat, by omega⟩
  have PI : Hid (ProofIs c ss s i f S A) := proof_is hss7 HSS.out (by omega) (by omega) HAA.out
  have hi : i < S.length := by omega
  have hi' : (i : Int) < (S.length : Int) := by omega
  have hf7 : f < 7 := by omega
  have hf7' : (f : Int) < 7 := by omega
  obtain ⟨gs, os9, hsa⟩ := reads_some RS.out (by omega)
  subst hsa
  have cS := reads_cell RS.out hi
  have eS : S.getD i 0 = S[i]'hi := by simp [List.getD, hi]
  have hsx := PI.out.sm
  have hpb := PI.out.pos
  rw [eS] at hsx hpb
  obtain ⟨x, hx⟩ : ∃ x, S[i]'hi = x := ⟨_, rfl⟩
  rw [hx] at cS hsx hpb
  have hbt := bit_tmod f hsx
  have hnn := hsx.1
  have hu64 : IntKind.u64.wrap (f : Int) = (f : Int) := by
    have hc : f = 0 ∨ f = 1 ∨ f = 2 ∨ f = 3 ∨ f = 4 ∨ f = 5 ∨ f = 6 := by omega
    rcases hc with rfl | rfl | rfl | rfl | rfl | rfl | rfl <;> rfl
  clear eS hx HNO
  by_cases hpos : 0 < A.length
  case neg =>
    have hA0 : (A.length : Int) = 0 := by omega
    have hA0b : ((A.length : Int) == 0) = true := by simpa using hA0
    have hA0p : ¬ (0 : Int) < (A.length : Int) := by omega
    rw [decide_eq_false hpos] at hpb
    rw [hpb] at hbt
    simp only [Bool.false_eq_true, if_false] at hbt
    go_wp2
    go_ret
    exact ⟨rfl, LW.out⟩
  have hA0 : ¬ (A.length : Int) = 0 := by omega
  have hA0b : ((A.length : Int) == 0) = false := beq_eq_false_iff_ne.2 hA0
  have hA0p : (0 : Int) < (A.length : Int) := by omega
  rw [decide_eq_true hpos] at hpb
  rw [hpb] at hbt
  simp only [if_true] at hbt
  obtain ⟨hwA, hlA, hsA, hbA⟩ := PI.out.way hpos
  obtain ⟨y, hy⟩ : ∃ y, alongAns ss c A s = y := ⟨_, rfl⟩
  have HY : Hid (alongAns ss c A s = y) := hy
  rw [hy] at hsA hbA
  have hbt2 := bit_tmod f hsA
  rw [hbA] at hbt2
  simp only [if_true] at hbt2
  have hny := hsA.1
  clear hy
  obtain ⟨cP, -⟩ := one_cell P.out
  have hcall := implAlong ss c s A (.slice pa ss.length pc) (.slice wa A.length wc) w6 hsm hAm RP.out RW.out HCW.out
  rw [HY.out] at hcall
  go_wp2_with fail
  go_at_call 18
  refine hcall.mono ?_
  rintro r w7 ⟨rfl, bc⟩
  clear hcall cP
  have LWx : Hid (Below w.heap.size w w7) := low_step LW.out bc
  have RPx : Hid (Reads3 w7 (.slice pa ss.length pc) ss) := reads3_below RP.out bc
  have Px : Hid (w7.heap[bP]? = some (.cells #[.slice pa ss.length pc] 30 (0, 0))) := box_step P.out bc
  have RWx : Hid (Reads w7 (.slice wa A.length wc) (ints A)) := reads_below RW.out bc
  have RSx : Hid (Reads w7 (.slice (some ⟨gs, os9, none⟩) S.length sc) (ints S)) := reads_below RS.out bc
  clear LW RP P RW RS
  have LW : Hid (Below w.heap.size w w7) := LWx.out
  have RP : Hid (Reads3 w7 (.slice pa ss.length pc) ss) := RPx.out
  have P : Hid (w7.heap[bP]? = some (.cells #[.slice pa ss.length pc] 30 (0, 0))) := Px.out
  have RW : Hid (Reads w7 (.slice wa A.length wc) (ints A)) := RWx.out
  have RS : Hid (Reads w7 (.slice (some ⟨gs, os9, none⟩) S.length sc) (ints S)) := RSx.out
  clear LWx RPx Px RWx RSx
  clear cS hbt bc
  obtain ⟨cP, -⟩ := one_cell P.out
  obtain ⟨ga, oa, hwa⟩ := reads_some RW.out hpos
  subst hwa
  have hyl : A.length - 1 < A.length := by omega
  have hlast : A[A.length - 1]'hyl = (i : Int) := by
    rw [← hlA]
    unfold lastI
    simp [List.getD, hyl]
  have HLA : Hid (A[A.length - 1]'hyl = (i : Int)) := hlast
  have hi1 : ((A.length : Int) - 1).toNat = A.length - 1 := by omega
  have hi2 : (0 : Int) ≤ (A.length : Int) - 1 := by omega
  have hi3 : (A.length : Int) - 1 < (A.length : Int) := by omega
  have hiw : IntKind.i64.wrap ((A.length : Int) - 1) = (A.length : Int) - 1 := IntWalk.i64_in _ (by unfold maxLen at hAm; omega)
  have hi4 : ¬ (A.length : Int) < 1 := by omega
  have hi5 : (1 : Int) ≤ (A.length : Int) := by omega
  clear hlast hlA
  have hcall := implWayOk ss A (.slice pa ss.length pc) (.slice (some ⟨ga, oa, none⟩) A.length wc) w7 hsm hAm RP.out RW.out HCW.out
  rw [hwA] at hcall
  go_wp2_with fail
  go_at_call 19
  refine hcall.mono ?_
  rintro r w8 ⟨rfl, bc⟩
  clear hcall cP
  have LWx : Hid (Below w.heap.size w w8) := low_step LW.out bc
  have RPx : Hid (Reads3 w8 (.slice pa ss.length pc) ss) := reads3_below RP.out bc
  have Px : Hid (w8.heap[bP]? = some (.cells #[.slice pa ss.length pc] 30 (0, 0))) := box_step P.out bc
  have RWx : Hid (Reads w8 (.slice (some ⟨ga, oa, none⟩) A.length wc) (ints A)) := reads_below RW.out bc
  have RSx : Hid (Reads w8 (.slice (some ⟨gs, os9, none⟩) S.length sc) (ints S)) := reads_below RS.out bc
  clear LW RP P RW RS
  have LW : Hid (Below w.heap.size w w8) := LWx.out
  have RP : Hid (Reads3 w8 (.slice pa ss.length pc) ss) := RPx.out
  have P : Hid (w8.heap[bP]? = some (.cells #[.slice pa ss.length pc] 30 (0, 0))) := Px.out
  have RW : Hid (Reads w8 (.slice (some ⟨ga, oa, none⟩) A.length wc) (ints A)) := RWx.out
  have RS : Hid (Reads w8 (.slice (some ⟨gs, os9, none⟩) S.length sc) (ints S)) := RSx.out
  clear LWx RPx Px RWx RSx
  clear bc hwA
  have cA := reads_cell RW.out hyl
  rw [HLA.out] at cA
  obtain ⟨cP, -⟩ := one_cell P.out
  have hcall := specWays ss (i : Int) 8 (.slice pa ss.length pc) w8 hsm RP.out
  have hWl := waysAns_length ss (i : Int) 8
  have HWE : Hid (∀ ys ∈ waysAns ss (i : Int) 8, ys.length ≤ 10 ∧ (ys.length < A.length → Small (alongAns ss c ys s) ∧ bit (alongAns ss c ys s) f = false)) := fun ys hy => ⟨waysAns_each hy, PI.out.less hpos ys hy⟩
  obtain ⟨WS, hWS⟩ : ∃ x, waysAns ss (i : Int) 8 = x := ⟨_, rfl⟩
  rw [hWS] at hcall hWl HWE
  clear hWS
  go_wp2_with fail
  go_at_call 20
  refine hcall.mono ?_
  rintro r z2 ⟨wv, wus, rfl, ow9, bz⟩
  obtain ⟨wa9, wn, wc9, rfl⟩ := own_slice ow9.row
  obtain rfl := ownSS_len ow9
  have OW : Hid (OwnSS z2 w8.heap.size (.slice wa9 WS.length wc9) wus WS) := ow9
  have LW2 : Hid (Below w.heap.size w z2) := low_step LW.out bz
  have RP2 : Hid (Reads3 z2 (.slice pa ss.length pc) ss) := reads3_below RP.out bz
  have P2 : Hid (z2.heap[bP]? = some (.cells #[.slice pa ss.length pc] 30 (0, 0))) := box_step P.out bz
  clear ow9 bz hcall cP cA LW RP P RW RS hbt2 hi1 hi2 hi3 hiw hi4 hi5 hyl HLA
  go_wp2_with fail
  go_loopw [12] (fun q wr => ∃ k : Nat, k ≤ WS.length ∧ q = .int .i64 k ∧ Below z2.heap.size z2 wr) (fun q _ => WS.length - (intOf q).toNat)
  case atStart => exact ⟨0, Nat.zero_le _, rfl, Below.refl _ _⟩
  case round =>
    obtain ⟨k, hkl, rfl, hbr⟩ := hrel
    have HBK : Hid (Below z2.heap.size z2 wr) := hbr
    by_cases hk : k < WS.length
    · have hk' : (k : Int) < (WS.length : Int) := by omega
      have hk0 : (0 : Int) ≤ (k : Int) := by omega
      obtain ⟨gw, hgw⟩ := ownSS_some OW.out (by omega)
      subst hgw
      obtain ⟨uk, _, cu, ou⟩ := (OW.out.below hbr).at (j := k) hk
      obtain ⟨hy10, hless⟩ := HWE.out (WS[k]'hk) (List.getElem_mem hk)
      have hcap := own_capK ou
      have rou := reads_own ou
      obtain ⟨ka, kc, rfl⟩ := reads_form rou
      obtain ⟨ys, hys⟩ : ∃ ys, WS[k]'hk = ys := ⟨_, rfl⟩
      rw [hys] at hy10 hless hcap rou cu
      have hal := fun X (hX : Below wr.heap.size wr X) => implAlong ss c s ys (.slice pa ss.length pc) (.slice ka ys.length kc) X hsm (by unfold maxLen; omega) (reads3_below RP2.out (low_step HBK.out hX)) (reads_below rou hX) hcap
      obtain ⟨cPr, -⟩ := one_cell (box_step P2.out HBK.out)
      have HS9 : Hid (∀ X, Below wr.heap.size wr X → X.cell? ⟨bP, 0, none⟩ = some (.slice pa ss.length pc) ∧ X.cell? ⟨gw, k, none⟩ = some (.slice ka ys.length kc)) := fun X hX => ⟨cell_step cPr hX, cell_step cu hX⟩
      have hS9 := HS9.out wr (Below.refl _ _)
      clear hbr ou hys
      by_cases hlt : ys.length < A.length
      · have hlt' : (ys.length : Int) < (A.length : Int) := by omega
        obtain ⟨hs2, hb2⟩ := hless hlt
        obtain ⟨x2, hx2⟩ : ∃ x, alongAns ss c ys s = x := ⟨_, rfl⟩
        rw [hx2] at hal hs2 hb2
        have hbt3 := bit_tmod f hs2
        rw [hb2] at hbt3
        simp only [Bool.false_eq_true, if_false] at hbt3
        have hn3 := hs2.1
        clear hx2 hless hb2
        go_wp2_with fail
        refine wp_region_held_drew (S := fun X => X.cell? ⟨bP, 0, none⟩ = some (.slice pa ss.length pc) ∧ X.cell? ⟨gw, k, none⟩ = some (.slice ka ys.length kc)) (by kernel_rfl) hS9 (fun hHeld => ?_)
        refine wpAnyH_take (i := 0) (oi := ?oic0) (v := .slice (some ⟨gw, 0, none⟩) WS.length wc9) ?hic0 (by kernel_rfl) (by kernel_rfl) (by kernel_rfl) ?hqc0 ?hyc0 hHeld ?hrc0
        case hic0 =>
          simp only [List.getElem?_toArray, List.getElem?_cons_succ, List.getElem?_cons_zero]
          rfl
        case hqc0 => exact fun _ _ _ h => h
        case hyc0 => exact Or.inl ⟨by kernel_rfl, fun w hSw => by go_simp⟩
        try simp only [Act.put, List.setIfInBounds_toArray, List.set_cons_zero, List.set_cons_succ]
        refine wpAnyH_take (i := 1) (oi := ?oic1) (v := .int .i64 (k : Int)) ?hic1 (by kernel_rfl) (by kernel_rfl) (by kernel_rfl) ?hqc1 ?hyc1 hHeld ?hrc1
        case hic1 =>
          simp only [List.getElem?_toArray, List.getElem?_cons_succ, List.getElem?_cons_zero]
          rfl
        case hqc1 => exact fun _ _ _ h => h
        case hyc1 => exact Or.inl ⟨by kernel_rfl, fun w hSw => by go_simp⟩
        try simp only [Act.put, List.setIfInBounds_toArray, List.set_cons_zero, List.set_cons_succ]
        refine wpAnyH_take (i := 2) (oi := ?oic2) (v := .pointer (some ⟨gw, k, none⟩)) ?hic2 (by kernel_rfl) (by kernel_rfl) (by kernel_rfl) ?hqc2 ?hyc2 hHeld ?hrc2
        case hic2 =>
          simp only [List.getElem?_toArray, List.getElem?_cons_succ, List.getElem?_cons_zero]
          rfl
        case hqc2 => exact fun _ _ _ h => h
        case hyc2 => exact Or.inl ⟨by kernel_rfl, fun w hSw => by go_simp⟩
        try simp only [Act.put, List.setIfInBounds_toArray, List.set_cons_zero, List.set_cons_succ]
        refine wpAnyH_take (i := 3) (oi := ?oic3) (v := .slice ka ys.length kc) ?hic3 (by kernel_rfl) (by kernel_rfl) (by kernel_rfl) ?hqc3 ?hyc3 hHeld ?hrc3
        case hic3 =>
          simp only [List.getElem?_toArray, List.getElem?_cons_succ, List.getElem?_cons_zero]
          rfl
        case hqc3 => exact fun _ _ _ h => h
        case hyc3 => exact Or.inl ⟨by kernel_rfl, fun w hSw => by obtain ⟨s0, s1⟩ := hSw; go_simp⟩
        try simp only [Act.put, List.setIfInBounds_toArray, List.set_cons_zero, List.set_cons_succ]
        refine wpAnyH_take (i := 4) (oi := ?oic4) (v := .int .i64 (ys.length : Int)) ?hic4 (by kernel_rfl) (by kernel_rfl) (by kernel_rfl) ?hqc4 ?hyc4 hHeld ?hrc4
        case hic4 =>
          simp only [List.getElem?_toArray, List.getElem?_cons_succ, List.getElem?_cons_zero]
          rfl
        case hqc4 => exact fun _ _ _ h => h
        case hyc4 => exact Or.inl ⟨by kernel_rfl, fun w hSw => by go_simp⟩
        try simp only [Act.put, List.setIfInBounds_toArray, List.set_cons_zero, List.set_cons_succ]
        refine wpAnyH_take (i := 5) (oi := ?oic5) (v := .slice (some ⟨ga, oa, none⟩) A.length wc) ?hic5 (by kernel_rfl) (by kernel_rfl) (by kernel_rfl) ?hqc5 ?hyc5 hHeld ?hrc5
        case hic5 =>
          simp only [List.getElem?_toArray, List.getElem?_cons_succ, List.getElem?_cons_zero]
          rfl
        case hqc5 => exact fun _ _ _ h => h
        case hyc5 => exact Or.inl ⟨by kernel_rfl, fun w hSw => by go_simp⟩
        try simp only [Act.put, List.setIfInBounds_toArray, List.set_cons_zero, List.set_cons_succ]
        refine wpAnyH_take (i := 6) (oi := ?oic6) (v := .int .i64 (A.length : Int)) ?hic6 (by kernel_rfl) (by kernel_rfl) (by kernel_rfl) ?hqc6 ?hyc6 hHeld ?hrc6
        case hic6 =>
          simp only [List.getElem?_toArray, List.getElem?_cons_succ, List.getElem?_cons_zero]
          rfl
        case hqc6 => exact fun _ _ _ h => h
        case hyc6 => exact Or.inl ⟨by kernel_rfl, fun w hSw => by go_simp⟩
        try simp only [Act.put, List.setIfInBounds_toArray, List.set_cons_zero, List.set_cons_succ]
        refine wpAnyH_take (i := 7) (oi := ?oic7) (v := .bool true) ?hic7 (by kernel_rfl) (by kernel_rfl) (by kernel_rfl) ?hqc7 ?hyc7 hHeld ?hrc7
        case hic7 =>
          simp only [List.getElem?_toArray, List.getElem?_cons_succ, List.getElem?_cons_zero]
          rfl
        case hqc7 => exact fun _ _ _ h => h
        case hyc7 => exact Or.inl ⟨by kernel_rfl, fun w hSw => by go_simp⟩
        try simp only [Act.put, List.setIfInBounds_toArray, List.set_cons_zero, List.set_cons_succ]
        refine wpAnyH_take (i := 8) (oi := ?oic8) (v := .bool true) ?hic8 (by kernel_rfl) (by kernel_rfl) (by kernel_rfl) ?hqc8 ?hyc8 hHeld ?hrc8
        case hic8 =>
          simp only [List.getElem?_toArray, List.getElem?_cons_succ, List.getElem?_cons_zero]
          rfl
        case hqc8 => exact fun _ _ _ h => h
        case hyc8 => exact Or.inl ⟨by kernel_rfl, fun w hSw => by go_simp⟩
        try simp only [Act.put, List.setIfInBounds_toArray, List.set_cons_zero, List.set_cons_succ]
        refine wpAnyH_take (i := 9) (oi := ?oic9) (v := .agg #[.slice pa ss.length pc]) ?hic9 (by kernel_rfl) (by kernel_rfl) (by kernel_rfl) ?hqc9 ?hyc9 hHeld ?hrc9
        case hic9 =>
          simp only [List.getElem?_toArray, List.getElem?_cons_succ, List.getElem?_cons_zero]
          rfl
        case hqc9 => exact fun _ _ _ h => h
        case hyc9 => exact Or.inl ⟨by kernel_rfl, fun w hSw => by obtain ⟨s0, s1⟩ := hSw; go_simp⟩
        try simp only [Act.put, List.setIfInBounds_toArray, List.set_cons_zero, List.set_cons_succ]
        refine wpAnyH_take (i := 10) (oi := ?oic10) (v := .int .i64 c) ?hic10 (by kernel_rfl) (by kernel_rfl) (by kernel_rfl) ?hqc10 ?hyc10 hHeld ?hrc10
        case hic10 =>
          simp only [List.getElem?_toArray, List.getElem?_cons_succ, List.getElem?_cons_zero]
          rfl
        case hqc10 => exact fun _ _ _ h => h
        case hyc10 => exact Or.inl ⟨by kernel_rfl, fun w hSw => by go_simp⟩
        try simp only [Act.put, List.setIfInBounds_toArray, List.set_cons_zero, List.set_cons_succ]
        refine wpAnyH_take (i := 11) (oi := ?oic11) (v := .slice (some ⟨gw, 0, none⟩) WS.length wc9) ?hic11 (by kernel_rfl) (by kernel_rfl) (by kernel_rfl) ?hqc11 ?hyc11 hHeld ?hrc11
        case hic11 =>
          simp only [List.getElem?_toArray, List.getElem?_cons_succ, List.getElem?_cons_zero]
          rfl
        case hqc11 => exact fun _ _ _ h => h
        case hyc11 => exact Or.inl ⟨by kernel_rfl, fun w hSw => by go_simp⟩
        try simp only [Act.put, List.setIfInBounds_toArray, List.set_cons_zero, List.set_cons_succ]
        refine wpAnyH_take (i := 12) (oi := ?oic12) (v := .int .i64 (k : Int)) ?hic12 (by kernel_rfl) (by kernel_rfl) (by kernel_rfl) ?hqc12 ?hyc12 hHeld ?hrc12
        case hic12 =>
          simp only [List.getElem?_toArray, List.getElem?_cons_succ, List.getElem?_cons_zero]
          rfl
        case hqc12 => exact fun _ _ _ h => h
        case hyc12 => exact Or.inl ⟨by kernel_rfl, fun w hSw => by go_simp⟩
        try simp only [Act.put, List.setIfInBounds_toArray, List.set_cons_zero, List.set_cons_succ]
        refine wpAnyH_take (i := 13) (oi := ?oic13) (v := .pointer (some ⟨gw, k, none⟩)) ?hic13 (by kernel_rfl) (by kernel_rfl) (by kernel_rfl) ?hqc13 ?hyc13 hHeld ?hrc13
        case hic13 =>
          simp only [List.getElem?_toArray, List.getElem?_cons_succ, List.getElem?_cons_zero]
          rfl
        case hqc13 => exact fun _ _ _ h => h
        case hyc13 => exact Or.inl ⟨by kernel_rfl, fun w hSw => by go_simp⟩
        try simp only [Act.put, List.setIfInBounds_toArray, List.set_cons_zero, List.set_cons_succ]
        refine wpAnyH_take (i := 14) (oi := ?oic14) (v := .slice ka ys.length kc) ?hic14 (by kernel_rfl) (by kernel_rfl) (by kernel_rfl) ?hqc14 ?hyc14 hHeld ?hrc14
        case hic14 =>
          simp only [List.getElem?_toArray, List.getElem?_cons_succ, List.getElem?_cons_zero]
          rfl
        case hqc14 => exact fun _ _ _ h => h
        case hyc14 => exact Or.inl ⟨by kernel_rfl, fun w hSw => by obtain ⟨s0, s1⟩ := hSw; go_simp⟩
        try simp only [Act.put, List.setIfInBounds_toArray, List.set_cons_zero, List.set_cons_succ]
        refine wpAnyH_take (i := 15) (oi := ?oic15) (v := .int .i64 s) ?hic15 (by kernel_rfl) (by kernel_rfl) (by kernel_rfl) ?hqc15 ?hyc15 hHeld ?hrc15
        case hic15 =>
          simp only [List.getElem?_toArray, List.getElem?_cons_succ, List.getElem?_cons_zero]
          rfl
        case hqc15 => exact fun _ _ _ h => h
        case hyc15 => exact Or.inl ⟨by kernel_rfl, fun w hSw => by go_simp⟩
        try simp only [Act.put, List.setIfInBounds_toArray, List.set_cons_zero, List.set_cons_succ]
        refine wpAnyH_take (i := 17) (oi := ?oic17) (v := .int .i64 (f : Int)) ?hic17 (by kernel_rfl) (by kernel_rfl) (by kernel_rfl) ?hqc17 ?hyc17 hHeld ?hrc17
        case hic17 =>
          simp only [List.getElem?_toArray, List.getElem?_cons_succ, List.getElem?_cons_zero]
          rfl
        case hqc17 => exact fun _ _ _ h => h
        case hyc17 => exact Or.inl ⟨by kernel_rfl, fun w hSw => by go_simp⟩
        try simp only [Act.put, List.setIfInBounds_toArray, List.set_cons_zero, List.set_cons_succ]
        refine wpAnyH_take (i := 18) (oi := ?oic18) (v := .int .u64 (f : Int)) ?hic18 (by kernel_rfl) (by kernel_rfl) (by kernel_rfl) ?hqc18 ?hyc18 hHeld ?hrc18
        case hic18 =>
          simp only [List.getElem?_toArray, List.getElem?_cons_succ, List.getElem?_cons_zero]
          rfl
        case hqc18 => exact fun _ _ _ h => h
        case hyc18 => exact Or.inl ⟨by kernel_rfl, fun w hSw => by go_simp⟩
        try simp only [Act.put, List.setIfInBounds_toArray, List.set_cons_zero, List.set_cons_succ]
        refine wpAnyH_ready (rs := [16]) (by kernel_rfl) (by simp) ?_
        refine (AllReadyH.cons (o := ?ooc16) ?hoc16 (fun K hK => ?hkc16) AllReadyH.nil)
        case hoc16 =>
          simp only [List.getElem?_toArray, List.getElem?_cons_succ, List.getElem?_cons_zero]
          rfl
        case hkc16 =>
          go_simp
          go_at_call 18
          refine (hal wr.drew (Below.drew (Below.refl _ _))).mono ?_
          rintro e x1 ⟨rfl, bq⟩
          have X1 : Hid (Below wr.heap.size wr x1) := Below.trans (Below.drew (Below.refl _ _)) bq
          clear bq 
          try go_wp2_with fail
          refine hK.out _ _ (HS9.out _ X1.out) (fun hHeld => ?_)
          clear hK K
          try simp only [Act.put, List.setIfInBounds_toArray, List.set_cons_zero, List.set_cons_succ]
          refine wpAnyH_take (i := 19) (oi := ?oic19) (v := .int .i64 (x2 / 2 ^ f)) ?hic19 (by kernel_rfl) (by kernel_rfl) (by kernel_rfl) ?hqc19 ?hyc19 hHeld ?hrc19
          case hic19 =>
            simp only [List.getElem?_toArray, List.getElem?_cons_succ, List.getElem?_cons_zero]
            rfl
          case hqc19 => exact fun _ _ _ h => h
          case hyc19 => exact Or.inl ⟨by kernel_rfl, fun w hSw => by go_simp⟩
          try simp only [Act.put, List.setIfInBounds_toArray, List.set_cons_zero, List.set_cons_succ]
          refine wpAnyH_take (i := 20) (oi := ?oic20) (v := .int .i64 0) ?hic20 (by kernel_rfl) (by kernel_rfl) (by kernel_rfl) ?hqc20 ?hyc20 hHeld ?hrc20
          case hic20 =>
            simp only [List.getElem?_toArray, List.getElem?_cons_succ, List.getElem?_cons_zero]
            rfl
          case hqc20 => exact fun _ _ _ h => h
          case hyc20 => exact Or.inl ⟨by kernel_rfl, fun w hSw => by go_simp⟩
          try simp only [Act.put, List.setIfInBounds_toArray, List.set_cons_zero, List.set_cons_succ]
          refine wpAnyH_take (i := 21) (oi := ?oic21) (v := .bool false) ?hic21 (by kernel_rfl) (by kernel_rfl) (by kernel_rfl) ?hqc21 ?hyc21 hHeld ?hrc21
          case hic21 =>
            simp only [List.getElem?_toArray, List.getElem?_cons_succ, List.getElem?_cons_zero]
            rfl
          case hqc21 => exact fun _ _ _ h => h
          case hyc21 => exact Or.inl ⟨by kernel_rfl, fun w hSw => by go_simp⟩
          try simp only [Act.put, List.setIfInBounds_toArray, List.set_cons_zero, List.set_cons_succ]
          refine wpAnyH_take (i := 22) (oi := ?oic22) (v := .bool false) ?hic22 (by kernel_rfl) (by kernel_rfl) (by kernel_rfl) ?hqc22 ?hyc22 hHeld ?hrc22
          case hic22 =>
            simp only [List.getElem?_toArray, List.getElem?_cons_succ, List.getElem?_cons_zero]
            rfl
          case hqc22 => exact fun _ _ _ h => h
          case hyc22 => exact Or.inl ⟨by kernel_rfl, fun w hSw => by go_simp⟩
          try simp only [Act.put, List.setIfInBounds_toArray, List.set_cons_zero, List.set_cons_succ]
          refine wpAnyH_done (by kernel_rfl) ?_ _
          go_wp2
          go_roundw
          case rel => exact ⟨k + 1, by omega, by go_num, low_step HBK.out X1.out⟩
          case measure => simp [intOf]; omega
      · have hlt' : ¬ (ys.length : Int) < (A.length : Int) := by omega
        clear hless hal
        go_wp2_with fail
        refine wp_region_held_drew (S := fun X => X.cell? ⟨bP, 0, none⟩ = some (.slice pa ss.length pc) ∧ X.cell? ⟨gw, k, none⟩ = some (.slice ka ys.length kc)) (by kernel_rfl) hS9 (fun hHeld => ?_)
        refine wpAnyH_take (i := 0) (oi := ?oid0) (v := .slice (some ⟨gw, 0, none⟩) WS.length wc9) ?hid0 (by kernel_rfl) (by kernel_rfl) (by kernel_rfl) ?hqd0 ?hyd0 hHeld ?hrd0
        case hid0 =>
          simp only [List.getElem?_toArray, List.getElem?_cons_succ, List.getElem?_cons_zero]
          rfl
        case hqd0 => exact fun _ _ _ h => h
        case hyd0 => exact Or.inl ⟨by kernel_rfl, fun w hSw => by go_simp⟩
        try simp only [Act.put, List.setIfInBounds_toArray, List.set_cons_zero, List.set_cons_succ]
        refine wpAnyH_take (i := 1) (oi := ?oid1) (v := .int .i64 (k : Int)) ?hid1 (by kernel_rfl) (by kernel_rfl) (by kernel_rfl) ?hqd1 ?hyd1 hHeld ?hrd1
        case hid1 =>
          simp only [List.getElem?_toArray, List.getElem?_cons_succ, List.getElem?_cons_zero]
          rfl
        case hqd1 => exact fun _ _ _ h => h
        case hyd1 => exact Or.inl ⟨by kernel_rfl, fun w hSw => by go_simp⟩
        try simp only [Act.put, List.setIfInBounds_toArray, List.set_cons_zero, List.set_cons_succ]
        refine wpAnyH_take (i := 2) (oi := ?oid2) (v := .pointer (some ⟨gw, k, none⟩)) ?hid2 (by kernel_rfl) (by kernel_rfl) (by kernel_rfl) ?hqd2 ?hyd2 hHeld ?hrd2
        case hid2 =>
          simp only [List.getElem?_toArray, List.getElem?_cons_succ, List.getElem?_cons_zero]
          rfl
        case hqd2 => exact fun _ _ _ h => h
        case hyd2 => exact Or.inl ⟨by kernel_rfl, fun w hSw => by go_simp⟩
        try simp only [Act.put, List.setIfInBounds_toArray, List.set_cons_zero, List.set_cons_succ]
        refine wpAnyH_take (i := 3) (oi := ?oid3) (v := .slice ka ys.length kc) ?hid3 (by kernel_rfl) (by kernel_rfl) (by kernel_rfl) ?hqd3 ?hyd3 hHeld ?hrd3
        case hid3 =>
          simp only [List.getElem?_toArray, List.getElem?_cons_succ, List.getElem?_cons_zero]
          rfl
        case hqd3 => exact fun _ _ _ h => h
        case hyd3 => exact Or.inl ⟨by kernel_rfl, fun w hSw => by obtain ⟨s0, s1⟩ := hSw; go_simp⟩
        try simp only [Act.put, List.setIfInBounds_toArray, List.set_cons_zero, List.set_cons_succ]
        refine wpAnyH_take (i := 4) (oi := ?oid4) (v := .int .i64 (ys.length : Int)) ?hid4 (by kernel_rfl) (by kernel_rfl) (by kernel_rfl) ?hqd4 ?hyd4 hHeld ?hrd4
        case hid4 =>
          simp only [List.getElem?_toArray, List.getElem?_cons_succ, List.getElem?_cons_zero]
          rfl
        case hqd4 => exact fun _ _ _ h => h
        case hyd4 => exact Or.inl ⟨by kernel_rfl, fun w hSw => by go_simp⟩
        try simp only [Act.put, List.setIfInBounds_toArray, List.set_cons_zero, List.set_cons_succ]
        refine wpAnyH_take (i := 5) (oi := ?oid5) (v := .slice (some ⟨ga, oa, none⟩) A.length wc) ?hid5 (by kernel_rfl) (by kernel_rfl) (by kernel_rfl) ?hqd5 ?hyd5 hHeld ?hrd5
        case hid5 =>
          simp only [List.getElem?_toArray, List.getElem?_cons_succ, List.getElem?_cons_zero]
          rfl
        case hqd5 => exact fun _ _ _ h => h
        case hyd5 => exact Or.inl ⟨by kernel_rfl, fun w hSw => by go_simp⟩
        try simp only [Act.put, List.setIfInBounds_toArray, List.set_cons_zero, List.set_cons_succ]
        refine wpAnyH_take (i := 6) (oi := ?oid6) (v := .int .i64 (A.length : Int)) ?hid6 (by kernel_rfl) (by kernel_rfl) (by kernel_rfl) ?hqd6 ?hyd6 hHeld ?hrd6
        case hid6 =>
          simp only [List.getElem?_toArray, List.getElem?_cons_succ, List.getElem?_cons_zero]
          rfl
        case hqd6 => exact fun _ _ _ h => h
        case hyd6 => exact Or.inl ⟨by kernel_rfl, fun w hSw => by go_simp⟩
        try simp only [Act.put, List.setIfInBounds_toArray, List.set_cons_zero, List.set_cons_succ]
        refine wpAnyH_take (i := 7) (oi := ?oid7) (v := .bool false) ?hid7 (by kernel_rfl) (by kernel_rfl) (by kernel_rfl) ?hqd7 ?hyd7 hHeld ?hrd7
        case hid7 =>
          simp only [List.getElem?_toArray, List.getElem?_cons_succ, List.getElem?_cons_zero]
          rfl
        case hqd7 => exact fun _ _ _ h => h
        case hyd7 => exact Or.inl ⟨by kernel_rfl, fun w hSw => by go_simp⟩
        try simp only [Act.put, List.setIfInBounds_toArray, List.set_cons_zero, List.set_cons_succ]
        refine wpAnyH_take (i := 8) (oi := ?oid8) (v := .bool false) ?hid8 (by kernel_rfl) (by kernel_rfl) (by kernel_rfl) ?hqd8 ?hyd8 hHeld ?hrd8
        case hid8 =>
          simp only [List.getElem?_toArray, List.getElem?_cons_succ, List.getElem?_cons_zero]
          rfl
        case hqd8 => exact fun _ _ _ h => h
        case hyd8 => exact Or.inl ⟨by kernel_rfl, fun w hSw => by go_simp⟩
        try simp only [Act.put, List.setIfInBounds_toArray, List.set_cons_zero, List.set_cons_succ]
        refine wpAnyH_take (i := 9) (oi := ?oid9) (v := undef) ?hid9 (by kernel_rfl) (by kernel_rfl) (by kernel_rfl) ?hqd9 ?hyd9 hHeld ?hrd9
        case hid9 =>
          simp only [List.getElem?_toArray, List.getElem?_cons_succ, List.getElem?_cons_zero]
          rfl
        case hqd9 => exact fun _ _ _ h => h
        case hyd9 => exact Or.inr ⟨by kernel_rfl, rfl⟩
        try simp only [Act.put, List.setIfInBounds_toArray, List.set_cons_zero, List.set_cons_succ]
        refine wpAnyH_take (i := 10) (oi := ?oid10) (v := undef) ?hid10 (by kernel_rfl) (by kernel_rfl) (by kernel_rfl) ?hqd10 ?hyd10 hHeld ?hrd10
        case hid10 =>
          simp only [List.getElem?_toArray, List.getElem?_cons_succ, List.getElem?_cons_zero]
          rfl
        case hqd10 => exact fun _ _ _ h => h
        case hyd10 => exact Or.inr ⟨by kernel_rfl, rfl⟩
        try simp only [Act.put, List.setIfInBounds_toArray, List.set_cons_zero, List.set_cons_succ]
        refine wpAnyH_take (i := 11) (oi := ?oid11) (v := undef) ?hid11 (by kernel_rfl) (by kernel_rfl) (by kernel_rfl) ?hqd11 ?hyd11 hHeld ?hrd11
        case hid11 =>
          simp only [List.getElem?_toArray, List.getElem?_cons_succ, List.getElem?_cons_zero]
          rfl
        case hqd11 => exact fun _ _ _ h => h
        case hyd11 => exact Or.inr ⟨by kernel_rfl, rfl⟩
        try simp only [Act.put, List.setIfInBounds_toArray, List.set_cons_zero, List.set_cons_succ]
        refine wpAnyH_take (i := 12) (oi := ?oid12) (v := undef) ?hid12 (by kernel_rfl) (by kernel_rfl) (by kernel_rfl) ?hqd12 ?hyd12 hHeld ?hrd12
        case hid12 =>
          simp only [List.getElem?_toArray, List.getElem?_cons_succ, List.getElem?_cons_zero]
          rfl
        case hqd12 => exact fun _ _ _ h => h
        case hyd12 => exact Or.inr ⟨by kernel_rfl, rfl⟩
        try simp only [Act.put, List.setIfInBounds_toArray, List.set_cons_zero, List.set_cons_succ]
        refine wpAnyH_take (i := 13) (oi := ?oid13) (v := undef) ?hid13 (by kernel_rfl) (by kernel_rfl) (by kernel_rfl) ?hqd13 ?hyd13 hHeld ?hrd13
        case hid13 =>
          simp only [List.getElem?_toArray, List.getElem?_cons_succ, List.getElem?_cons_zero]
          rfl
        case hqd13 => exact fun _ _ _ h => h
        case hyd13 => exact Or.inr ⟨by kernel_rfl, rfl⟩
        try simp only [Act.put, List.setIfInBounds_toArray, List.set_cons_zero, List.set_cons_succ]
        refine wpAnyH_take (i := 14) (oi := ?oid14) (v := undef) ?hid14 (by kernel_rfl) (by kernel_rfl) (by kernel_rfl) ?hqd14 ?hyd14 hHeld ?hrd14
        case hid14 =>
          simp only [List.getElem?_toArray, List.getElem?_cons_succ, List.getElem?_cons_zero]
          rfl
        case hqd14 => exact fun _ _ _ h => h
        case hyd14 => exact Or.inr ⟨by kernel_rfl, rfl⟩
        try simp only [Act.put, List.setIfInBounds_toArray, List.set_cons_zero, List.set_cons_succ]
        refine wpAnyH_take (i := 15) (oi := ?oid15) (v := undef) ?hid15 (by kernel_rfl) (by kernel_rfl) (by kernel_rfl) ?hqd15 ?hyd15 hHeld ?hrd15
        case hid15 =>
          simp only [List.getElem?_toArray, List.getElem?_cons_succ, List.getElem?_cons_zero]
          rfl
        case hqd15 => exact fun _ _ _ h => h
        case hyd15 => exact Or.inr ⟨by kernel_rfl, rfl⟩
        try simp only [Act.put, List.setIfInBounds_toArray, List.set_cons_zero, List.set_cons_succ]
        refine wpAnyH_take (i := 16) (oi := ?oid16) (v := undef) ?hid16 (by kernel_rfl) (by kernel_rfl) (by kernel_rfl) ?hqd16 ?hyd16 hHeld ?hrd16
        case hid16 =>
          simp only [List.getElem?_toArray, List.getElem?_cons_succ, List.getElem?_cons_zero]
          rfl
        case hqd16 => exact fun _ _ _ h => h
        case hyd16 => exact Or.inr ⟨by kernel_rfl, rfl⟩
        try simp only [Act.put, List.setIfInBounds_toArray, List.set_cons_zero, List.set_cons_succ]
        refine wpAnyH_take (i := 17) (oi := ?oid17) (v := undef) ?hid17 (by kernel_rfl) (by kernel_rfl) (by kernel_rfl) ?hqd17 ?hyd17 hHeld ?hrd17
        case hid17 =>
          simp only [List.getElem?_toArray, List.getElem?_cons_succ, List.getElem?_cons_zero]
          rfl
        case hqd17 => exact fun _ _ _ h => h
        case hyd17 => exact Or.inr ⟨by kernel_rfl, rfl⟩
        try simp only [Act.put, List.setIfInBounds_toArray, List.set_cons_zero, List.set_cons_succ]
        refine wpAnyH_take (i := 18) (oi := ?oid18) (v := undef) ?hid18 (by kernel_rfl) (by kernel_rfl) (by kernel_rfl) ?hqd18 ?hyd18 hHeld ?hrd18
        case hid18 =>
          simp only [List.getElem?_toArray, List.getElem?_cons_succ, List.getElem?_cons_zero]
          rfl
        case hqd18 => exact fun _ _ _ h => h
        case hyd18 => exact Or.inr ⟨by kernel_rfl, rfl⟩
        try simp only [Act.put, List.setIfInBounds_toArray, List.set_cons_zero, List.set_cons_succ]
        refine wpAnyH_take (i := 19) (oi := ?oid19) (v := undef) ?hid19 (by kernel_rfl) (by kernel_rfl) (by kernel_rfl) ?hqd19 ?hyd19 hHeld ?hrd19
        case hid19 =>
          simp only [List.getElem?_toArray, List.getElem?_cons_succ, List.getElem?_cons_zero]
          rfl
        case hqd19 => exact fun _ _ _ h => h
        case hyd19 => exact Or.inr ⟨by kernel_rfl, rfl⟩
        try simp only [Act.put, List.setIfInBounds_toArray, List.set_cons_zero, List.set_cons_succ]
        refine wpAnyH_take (i := 20) (oi := ?oid20) (v := undef) ?hid20 (by kernel_rfl) (by kernel_rfl) (by kernel_rfl) ?hqd20 ?hyd20 hHeld ?hrd20
        case hid20 =>
          simp only [List.getElem?_toArray, List.getElem?_cons_succ, List.getElem?_cons_zero]
          rfl
        case hqd20 => exact fun _ _ _ h => h
        case hyd20 => exact Or.inr ⟨by kernel_rfl, rfl⟩
        try simp only [Act.put, List.setIfInBounds_toArray, List.set_cons_zero, List.set_cons_succ]
        refine wpAnyH_take (i := 21) (oi := ?oid21) (v := undef) ?hid21 (by kernel_rfl) (by kernel_rfl) (by kernel_rfl) ?hqd21 ?hyd21 hHeld ?hrd21
        case hid21 =>
          simp only [List.getElem?_toArray, List.getElem?_cons_succ, List.getElem?_cons_zero]
          rfl
        case hqd21 => exact fun _ _ _ h => h
        case hyd21 => exact Or.inr ⟨by kernel_rfl, rfl⟩
        try simp only [Act.put, List.setIfInBounds_toArray, List.set_cons_zero, List.set_cons_succ]
        refine wpAnyH_take (i := 22) (oi := ?oid22) (v := .bool false) ?hid22 (by kernel_rfl) (by kernel_rfl) (by kernel_rfl) ?hqd22 ?hyd22 hHeld ?hrd22
        case hid22 =>
          simp only [List.getElem?_toArray, List.getElem?_cons_succ, List.getElem?_cons_zero]
          rfl
        case hqd22 => exact fun _ _ _ h => h
        case hyd22 => exact Or.inl ⟨by kernel_rfl, fun w hSw => by go_simp⟩
        try simp only [Act.put, List.setIfInBounds_toArray, List.set_cons_zero, List.set_cons_succ]
        refine wpAnyH_done (by kernel_rfl) ?_ _
        go_wp2
        go_roundw
        case rel => exact ⟨k + 1, by omega, by go_num, HBK.out.drew⟩
        case measure => simp [intOf]; omega
    · obtain rfl : k = WS.length := by omega
      have hnk : ¬ (WS.length : Int) < (WS.length : Int) := by omega
      have HE : Hid (Below w.heap.size w wr) := low_step LW2.out hbr
      clear hbr
      go_wp2
      go_ret
      exact ⟨rfl, HE.out⟩

set_option maxRecDepth 100000 in
theorem liftedFnProofs (os : Os) (started : os.Started) (H : Type) (enc : TypeId × Value → H) :
    ReturnsInHanded {} Try.checked os 4 .any (Rows.fnProofsSpec.pre6 enc Try.prog Try.f4 Rows.fnProofsRow.domain false) (Rows.fnProofsSpec.post enc Try.prog Try.f4 false true false false) := by
  refine returnsInHanded_of_change (C := Try.checked) own started (by kernel_rfl) Try.func4
    (ChangeSpec.witness6 (enc := enc) (C := Try.checked) false ⟨#[], #[.slice none 0 0], []⟩ 8 (by kernel_rfl) (by kernel_rfl) (by kernel_rfl) (by kernel_rfl)) ?_
  intro W base args ds gs before hval0 hW hcnd _
  have hval : ∀ (j : Nat) t v, Try.f4.params[j]? = some t → args[j]? = some v → Value.okWide Try.prog W .any base t v := hval0
  have hW' := hW
  obtain ⟨p, q, hA0, hV, rfl, hfz, hnd⟩ := hW
  have hA : DataW.TrodAll enc Try.prog W 0 (fun _ => true) true Try.f4.params.toList args.toList ds p := hA0
  rw [Try.params4] at hA hval
  obtain ⟨v0, vs0, d0, ds0, p0, q0, hargs, rfl, rfl, h0, r0⟩ := trodAll_cons hA
  obtain ⟨rfl, rfl, rfl⟩ := trodAll_nil r0
  obtain rfl : args = #[v0] := by cases args; simp_all
  obtain ⟨rfl, rfl⟩ := trodVars_none hV
  obtain ⟨bs, hr, hl, hs⟩ := open_code Try.underlying37 Try.underlying5 cellsByte (hval 0 37 v0 rfl rfl) h0
  refine (walkFnProofs bs v0 W hl hr).mono fun e W' ⟨he, hb⟩ => ?_
  subst he
  refine ⟨_, rfl, law_post (tb := 4) laidOut ?_ hW' rfl Try.underlying4 rfl rfl hb⟩
  exact all_readable (P := Try.prog) (by kernel_rfl)

theorem overFnProofs : Rows.fnProofsRow.holds Try.pinned (OpenSpec.ofChange Rows.fnProofsSpec) :=
  OpenClaim.holds_of_wide 4 Try.f4 rfl rfl rfl rfl rfl rfl rfl ⟨rfl, rfl, rfl, rfl, rfl⟩ rfl rfl rfl rfl rfl (by kernel_rfl) Try.func4 (by kernel_rfl)
    (of_decide_eq_true (by kernel_rfl)) (by unfold Func.isWrapper; first | (rw [if_pos (by decide +kernel)]; kernel_rfl) | (rw [if_neg (by decide +kernel)]; exact ⟨rfl, rfl⟩))
    (fun os started H enc _ => liftedFnProofs os started H enc)

/-- ████ THE STATEMENT ████ -/
theorem fnProofsHolds : Rows.FnProofsSaid :=
  overFnProofs
#print axioms fnProofsHolds

end Go.Proofs.Ytciccbbgamklbaa
