/-
 The law FnFacts.
-/
import Derived.Test.YtdkdhjhhbkcciaaGreatG00Put
import Derived.Test.YtdkdhjhhbkcciaaGreatG33DrawKit
import Derived.Test.YtdkdhjhhbkcciaaGreatG39DrawAsked
import Derived.Test.YtdkdhjhhbkcciaaGreatImplFacts
import Derived.Test.YtdkdhjhhbkcciaaGreatSpecFacts
import Derived.Test.YtdkdhjhhbkcciaaGreatImplAsk
import Derived.Test.YtdkdhjhhbkcciaaGreatImplEnt
import Derived.Test.YtdkdhjhhbkcciaaGreatG25SpecEntT
import Derived.Test.YtdkdhjhhbkcciaaGreatImplPl
import Derived.Test.YtdkdhjhhbkcciaaGreatSpecTest
import Derived.Test.YtdkdhjhhbkcciaaGreatImplSolved
import Derived.Test.YtdkdhjhhbkcciaaGreatG52FnKit
import Derived.Test.YtdkdhjhhbkcciaaGreatG36IntLaws
import Derived.Test.YtdkdhjhhbkcciaaGreatG30FindMore
import Derived.Test.YtdkdhjhhbkcciaaGreatG08Progs
import Derived.BigRegion
namespace Go.Proofs.YtdkdhjhhbkcciaaGreat
open Go.ChangeShapes Go.WideShapes Go.ChangeAt Go.RowKit
set_option linter.unusedVariables false
set_option linter.unusedSimpArgs false
set_option maxHeartbeats 8000000
set_option maxRecDepth 20000
theorem equal_placeF (w : World) (a b x y : Int) : (Op.equalIn 10000 48 (.agg #[.int .i64 a, .int .i64 b]) (.agg #[.int .i64 x, .int .i64 y])).run Tryz.prog w = .ok (decide (a = x) && decide (b = y)) w := by
 have u3 := Tryz.underlying2
 have hS : Tryz.prog.underlying 48 = some (.struct (Tryz.prog.fieldsOf 48)) := by kernel_rfl
 rw [show (10000 : Nat) = 9999 + 1 from rfl, run_equalIn_struct w 9999 48 _ _ hS (by kernel_rfl)]
 simp only [Program.fieldsOf, Tryz.underlying48]
 go_simp
 by_cases h1 : a = x <;> by_cases h2 : b = y <;> simp [h1, h2]
theorem pl_cells {w : World} {base g n cap : Nat} {X : List Int} (h : w.ownsRow base 48 2 (.slice (some ⟨g, 0, none⟩) n cap) n (ints X)) (hX : X.length = 2 * n) {m : Nat} (hm : m < n) :
 w.cell? ⟨g, m * 2, none⟩ = some (.int .i64 (X.getD (2 * m) 0)) ∧ w.cell? ⟨g, m * 2 + 1, none⟩ = some (.int .i64 (X.getD (2 * m + 1) 0)) := by
 have e : 2 * m = m * 2 := by omega
 have h1 : m * 2 < X.length := by omega
 have h2 : m * 2 + 1 < X.length := by omega
 rw [e]
 constructor
 · rw [h.cellAt (m * 2) (by omega)]
   simp [ints, List.getD, h1]
 · rw [h.cellAt (m * 2 + 1) (by omega)]
   simp [ints, List.getD, h2]
theorem pl_some {w : World} {base n c : Nat} {a : Option Addr} {X : List Int} (h : w.ownsRow base 48 2 (.slice a n c) n (ints X)) (h0 : 0 < n) : ∃ g, a = some ⟨g, 0, none⟩ := by
 rcases h.2 with ⟨e, h8⟩ | ⟨g, cap, cur, e, _⟩
 · omega
 · injection e with e1; exact ⟨g, e1⟩
theorem walkFnFacts (bs : List Int) (v : Value) (w : World) (hl : bs.length ≤ maxLen) (hv : Reads w v (bs.map (Value.int .u8))) :
 Calls Tryz.prog 3 #[v] w fun e w' => e = .returned (.bool true) ∧ Below w.heap.size w w' := by
 have hbig := lawBig bs v w hl hv
 by_cases hb : (4096 : Int) < (bs.length : Int)
 · rw [decide_eq_true hb] at hbig
   go_enter Tryz.func3, Tryz.ntmps3
   go_wp2_with (go_at_call 4; refine hbig.mono ?_; rintro e w1 ⟨rfl, rfl⟩)
   go_ret
   exact ⟨rfl, Below.refl _ _⟩
 rw [decide_eq_false hb] at hbig
 go_enter Tryz.func3, Tryz.ntmps3
 go_wp2_with fail
 go_at_call 4
 refine hbig.mono ?_
 rintro e w1 ⟨rfl, rfl⟩
 clear hbig
 go_wp2_with fail
 go_at_call 5
 refine (drawFacts bs v w (by omega) hv).mono ?_
 rintro r w1 ⟨up, Lp, c, rfl, hp5, hp14, prp, b1⟩
 obtain ⟨ps, rp, hpL⟩ := prp.reads
 obtain ⟨hps, hpe⟩ := drawn_lensK hpL hp5 hp14
 obtain ⟨pa, pn, pc, rfl⟩ := prp.slice
 obtain rfl := readsP_len rp
 obtain ⟨A, T, EN, A1, X1, hA, hT, hEN, hA1, hX1, hN, hF⟩ := facts_asked ps c
 obtain ⟨hAl, hAx⟩ := factA_len hA
 obtain ⟨hA1l, hA1x⟩ := factA_len hA1
 obtain ⟨nT, hTl, hT1000⟩ := plA_lenF hT
 obtain ⟨nX, hXl, hX1000⟩ := plA_lenF hX1
 have hENl := entA_len hEN
 have HN : Hid (A.length = 0 → T.length = 0 ∧ EN.length = 0) := hN
 have HF : Hid (0 < A.length → FactF ps c A T A1 X1) := hF
 have HA : Hid (FactA ps c A) := hA
 have HA1 : Hid (FactA ps 1 A1) := hA1
 have HT : Hid (PlA ps c testF T) := hT
 have HX1 : Hid (PlA ps 1 nowF X1) := hX1
 have HEN : Hid (EntA ps c EN) := hEN
 have HTL : Hid (T.length = 2 * nT) := hTl
 have HXL : Hid (X1.length = 2 * nX) := hXl
 have hAm : A.length ≤ maxLen := by unfold maxLen; omega
 have hAxm : ∀ xs ∈ A, xs.length ≤ maxLen := fun xs hx => by have := hAx xs hx; unfold maxLen; omega
 have hENm : EN.length ≤ maxLen := by unfold maxLen; omega
 clear hA hT hEN hA1 hX1 hN hF hTl hXl
 have RV : Hid (Reads w1 v (bs.map (Value.int .u8))) := reads_below hv b1
 have LW : Hid (Below w.heap.size w w1) := b1
 have RP : Hid (ReadsP w1 (.slice pa ps.length pc) ps) := rp
 clear prp rp b1 hpL hp5 hp14
 obtain ⟨w2, hAw2⟩ : ∃ W, w1.alloc (.cells #[.slice pa ps.length pc] 26) = W := ⟨_, rfl⟩
 have bb : Below w1.heap.size w1 w2 := by rw [← hAw2]; go_grown
 obtain ⟨bP, hBw2⟩ : ∃ n, w1.heap.size = n := ⟨_, rfl⟩
 have Pn : Hid (w2.heap[bP]? = some (.cells #[.slice pa ps.length pc] 26 (0, 0))) := by
  show w2.heap[bP]? = _
  rw [← hAw2, ← hBw2]; exact heap_alloc_new w1 _
 have RVx : Hid (Reads w2 v (bs.map (Value.int .u8))) := reads_below RV.out bb
 have LWx : Hid (Below w.heap.size w w2) := low_step LW.out bb
 have RPx : Hid (ReadsP w2 (.slice pa ps.length pc) ps) := readsP_below RP.out bb
 clear RV LW RP
 have RV : Hid (Reads w2 v (bs.map (Value.int .u8))) := RVx.out
 have LW : Hid (Below w.heap.size w w2) := LWx.out
 have RP : Hid (ReadsP w2 (.slice pa ps.length pc) ps) := RPx.out
 clear RVx LWx RPx
 clear bb
 have P : Hid (w2.heap[bP]? = some (.cells #[.slice pa ps.length pc] 26 (0, 0))) := Pn.out
 clear Pn
 obtain ⟨cP, -⟩ := one_cell P.out
 have hcall := implFacts ps c A HA.out (.slice pa ps.length pc) w2 hps hpe RP.out
 go_wp2_with fail
 go_at_call 6
 clear hAw2 hBw2
 refine hcall.mono ?_
 rintro r w3 ⟨fv, fus, rfl, of9, _, bc⟩
 clear hcall cP
 have RVx : Hid (Reads w3 v (bs.map (Value.int .u8))) := reads_below RV.out bc
 have LWx : Hid (Below w.heap.size w w3) := low_step LW.out bc
 have RPx : Hid (ReadsP w3 (.slice pa ps.length pc) ps) := readsP_below RP.out bc
 have Px : Hid (w3.heap[bP]? = some (.cells #[.slice pa ps.length pc] 26 (0, 0))) := box_step P.out bc
 clear RV LW RP P
 have RV : Hid (Reads w3 v (bs.map (Value.int .u8))) := RVx.out
 have LW : Hid (Below w.heap.size w w3) := LWx.out
 have RP : Hid (ReadsP w3 (.slice pa ps.length pc) ps) := RPx.out
 have P : Hid (w3.heap[bP]? = some (.cells #[.slice pa ps.length pc] 26 (0, 0))) := Px.out
 clear RVx LWx RPx Px
 obtain ⟨fa, fn, fc, rfl⟩ := own_slice of9.row
 obtain rfl := ownSS_len of9
 have OL : Hid (OwnSS w3 (w2.heap.size) (.slice fa A.length fc) fus A) := of9
 clear of9 bc
 have hcall := drawAsked bs v w3 (by omega) RV.out
 go_wp2_with fail
 go_at_call 7
 refine hcall.mono ?_
 rintro r w4 ⟨uq, Lq, n, i0, k0, x0, rfl, hq5, hq14, hi00, hi04, hk00, hk07, prq, bc⟩
 clear hcall
 have RVx : Hid (Reads w4 v (bs.map (Value.int .u8))) := reads_below RV.out bc
 have LWx : Hid (Below w.heap.size w w4) := low_step LW.out bc
 have RPx : Hid (ReadsP w4 (.slice pa ps.length pc) ps) := readsP_below RP.out bc
 have Px : Hid (w4.heap[bP]? = some (.cells #[.slice pa ps.length pc] 26 (0, 0))) := box_step P.out bc
 have OLx : Hid (OwnSS w4 (w2.heap.size) (.slice fa A.length fc) fus A) := OwnSS.below OL.out bc
 clear RV LW RP P OL
 have RV : Hid (Reads w4 v (bs.map (Value.int .u8))) := RVx.out
 have LW : Hid (Below w.heap.size w w4) := LWx.out
 have RP : Hid (ReadsP w4 (.slice pa ps.length pc) ps) := RPx.out
 have P : Hid (w4.heap[bP]? = some (.cells #[.slice pa ps.length pc] 26 (0, 0))) := Px.out
 have OL : Hid (OwnSS w4 (w2.heap.size) (.slice fa A.length fc) fus A) := OLx.out
 clear RVx LWx RPx Px OLx
 obtain ⟨qs, rq, hqL⟩ := prq.reads
 obtain ⟨hqs, hqe⟩ := drawn_lensK hqL hq5 hq14
 obtain ⟨qa, qn, qc, rfl⟩ := prq.slice
 obtain rfl := readsP_len rq
 obtain ⟨AQ, hAQ⟩ := factA_some qs n
 have hwi : Wf i0 := WalkArith.wf_i64 (by omega)
 have hwk : Wf k0 := WalkArith.wf_i64 (by omega)
 clear RV
 have RQ : Hid (ReadsP w4 (.slice qa qs.length qc) qs) := rq
 clear prq rq bc hqL hq5 hq14
 obtain ⟨w5, hAw5⟩ : ∃ W, w4.alloc (.cells #[.slice qa qs.length qc] 26) = W := ⟨_, rfl⟩
 have bb : Below w4.heap.size w4 w5 := by rw [← hAw5]; go_grown
 obtain ⟨bQ, hBw5⟩ : ∃ n, w4.heap.size = n := ⟨_, rfl⟩
 have Qn : Hid (w5.heap[bQ]? = some (.cells #[.slice qa qs.length qc] 26 (0, 0))) := by
  show w5.heap[bQ]? = _
  rw [← hAw5, ← hBw5]; exact heap_alloc_new w4 _
 have LWx : Hid (Below w.heap.size w w5) := low_step LW.out bb
 have RPx : Hid (ReadsP w5 (.slice pa ps.length pc) ps) := readsP_below RP.out bb
 have Px : Hid (w5.heap[bP]? = some (.cells #[.slice pa ps.length pc] 26 (0, 0))) := box_step P.out bb
 have OLx : Hid (OwnSS w5 (w2.heap.size) (.slice fa A.length fc) fus A) := OwnSS.below OL.out bb
 have RQx : Hid (ReadsP w5 (.slice qa qs.length qc) qs) := readsP_below RQ.out bb
 clear LW RP P OL RQ
 have LW : Hid (Below w.heap.size w w5) := LWx.out
 have RP : Hid (ReadsP w5 (.slice pa ps.length pc) ps) := RPx.out
 have P : Hid (w5.heap[bP]? = some (.cells #[.slice pa ps.length pc] 26 (0, 0))) := Px.out
 have OL : Hid (OwnSS w5 (w2.heap.size) (.slice fa A.length fc) fus A) := OLx.out
 have RQ : Hid (ReadsP w5 (.slice qa qs.length qc) qs) := RQx.out
 clear LWx RPx Px OLx RQx
 clear bb
 have Q : Hid (w5.heap[bQ]? = some (.cells #[.slice qa qs.length qc] 26 (0, 0))) := Qn.out
 clear Qn
 obtain ⟨cP, -⟩ := one_cell P.out
 have hcall := implTests ps c T HT.out (.slice pa ps.length pc) w5 hps hpe RP.out
 go_wp2_with fail
 go_at_call 8
 clear hAw5 hBw5
 refine hcall.mono ?_
 rintro r w6 ⟨tv, rfl, ot9, bc⟩
 clear hcall cP
 have LWx : Hid (Below w.heap.size w w6) := low_step LW.out bc
 have RPx : Hid (ReadsP w6 (.slice pa ps.length pc) ps) := readsP_below RP.out bc
 have Px : Hid (w6.heap[bP]? = some (.cells #[.slice pa ps.length pc] 26 (0, 0))) := box_step P.out bc
 have OLx : Hid (OwnSS w6 (w2.heap.size) (.slice fa A.length fc) fus A) := OwnSS.below OL.out bc
 have RQx : Hid (ReadsP w6 (.slice qa qs.length qc) qs) := readsP_below RQ.out bc
 have Qx : Hid (w6.heap[bQ]? = some (.cells #[.slice qa qs.length qc] 26 (0, 0))) := box_step Q.out bc
 clear LW RP P OL RQ Q
 have LW : Hid (Below w.heap.size w w6) := LWx.out
 have RP : Hid (ReadsP w6 (.slice pa ps.length pc) ps) := RPx.out
 have P : Hid (w6.heap[bP]? = some (.cells #[.slice pa ps.length pc] 26 (0, 0))) := Px.out
 have OL : Hid (OwnSS w6 (w2.heap.size) (.slice fa A.length fc) fus A) := OLx.out
 have RQ : Hid (ReadsP w6 (.slice qa qs.length qc) qs) := RQx.out
 have Q : Hid (w6.heap[bQ]? = some (.cells #[.slice qa qs.length qc] 26 (0, 0))) := Qx.out
 clear LWx RPx Px OLx RQx Qx
 obtain ⟨n9, hn9, ot⟩ := ot9.ex
 obtain rfl : n9 = nT := by have := HTL.out; omega
 obtain ⟨ta, tn, tc, rfl⟩ := own_slice ot
 obtain rfl : tn = n9 := by
  obtain ⟨_, _, e, _⟩ := reads2_own ot
  injection e
 have OT : Hid (World.ownsRow w6 (w5.heap.size) 48 2 (.slice ta tn tc) tn (ints T)) := ot
 clear ot ot9 hn9 bc
 have HS : Hid (∀ X, Below w6.heap.size w6 X → X.cell? ⟨bP, 0, none⟩ = some (.slice pa ps.length pc) ∧ X.cell? ⟨bQ, 0, none⟩ = some (.slice qa qs.length qc)) := fun X hX => ⟨(one_cell (box_step P.out hX)).1, (one_cell (box_step Q.out hX)).1⟩
 have hS0 := HS.out w6 (Below.refl _ _)
 have hs1 := fun X (hX : Below w6.heap.size w6 X) => specFacts ps c A HA.out (.slice pa ps.length pc) X hps hpe (readsP_below RP.out hX)
 have hs2 := fun X (hX : Below w6.heap.size w6 X) => implAsked qs n i0 k0 x0 hwi hwk AQ hAQ (.slice qa qs.length qc) X hqs hqe (readsP_below RQ.out hX)
 have hs3 := fun X (hX : Below w6.heap.size w6 X) => specAsked qs n i0 k0 x0 AQ hAQ (.slice qa qs.length qc) X hqs hqe (readsP_below RQ.out hX)
 have hs4 := fun X (hX : Below w6.heap.size w6 X) => specTests ps c T HT.out (.slice pa ps.length pc) X hps hpe (readsP_below RP.out hX)
 have hs5 := fun X (hX : Below w6.heap.size w6 X) => implEntries ps c EN HEN.out (.slice pa ps.length pc) X hps hpe (readsP_below RP.out hX)
 have hs6 := fun X (hX : Below w6.heap.size w6 X) => specEntries ps c EN HEN.out (.slice pa ps.length pc) X hps hpe (readsP_below RP.out hX)
 obtain ⟨ab, hab⟩ : ∃ b, askAns AQ i0 k0 x0 = b := ⟨_, rfl⟩
 rw [hab] at hs2 hs3
 clear hab hAQ hwi hwk hi00 hi04 hk00 hk07
 obtain ⟨c1, c2⟩ := id hS0
 go_wp2_with fail
 refine wp_region_held_drew (S := fun X => X.cell? ⟨bP, 0, none⟩ = some (.slice pa ps.length pc) ∧ X.cell? ⟨bQ, 0, none⟩ = some (.slice qa qs.length qc)) (by kernel_rfl) hS0 (fun hHeld => ?_)
 refine wpAnyH_take (i := 0) (oi := ?oia0) (v := .slice fa A.length fc) ?hia0 (by kernel_rfl) (by kernel_rfl) (by kernel_rfl) ?hqa0 ?hya0 hHeld ?hra0
 case hia0 =>
  simp only [gA, gB, gC]
  rfl
 case hqa0 => exact fun _ _ _ h => h
 case hya0 => exact Or.inl ⟨by kernel_rfl, fun w hSw => by go_simp⟩
 try simp only [Act.put, gD, gE, gF]
 refine wpAnyH_take (i := 1) (oi := ?oia1) (v := .agg #[.slice pa ps.length pc]) ?hia1 (by kernel_rfl) (by kernel_rfl) (by kernel_rfl) ?hqa1 ?hya1 hHeld ?hra1
 case hia1 =>
  simp only [gA, gB, gC]
  rfl
 case hqa1 => exact fun _ _ _ h => h
 case hya1 => exact Or.inl ⟨by kernel_rfl, fun w hSw => by obtain ⟨s0, s1⟩ := hSw; go_simp⟩
 try simp only [Act.put, gD, gE, gF]
 refine wpAnyH_take (i := 2) (oi := ?oia2) (v := .int .i64 c) ?hia2 (by kernel_rfl) (by kernel_rfl) (by kernel_rfl) ?hqa2 ?hya2 hHeld ?hra2
 case hia2 =>
  simp only [gA, gB, gC]
  rfl
 case hqa2 => exact fun _ _ _ h => h
 case hya2 => exact Or.inl ⟨by kernel_rfl, fun w hSw => by go_simp⟩
 try simp only [Act.put, gD, gE, gF]
 refine wpAnyH_ready (rs := [3]) (by kernel_rfl) (by simp) ?_
 refine (AllReadyH.cons (o := ?ooa3) ?hoa3 (fun K hK => ?hka3) AllReadyH.nil)
 case hoa3 =>
  simp only [gA, gB, gC]
  rfl
 case hka3 =>
  go_simp
  go_at_call 10
  refine (hs1 w6.drew (Below.drew (Below.refl _ _))).mono ?_
  rintro e x1 ⟨sv, sus, rfl, os1, bq⟩
  have X1 : Hid (Below w6.heap.size w6 x1) := Below.trans (Below.drew (Below.refl _ _)) bq
  have RS : Hid (ReadsSS x1 sv A) := os1.reads
  clear bq os1
  try go_wp2_with fail
  refine hK.out _ _ (HS.out _ X1.out) (fun hHeld => ?_)
  clear hK K
  try simp only [Act.put, gD, gE, gF]
  refine wpAnyH_ready (rs := [4]) (by kernel_rfl) (by simp) ?_
  refine (AllReadyH.cons (o := ?ooa4) ?hoa4 (fun K hK => ?hka4) AllReadyH.nil)
  case hoa4 =>
   simp only [gA, gB, gC]
   rfl
  case hka4 =>
   go_simp
   go_at_call 9
   refine (likeLists A _ sv x1 hAm hAxm (OL.out.below X1.out).reads RS.out).mono ?_
   rintro e x2 ⟨rfl, bq⟩
   have X2 : Hid (Below w6.heap.size w6 x2) := low_step X1.out bq
   clear bq RS
   try go_wp2_with fail
   refine hK.out _ _ (HS.out _ X2.out) (fun hHeld => ?_)
   clear hK K
   try simp only [Act.put, gD, gE, gF]
   refine wpAnyH_take (i := 5) (oi := ?oia5) (v := .bool false) ?hia5 (by kernel_rfl) (by kernel_rfl) (by kernel_rfl) ?hqa5 ?hya5 hHeld ?hra5
   case hia5 =>
    simp only [gA, gB, gC]
    rfl
   case hqa5 => exact fun _ _ _ h => h
   case hya5 => exact Or.inl ⟨by kernel_rfl, fun w hSw => by go_simp⟩
   try simp only [Act.put, gD, gE, gF]
   refine wpAnyH_take (i := 6) (oi := ?oia6) (v := .bool false) ?hia6 (by kernel_rfl) (by kernel_rfl) (by kernel_rfl) ?hqa6 ?hya6 hHeld ?hra6
   case hia6 =>
    simp only [gA, gB, gC]
    rfl
   case hqa6 => exact fun _ _ _ h => h
   case hya6 => exact Or.inl ⟨by kernel_rfl, fun w hSw => by go_simp⟩
   try simp only [Act.put, gD, gE, gF]
   refine wpAnyH_take (i := 7) (oi := ?oia7) (v := .agg #[.slice qa qs.length qc]) ?hia7 (by kernel_rfl) (by kernel_rfl) (by kernel_rfl) ?hqa7 ?hya7 hHeld ?hra7
   case hia7 =>
    simp only [gA, gB, gC]
    rfl
   case hqa7 => exact fun _ _ _ h => h
   case hya7 => exact Or.inl ⟨by kernel_rfl, fun w hSw => by obtain ⟨s0, s1⟩ := hSw; go_simp⟩
   try simp only [Act.put, gD, gE, gF]
   refine wpAnyH_take (i := 8) (oi := ?oia8) (v := .int .i64 n) ?hia8 (by kernel_rfl) (by kernel_rfl) (by kernel_rfl) ?hqa8 ?hya8 hHeld ?hra8
   case hia8 =>
    simp only [gA, gB, gC]
    rfl
   case hqa8 => exact fun _ _ _ h => h
   case hya8 => exact Or.inl ⟨by kernel_rfl, fun w hSw => by go_simp⟩
   try simp only [Act.put, gD, gE, gF]
   refine wpAnyH_take (i := 9) (oi := ?oia9) (v := .int .i64 i0) ?hia9 (by kernel_rfl) (by kernel_rfl) (by kernel_rfl) ?hqa9 ?hya9 hHeld ?hra9
   case hia9 =>
    simp only [gA, gB, gC]
    rfl
   case hqa9 => exact fun _ _ _ h => h
   case hya9 => exact Or.inl ⟨by kernel_rfl, fun w hSw => by go_simp⟩
   try simp only [Act.put, gD, gE, gF]
   refine wpAnyH_take (i := 10) (oi := ?oia10) (v := .int .i64 k0) ?hia10 (by kernel_rfl) (by kernel_rfl) (by kernel_rfl) ?hqa10 ?hya10 hHeld ?hra10
   case hia10 =>
    simp only [gA, gB, gC]
    rfl
   case hqa10 => exact fun _ _ _ h => h
   case hya10 => exact Or.inl ⟨by kernel_rfl, fun w hSw => by go_simp⟩
   try simp only [Act.put, gD, gE, gF]
   refine wpAnyH_take (i := 11) (oi := ?oia11) (v := .int .i64 x0) ?hia11 (by kernel_rfl) (by kernel_rfl) (by kernel_rfl) ?hqa11 ?hya11 hHeld ?hra11
   case hia11 =>
    simp only [gA, gB, gC]
    rfl
   case hqa11 => exact fun _ _ _ h => h
   case hya11 => exact Or.inl ⟨by kernel_rfl, fun w hSw => by go_simp⟩
   try simp only [Act.put, gD, gE, gF]
   refine wpAnyH_take (i := 13) (oi := ?oia13) (v := .agg #[.slice qa qs.length qc]) ?hia13 (by kernel_rfl) (by kernel_rfl) (by kernel_rfl) ?hqa13 ?hya13 hHeld ?hra13
   case hia13 =>
    simp only [gA, gB, gC]
    rfl
   case hqa13 => exact fun _ _ _ h => h
   case hya13 => exact Or.inl ⟨by kernel_rfl, fun w hSw => by obtain ⟨s0, s1⟩ := hSw; go_simp⟩
   try simp only [Act.put, gD, gE, gF]
   refine wpAnyH_take (i := 14) (oi := ?oia14) (v := .int .i64 n) ?hia14 (by kernel_rfl) (by kernel_rfl) (by kernel_rfl) ?hqa14 ?hya14 hHeld ?hra14
   case hia14 =>
    simp only [gA, gB, gC]
    rfl
   case hqa14 => exact fun _ _ _ h => h
   case hya14 => exact Or.inl ⟨by kernel_rfl, fun w hSw => by go_simp⟩
   try simp only [Act.put, gD, gE, gF]
   refine wpAnyH_take (i := 15) (oi := ?oia15) (v := .int .i64 i0) ?hia15 (by kernel_rfl) (by kernel_rfl) (by kernel_rfl) ?hqa15 ?hya15 hHeld ?hra15
   case hia15 =>
    simp only [gA, gB, gC]
    rfl
   case hqa15 => exact fun _ _ _ h => h
   case hya15 => exact Or.inl ⟨by kernel_rfl, fun w hSw => by go_simp⟩
   try simp only [Act.put, gD, gE, gF]
   refine wpAnyH_take (i := 16) (oi := ?oia16) (v := .int .i64 k0) ?hia16 (by kernel_rfl) (by kernel_rfl) (by kernel_rfl) ?hqa16 ?hya16 hHeld ?hra16
   case hia16 =>
    simp only [gA, gB, gC]
    rfl
   case hqa16 => exact fun _ _ _ h => h
   case hya16 => exact Or.inl ⟨by kernel_rfl, fun w hSw => by go_simp⟩
   try simp only [Act.put, gD, gE, gF]
   refine wpAnyH_take (i := 17) (oi := ?oia17) (v := .int .i64 x0) ?hia17 (by kernel_rfl) (by kernel_rfl) (by kernel_rfl) ?hqa17 ?hya17 hHeld ?hra17
   case hia17 =>
    simp only [gA, gB, gC]
    rfl
   case hqa17 => exact fun _ _ _ h => h
   case hya17 => exact Or.inl ⟨by kernel_rfl, fun w hSw => by go_simp⟩
   try simp only [Act.put, gD, gE, gF]
   refine wpAnyH_ready (rs := [12]) (by kernel_rfl) (by simp) ?_
   refine (AllReadyH.cons (o := ?ooa12) ?hoa12 (fun K hK => ?hka12) AllReadyH.nil)
   case hoa12 =>
    simp only [gA, gB, gC]
    rfl
   case hka12 =>
    go_simp
    go_at_call 11
    refine (hs2 x2 X2.out).mono ?_
    rintro e x3 ⟨rfl, bq⟩
    have X3 : Hid (Below w6.heap.size w6 x3) := low_step X2.out bq
    clear bq 
    try go_wp2_with fail
    refine hK.out _ _ (HS.out _ X3.out) (fun hHeld => ?_)
    clear hK K
    try simp only [Act.put, gD, gE, gF]
    refine wpAnyH_ready (rs := [18]) (by kernel_rfl) (by simp) ?_
    refine (AllReadyH.cons (o := ?ooa18) ?hoa18 (fun K hK => ?hka18) AllReadyH.nil)
    case hoa18 =>
     simp only [gA, gB, gC]
     rfl
    case hka18 =>
     go_simp
     go_at_call 12
     refine (hs3 x3 X3.out).mono ?_
     rintro e x4 ⟨rfl, bq⟩
     have X4 : Hid (Below w6.heap.size w6 x4) := low_step X3.out bq
     clear bq 
     try go_wp2_with fail
     refine hK.out _ _ (HS.out _ X4.out) (fun hHeld => ?_)
     clear hK K
     try simp only [Act.put, gD, gE, gF]
     refine wpAnyH_take (i := 19) (oi := ?oia19) (v := .bool false) ?hia19 (by kernel_rfl) (by kernel_rfl) (by kernel_rfl) ?hqa19 ?hya19 hHeld ?hra19
     case hia19 =>
      simp only [gA, gB, gC]
      rfl
     case hqa19 => exact fun _ _ _ h => h
     case hya19 => exact Or.inl ⟨by kernel_rfl, fun w hSw => by go_simp; (try cases ab <;> rfl)⟩
     try simp only [Act.put, gD, gE, gF]
     refine wpAnyH_take (i := 20) (oi := ?oia20) (v := .bool false) ?hia20 (by kernel_rfl) (by kernel_rfl) (by kernel_rfl) ?hqa20 ?hya20 hHeld ?hra20
     case hia20 =>
      simp only [gA, gB, gC]
      rfl
     case hqa20 => exact fun _ _ _ h => h
     case hya20 => exact Or.inl ⟨by kernel_rfl, fun w hSw => by go_simp⟩
     try simp only [Act.put, gD, gE, gF]
     refine wpAnyH_take (i := 21) (oi := ?oia21) (v := .bool false) ?hia21 (by kernel_rfl) (by kernel_rfl) (by kernel_rfl) ?hqa21 ?hya21 hHeld ?hra21
     case hia21 =>
      simp only [gA, gB, gC]
      rfl
     case hqa21 => exact fun _ _ _ h => h
     case hya21 => exact Or.inl ⟨by kernel_rfl, fun w hSw => by go_simp⟩
     try simp only [Act.put, gD, gE, gF]
     refine wpAnyH_take (i := 22) (oi := ?oia22) (v := .slice ta tn tc) ?hia22 (by kernel_rfl) (by kernel_rfl) (by kernel_rfl) ?hqa22 ?hya22 hHeld ?hra22
     case hia22 =>
      simp only [gA, gB, gC]
      rfl
     case hqa22 => exact fun _ _ _ h => h
     case hya22 => exact Or.inl ⟨by kernel_rfl, fun w hSw => by go_simp⟩
     try simp only [Act.put, gD, gE, gF]
     refine wpAnyH_take (i := 23) (oi := ?oia23) (v := .agg #[.slice pa ps.length pc]) ?hia23 (by kernel_rfl) (by kernel_rfl) (by kernel_rfl) ?hqa23 ?hya23 hHeld ?hra23
     case hia23 =>
      simp only [gA, gB, gC]
      rfl
     case hqa23 => exact fun _ _ _ h => h
     case hya23 => exact Or.inl ⟨by kernel_rfl, fun w hSw => by obtain ⟨s0, s1⟩ := hSw; go_simp⟩
     try simp only [Act.put, gD, gE, gF]
     refine wpAnyH_take (i := 24) (oi := ?oia24) (v := .int .i64 c) ?hia24 (by kernel_rfl) (by kernel_rfl) (by kernel_rfl) ?hqa24 ?hya24 hHeld ?hra24
     case hia24 =>
      simp only [gA, gB, gC]
      rfl
     case hqa24 => exact fun _ _ _ h => h
     case hya24 => exact Or.inl ⟨by kernel_rfl, fun w hSw => by go_simp⟩
     try simp only [Act.put, gD, gE, gF]
     refine wpAnyH_ready (rs := [25]) (by kernel_rfl) (by simp) ?_
     refine (AllReadyH.cons (o := ?ooa25) ?hoa25 (fun K hK => ?hka25) AllReadyH.nil)
     case hoa25 =>
      simp only [gA, gB, gC]
      rfl
     case hka25 =>
      go_simp
      go_at_call 14
      refine (hs4 x4 X4.out).mono ?_
      rintro e x5 ⟨yv, rfl, oy, bq⟩
      have X5 : Hid (Below w6.heap.size w6 x5) := low_step X4.out bq
      obtain ⟨n8, hn8, oy2⟩ := oy.ex
      obtain rfl : n8 = tn := by have := HTL.out; omega
      have RY : Hid (Reads2 x5 yv n8 (ints T)) := reads2_own oy2
      clear bq oy oy2 hn8
      try go_wp2_with fail
      refine hK.out _ _ (HS.out _ X5.out) (fun hHeld => ?_)
      clear hK K
      try simp only [Act.put, gD, gE, gF]
      refine wpAnyH_ready (rs := [26]) (by kernel_rfl) (by simp) ?_
      refine (AllReadyH.cons (o := ?ooa26) ?hoa26 (fun K hK => ?hka26) AllReadyH.nil)
      case hoa26 =>
       simp only [gA, gB, gC]
       rfl
      case hka26 =>
       go_simp
       go_at_call 13
       refine (likePlaces n8 T _ yv x5 HTL.out hT1000 (reads2_own (own_kept OT.out X5.out)) RY.out).mono ?_
       rintro e x6 ⟨rfl, bq⟩
       have X6 : Hid (Below w6.heap.size w6 x6) := low_step X5.out bq
       clear bq RY
       try go_wp2_with fail
       refine hK.out _ _ (HS.out _ X6.out) (fun hHeld => ?_)
       clear hK K
       try simp only [Act.put, gD, gE, gF]
       refine wpAnyH_take (i := 27) (oi := ?oia27) (v := .bool false) ?hia27 (by kernel_rfl) (by kernel_rfl) (by kernel_rfl) ?hqa27 ?hya27 hHeld ?hra27
       case hia27 =>
        simp only [gA, gB, gC]
        rfl
       case hqa27 => exact fun _ _ _ h => h
       case hya27 => exact Or.inl ⟨by kernel_rfl, fun w hSw => by go_simp⟩
       try simp only [Act.put, gD, gE, gF]
       refine wpAnyH_take (i := 28) (oi := ?oia28) (v := .bool false) ?hia28 (by kernel_rfl) (by kernel_rfl) (by kernel_rfl) ?hqa28 ?hya28 hHeld ?hra28
       case hia28 =>
        simp only [gA, gB, gC]
        rfl
       case hqa28 => exact fun _ _ _ h => h
       case hya28 => exact Or.inl ⟨by kernel_rfl, fun w hSw => by go_simp⟩
       try simp only [Act.put, gD, gE, gF]
       refine wpAnyH_take (i := 29) (oi := ?oia29) (v := .bool false) ?hia29 (by kernel_rfl) (by kernel_rfl) (by kernel_rfl) ?hqa29 ?hya29 hHeld ?hra29
       case hia29 =>
        simp only [gA, gB, gC]
        rfl
       case hqa29 => exact fun _ _ _ h => h
       case hya29 => exact Or.inl ⟨by kernel_rfl, fun w hSw => by go_simp⟩
       try simp only [Act.put, gD, gE, gF]
       refine wpAnyH_take (i := 30) (oi := ?oia30) (v := .agg #[.slice pa ps.length pc]) ?hia30 (by kernel_rfl) (by kernel_rfl) (by kernel_rfl) ?hqa30 ?hya30 hHeld ?hra30
       case hia30 =>
        simp only [gA, gB, gC]
        rfl
       case hqa30 => exact fun _ _ _ h => h
       case hya30 => exact Or.inl ⟨by kernel_rfl, fun w hSw => by obtain ⟨s0, s1⟩ := hSw; go_simp⟩
       try simp only [Act.put, gD, gE, gF]
       refine wpAnyH_take (i := 31) (oi := ?oia31) (v := .int .i64 c) ?hia31 (by kernel_rfl) (by kernel_rfl) (by kernel_rfl) ?hqa31 ?hya31 hHeld ?hra31
       case hia31 =>
        simp only [gA, gB, gC]
        rfl
       case hqa31 => exact fun _ _ _ h => h
       case hya31 => exact Or.inl ⟨by kernel_rfl, fun w hSw => by go_simp⟩
       try simp only [Act.put, gD, gE, gF]
       refine wpAnyH_take (i := 33) (oi := ?oia33) (v := .agg #[.slice pa ps.length pc]) ?hia33 (by kernel_rfl) (by kernel_rfl) (by kernel_rfl) ?hqa33 ?hya33 hHeld ?hra33
       case hia33 =>
        simp only [gA, gB, gC]
        rfl
       case hqa33 => exact fun _ _ _ h => h
       case hya33 => exact Or.inl ⟨by kernel_rfl, fun w hSw => by obtain ⟨s0, s1⟩ := hSw; go_simp⟩
       try simp only [Act.put, gD, gE, gF]
       refine wpAnyH_take (i := 34) (oi := ?oia34) (v := .int .i64 c) ?hia34 (by kernel_rfl) (by kernel_rfl) (by kernel_rfl) ?hqa34 ?hya34 hHeld ?hra34
       case hia34 =>
        simp only [gA, gB, gC]
        rfl
       case hqa34 => exact fun _ _ _ h => h
       case hya34 => exact Or.inl ⟨by kernel_rfl, fun w hSw => by go_simp⟩
       try simp only [Act.put, gD, gE, gF]
       refine wpAnyH_ready (rs := [32]) (by kernel_rfl) (by simp) ?_
       refine (AllReadyH.cons (o := ?ooa32) ?hoa32 (fun K hK => ?hka32) AllReadyH.nil)
       case hoa32 =>
        simp only [gA, gB, gC]
        rfl
       case hka32 =>
        go_simp
        go_at_call 16
        refine (hs5 x6 X6.out).mono ?_
        rintro e x7 ⟨ev, rfl, oe, bq⟩
        have X7 : Hid (Below w6.heap.size w6 x7) := low_step X6.out bq
        have RE : Hid (Reads x7 ev (ints EN)) := reads_own oe
        clear bq oe
        try go_wp2_with fail
        refine hK.out _ _ (HS.out _ X7.out) (fun hHeld => ?_)
        clear hK K
        try simp only [Act.put, gD, gE, gF]
        refine wpAnyH_ready (rs := [35]) (by kernel_rfl) (by simp) ?_
        refine (AllReadyH.cons (o := ?ooa35) ?hoa35 (fun K hK => ?hka35) AllReadyH.nil)
        case hoa35 =>
         simp only [gA, gB, gC]
         rfl
        case hka35 =>
         go_simp
         go_at_call 17
         refine (hs6 x7 X7.out).mono ?_
         rintro e x8 ⟨gv, rfl, og, bq⟩
         have X8 : Hid (Below w6.heap.size w6 x8) := low_step X7.out bq
         have RG : Hid (Reads x8 gv (ints EN)) := reads_own og
         have RE2 : Hid (Reads x8 ev (ints EN)) := reads_below RE.out bq
         clear bq og RE
         try go_wp2_with fail
         refine hK.out _ _ (HS.out _ X8.out) (fun hHeld => ?_)
         clear hK K
         try simp only [Act.put, gD, gE, gF]
         refine wpAnyH_ready (rs := [36]) (by kernel_rfl) (by simp) ?_
         refine (AllReadyH.cons (o := ?ooa36) ?hoa36 (fun K hK => ?hka36) AllReadyH.nil)
         case hoa36 =>
          simp only [gA, gB, gC]
          rfl
         case hka36 =>
          go_simp
          go_at_call 15
          refine (likeInts EN ev gv x8 hENm RE2.out RG.out).mono ?_
          rintro e x9 ⟨rfl, bq⟩
          have X9 : Hid (Below w6.heap.size w6 x9) := low_step X8.out bq
          clear bq RE2 RG
          try go_wp2_with fail
          refine hK.out _ _ (HS.out _ X9.out) (fun hHeld => ?_)
          clear hK K
          try simp only [Act.put, gD, gE, gF]
          refine wpAnyH_take (i := 37) (oi := ?oia37) (v := .bool false) ?hia37 (by kernel_rfl) (by kernel_rfl) (by kernel_rfl) ?hqa37 ?hya37 hHeld ?hra37
          case hia37 =>
           simp only [gA, gB, gC]
           rfl
          case hqa37 => exact fun _ _ _ h => h
          case hya37 => exact Or.inl ⟨by kernel_rfl, fun w hSw => by go_simp⟩
          try simp only [Act.put, gD, gE, gF]
          refine wpAnyH_take (i := 38) (oi := ?oia38) (v := .bool false) ?hia38 (by kernel_rfl) (by kernel_rfl) (by kernel_rfl) ?hqa38 ?hya38 hHeld ?hra38
          case hia38 =>
           simp only [gA, gB, gC]
           rfl
          case hqa38 => exact fun _ _ _ h => h
          case hya38 => exact Or.inl ⟨by kernel_rfl, fun w hSw => by go_simp⟩
          try simp only [Act.put, gD, gE, gF]
          refine wpAnyH_done (by kernel_rfl) ?_ _
          have Px : Hid (x9.heap[bP]? = some (.cells #[.slice pa ps.length pc] 26 (0, 0))) := box_step P.out X9.out
          have RPx : Hid (ReadsP x9 (.slice pa ps.length pc) ps) := readsP_below RP.out X9.out
          have OLx : Hid (OwnSS x9 (w2.heap.size) (.slice fa A.length fc) fus A) := OL.out.below X9.out
          have OTx : Hid (World.ownsRow x9 (w5.heap.size) 48 2 (.slice ta n8 tc) n8 (ints T)) := own_kept OT.out X9.out
          have LWx : Hid (Below w.heap.size w x9) := low_step LW.out X9.out
          have hen := hs5 x9 X9.out
          clear P RP OL OT LW RQ Q HS hS0 hs1 hs2 hs3 hs4 hs5 hs6 c1 c2 X1 X2 X3 X4 X5 X6 X7 X8 X9
          obtain ⟨cP, -⟩ := one_cell Px.out
          by_cases h0 : A.length = 0
          · have h0' : (A.length : Int) = 0 := by omega
            obtain ⟨hT0, hE0⟩ := HN.out h0
            have hn0 : n8 = 0 := by have := HTL.out; omega
            have hn0' : (n8 : Int) = 0 := by omega
            have HE0 : Hid (EN.length = 0) := hE0
            clear hT0 hE0
            go_wp2_with fail
            go_at_call 16
            refine hen.mono ?_
            rintro r z9 ⟨ev, rfl, oe, bc⟩
            obtain ⟨ea, ec, rfl⟩ := reads_form (reads_own oe)
            have he0 : (EN.length : Int) = 0 := by have := HE0.out; omega
            have HE : Hid (Below w.heap.size w z9) := low_step LWx.out bc
            clear bc hen oe
            go_wp2
            go_ret
            exact ⟨rfl, HE.out⟩
          have h0' : ¬ (A.length : Int) = 0 := by omega
          have h0b : ((A.length : Int) == 0) = false := beq_eq_false_iff_ne.2 h0'
          have hf := HF.out (by omega)
          have HFF : Hid (FactF ps c A T A1 X1) := hf
          have hps1 : 0 < ps.length := by have := hf.len; omega
          have hwps : ps.length ≤ 12 := by have := hf.len; omega
          obtain ⟨gf, hgf⟩ := ownSS_some OLx.out (by omega)
          subst hgf
          clear hf HF HN hen cP
          go_wp2_with fail
          go_loopw [12] (fun q wr => ∃ i : Nat, i ≤ A.length ∧ q = .int .i64 i ∧ Below x9.heap.size x9 wr) (fun q _ => A.length - (intOf q).toNat)
          case atStart => exact ⟨0, Nat.zero_le _, rfl, Below.refl _ _⟩
          case round =>
           obtain ⟨i, hil, rfl, hbr⟩ := hrel
           have HBI : Hid (Below x9.heap.size x9 wr) := hbr
           by_cases hi : i < A.length
           · have hi' : (i : Int) < (A.length : Int) := by omega
             have hi00 : (0 : Int) ≤ (i : Int) := by omega
             obtain ⟨xs, hxs⟩ : ∃ xs, A[i]? = some xs := ⟨A[i], by simp [hi]⟩
             have hxe : A[i]'hi = xs := by simpa [hi] using hxs
             have hxg : A.getD i [] = xs := by simp [List.getD, hi, hxe]
             have hx1000 := hAx xs (List.mem_of_getElem? hxs)
             obtain ⟨ur, _, cr, or9⟩ := OLx.out.at (j := i) hi
             rw [hxe] at or9
             obtain ⟨ra, rn, rc, rfl⟩ := own_slice or9
             obtain ⟨ra', rc', hrf⟩ := reads_form (reads_own or9)
             injection hrf with q1 q2 q3
             subst q2
             clear q1 q3
             have ORr : Hid (Reads x9 (.slice ra xs.length rc) (ints xs)) := reads_own or9
             have HRA : Hid (0 < xs.length → ∃ g, ra = some ⟨g, 0, none⟩) := fun h9 => by
              rcases or9.2 with ⟨e, h8⟩ | ⟨g, cap, cur, e, _⟩
              · omega
              · injection e with e1; exact ⟨g, e1⟩
             have CR : Hid (x9.cell? ⟨gf, i, none⟩ = some (.slice ra xs.length rc)) := cr
             have HXG : Hid (A.getD i [] = xs) := hxg
             have cr1 := cell_step cr hbr
             clear or9 hxe hbr cr hxg hxs
             go_wp2_with fail
             obtain ⟨wi, hwi⟩ : ∃ x, x = wr := ⟨_, rfl⟩
             subst hwi
             go_loopw [13] (fun q wr => ∃ k : Nat, k ≤ xs.length ∧ q = .int .i64 k ∧ Below x9.heap.size x9 wr) (fun q _ => xs.length - (intOf q).toNat)
             case atStart => exact ⟨0, Nat.zero_le _, rfl, HBI.out⟩
             case round =>
              obtain ⟨k, hkl, rfl, hbr⟩ := hrel
              have HBK : Hid (Below x9.heap.size x9 wr) := hbr
              clear cr1
              have cr1 := cell_step CR.out hbr
              by_cases hk : k < xs.length
              · have hk' : (k : Int) < (xs.length : Int) := by omega
                have hk00 : (0 : Int) ≤ (k : Int) := by omega
                obtain ⟨gr, hgr⟩ := HRA.out (by omega)
                subst hgr
                have hsm : Small (xs[k]'hk) := by
                 have := HFF.out.small i k hi (by rw [HXG.out]; exact hk)
                 rw [HXG.out] at this
                 simpa [List.getD, hk] using this
                have HAS : Hid (∀ x : Nat, 1 ≤ x → x ≤ 6 → askAns A (i : Int) (k : Int) (x : Int) = bit (xs[k]'hk) x) := fun x h1 h6 => by
                 have := ask_at (A := A) (x := x) hi (by rw [HXG.out]; exact hk) h1 h6
                 rw [HXG.out] at this
                 rw [this]
                 simp [List.getD, hk]
                have hwi : Wf (i : Int) := WalkArith.wf_i64 (by omega)
                have hwk : Wf (k : Int) := WalkArith.wf_i64 (by omega)
                have ck0 := reads_cell ORr.out hk
                rw [Nat.zero_add] at ck0
                have CK : Hid (x9.cell? ⟨gr, k, none⟩ = some (.int .i64 (xs[k]'hk))) := ck0
                have HSM : Hid (Small (xs[k]'hk)) := hsm
                clear hbr ck0 hsm
                go_wp2_with fail
                obtain ⟨wk, hwk9⟩ : ∃ x, x = wr := ⟨_, rfl⟩
                subst hwk9
                go_loopw [14] (fun q wr => ∃ x : Nat, 1 ≤ x ∧ x ≤ 7 ∧ q = .int .i64 x ∧ Below x9.heap.size x9 wr) (fun q _ => 7 - (intOf q).toNat)
                case atStart => exact ⟨1, by omega, by omega, rfl, HBK.out⟩
                case round =>
                 obtain ⟨x, hx1, hx7, rfl, hbr⟩ := hrel
                 have HBX : Hid (Below x9.heap.size x9 wr) := hbr
                 clear cr1
                 have cr1 := cell_step CR.out hbr
                 by_cases hx : x ≤ 6
                 · obtain ⟨cPr, -⟩ := one_cell (box_step Px.out hbr)
                   have ck := cell_step CK.out hbr
                   have has9 := fun X (hX : Below wr.heap.size wr X) => implAsked ps c (i : Int) (k : Int) (x : Int) hwi hwk A HA.out (.slice pa ps.length pc) X hps hpe (readsP_below RPx.out (low_step HBX.out hX))
                   rw [HAS.out x hx1 hx] at has9
                   have hbt0 := bit_tmod x HSM.out
                   have HS9 : Hid (∀ X, Below wr.heap.size wr X → X.cell? ⟨bP, 0, none⟩ = some (.slice pa ps.length pc) ∧ X.cell? ⟨gf, i, none⟩ = some (.slice (some ⟨gr, 0, none⟩) xs.length rc) ∧ X.cell? ⟨gr, k, none⟩ = some (.int .i64 (xs[k]'hk))) := fun X hX => ⟨cell_step cPr hX, cell_step cr1 hX, cell_step ck hX⟩
                   have hS9 := HS9.out wr (Below.refl _ _)
                   obtain ⟨bt, hbte⟩ : ∃ b, bit (xs[k]'hk) x = b := ⟨_, rfl⟩
                   rw [hbte] at has9 hbt0
                   clear hbr hbte
                   have HX6 : Hid (x = 1 ∨ x = 2 ∨ x = 3 ∨ x = 4 ∨ x = 5 ∨ x = 6) := by
                    show x = 1 ∨ x = 2 ∨ x = 3 ∨ x = 4 ∨ x = 5 ∨ x = 6
                    omega
                   have hbt : ((xs[k]'hk / 2 ^ x).tmod 2 == 1) = bt := by rw [hbt0]; cases bt <;> rfl
                   have hxx : (x : Int) ≤ 6 := by omega
                   clear hbt0
                   go_wp2_with fail
                   refine wp_region_held_drew (S := fun X => X.cell? ⟨bP, 0, none⟩ = some (.slice pa ps.length pc) ∧ X.cell? ⟨gf, i, none⟩ = some (.slice (some ⟨gr, 0, none⟩) xs.length rc) ∧ X.cell? ⟨gr, k, none⟩ = some (.int .i64 (xs[k]'hk))) (by kernel_rfl) hS9 (fun hHeld => ?_)
                   refine wpAnyH_take (i := 0) (oi := ?oib0) (v := .agg #[.slice pa ps.length pc]) ?hib0 (by kernel_rfl) (by kernel_rfl) (by kernel_rfl) ?hqb0 ?hyb0 hHeld ?hrb0
                   case hib0 =>
                    simp only [gA, gB, gC]
                    rfl
                   case hqb0 => exact fun _ _ _ h => h
                   case hyb0 => exact Or.inl ⟨by kernel_rfl, fun w hSw => by obtain ⟨s0, s1, s2⟩ := hSw; go_simp⟩
                   try simp only [Act.put, gD, gE, gF]
                   refine wpAnyH_take (i := 1) (oi := ?oib1) (v := .int .i64 c) ?hib1 (by kernel_rfl) (by kernel_rfl) (by kernel_rfl) ?hqb1 ?hyb1 hHeld ?hrb1
                   case hib1 =>
                    simp only [gA, gB, gC]
                    rfl
                   case hqb1 => exact fun _ _ _ h => h
                   case hyb1 => exact Or.inl ⟨by kernel_rfl, fun w hSw => by go_simp⟩
                   try simp only [Act.put, gD, gE, gF]
                   refine wpAnyH_take (i := 2) (oi := ?oib2) (v := .int .i64 (i : Int)) ?hib2 (by kernel_rfl) (by kernel_rfl) (by kernel_rfl) ?hqb2 ?hyb2 hHeld ?hrb2
                   case hib2 =>
                    simp only [gA, gB, gC]
                    rfl
                   case hqb2 => exact fun _ _ _ h => h
                   case hyb2 => exact Or.inl ⟨by kernel_rfl, fun w hSw => by go_simp⟩
                   try simp only [Act.put, gD, gE, gF]
                   refine wpAnyH_take (i := 3) (oi := ?oib3) (v := .int .i64 (k : Int)) ?hib3 (by kernel_rfl) (by kernel_rfl) (by kernel_rfl) ?hqb3 ?hyb3 hHeld ?hrb3
                   case hib3 =>
                    simp only [gA, gB, gC]
                    rfl
                   case hqb3 => exact fun _ _ _ h => h
                   case hyb3 => exact Or.inl ⟨by kernel_rfl, fun w hSw => by go_simp⟩
                   try simp only [Act.put, gD, gE, gF]
                   refine wpAnyH_take (i := 4) (oi := ?oib4) (v := .int .i64 (x : Int)) ?hib4 (by kernel_rfl) (by kernel_rfl) (by kernel_rfl) ?hqb4 ?hyb4 hHeld ?hrb4
                   case hib4 =>
                    simp only [gA, gB, gC]
                    rfl
                   case hqb4 => exact fun _ _ _ h => h
                   case hyb4 => exact Or.inl ⟨by kernel_rfl, fun w hSw => by go_simp⟩
                   try simp only [Act.put, gD, gE, gF]
                   refine wpAnyH_take (i := 6) (oi := ?oib6) (v := .slice (some ⟨gf, 0, none⟩) A.length fc) ?hib6 (by kernel_rfl) (by kernel_rfl) (by kernel_rfl) ?hqb6 ?hyb6 hHeld ?hrb6
                   case hib6 =>
                    simp only [gA, gB, gC]
                    rfl
                   case hqb6 => exact fun _ _ _ h => h
                   case hyb6 => exact Or.inl ⟨by kernel_rfl, fun w hSw => by go_simp⟩
                   try simp only [Act.put, gD, gE, gF]
                   refine wpAnyH_take (i := 7) (oi := ?oib7) (v := .int .i64 (i : Int)) ?hib7 (by kernel_rfl) (by kernel_rfl) (by kernel_rfl) ?hqb7 ?hyb7 hHeld ?hrb7
                   case hib7 =>
                    simp only [gA, gB, gC]
                    rfl
                   case hqb7 => exact fun _ _ _ h => h
                   case hyb7 => exact Or.inl ⟨by kernel_rfl, fun w hSw => by go_simp⟩
                   try simp only [Act.put, gD, gE, gF]
                   refine wpAnyH_take (i := 8) (oi := ?oib8) (v := .pointer (some ⟨gf, i, none⟩)) ?hib8 (by kernel_rfl) (by kernel_rfl) (by kernel_rfl) ?hqb8 ?hyb8 hHeld ?hrb8
                   case hib8 =>
                    simp only [gA, gB, gC]
                    rfl
                   case hqb8 => exact fun _ _ _ h => h
                   case hyb8 => exact Or.inl ⟨by kernel_rfl, fun w hSw => by go_simp⟩
                   try simp only [Act.put, gD, gE, gF]
                   refine wpAnyH_take (i := 9) (oi := ?oib9) (v := .slice (some ⟨gr, 0, none⟩) xs.length rc) ?hib9 (by kernel_rfl) (by kernel_rfl) (by kernel_rfl) ?hqb9 ?hyb9 hHeld ?hrb9
                   case hib9 =>
                    simp only [gA, gB, gC]
                    rfl
                   case hqb9 => exact fun _ _ _ h => h
                   case hyb9 => exact Or.inl ⟨by kernel_rfl, fun w hSw => by obtain ⟨s0, s1, s2⟩ := hSw; go_simp⟩
                   try simp only [Act.put, gD, gE, gF]
                   refine wpAnyH_take (i := 10) (oi := ?oib10) (v := .int .i64 (k : Int)) ?hib10 (by kernel_rfl) (by kernel_rfl) (by kernel_rfl) ?hqb10 ?hyb10 hHeld ?hrb10
                   case hib10 =>
                    simp only [gA, gB, gC]
                    rfl
                   case hqb10 => exact fun _ _ _ h => h
                   case hyb10 => exact Or.inl ⟨by kernel_rfl, fun w hSw => by go_simp⟩
                   try simp only [Act.put, gD, gE, gF]
                   refine wpAnyH_take (i := 11) (oi := ?oib11) (v := .pointer (some ⟨gr, k, none⟩)) ?hib11 (by kernel_rfl) (by kernel_rfl) (by kernel_rfl) ?hqb11 ?hyb11 hHeld ?hrb11
                   case hib11 =>
                    simp only [gA, gB, gC]
                    rfl
                   case hqb11 => exact fun _ _ _ h => h
                   case hyb11 => exact Or.inl ⟨by kernel_rfl, fun w hSw => by go_simp⟩
                   try simp only [Act.put, gD, gE, gF]
                   refine wpAnyH_take (i := 12) (oi := ?oib12) (v := .int .i64 (xs[k]'hk)) ?hib12 (by kernel_rfl) (by kernel_rfl) (by kernel_rfl) ?hqb12 ?hyb12 hHeld ?hrb12
                   case hib12 =>
                    simp only [gA, gB, gC]
                    rfl
                   case hqb12 => exact fun _ _ _ h => h
                   case hyb12 => exact Or.inl ⟨by kernel_rfl, fun w hSw => by obtain ⟨s0, s1, s2⟩ := hSw; go_simp⟩
                   try simp only [Act.put, gD, gE, gF]
                   refine wpAnyH_take (i := 13) (oi := ?oib13) (v := .int .i64 (x : Int)) ?hib13 (by kernel_rfl) (by kernel_rfl) (by kernel_rfl) ?hqb13 ?hyb13 hHeld ?hrb13
                   case hib13 =>
                    simp only [gA, gB, gC]
                    rfl
                   case hqb13 => exact fun _ _ _ h => h
                   case hyb13 => exact Or.inl ⟨by kernel_rfl, fun w hSw => by go_simp⟩
                   try simp only [Act.put, gD, gE, gF]
                   refine wpAnyH_take (i := 14) (oi := ?oib14) (v := .int .u64 (x : Int)) ?hib14 (by kernel_rfl) (by kernel_rfl) (by kernel_rfl) ?hqb14 ?hyb14 hHeld ?hrb14
                   case hib14 =>
                    simp only [gA, gB, gC]
                    rfl
                   case hqb14 => exact fun _ _ _ h => h
                   case hyb14 => exact Or.inl ⟨by kernel_rfl, fun w hSw => by have hx6 := HX6.out; rcases hx6 with rfl | rfl | rfl | rfl | rfl | rfl <;> (go_simp; (try decide))⟩
                   try simp only [Act.put, gD, gE, gF]
                   refine wpAnyH_take (i := 15) (oi := ?oib15) (v := (Value.int .i64 (xs[k]'hk / 2 ^ x))) ?hib15 (by kernel_rfl) (by kernel_rfl) (by kernel_rfl) ?hqb15 ?hyb15 hHeld ?hrb15
                   case hib15 =>
                    simp only [gA, gB, gC]
                    rfl
                   case hqb15 => exact fun _ _ _ h => h
                   case hyb15 => exact Or.inl ⟨by kernel_rfl, fun w hSw => by have hx6 := HX6.out; rcases hx6 with rfl | rfl | rfl | rfl | rfl | rfl <;> go_simp⟩
                   try simp only [Act.put, gD, gE, gF]
                   refine wpAnyH_take (i := 16) (oi := ?oib16) (v := (Value.int .i64 ((xs[k]'hk / 2 ^ x).tmod 2))) ?hib16 (by kernel_rfl) (by kernel_rfl) (by kernel_rfl) ?hqb16 ?hyb16 hHeld ?hrb16
                   case hib16 =>
                    simp only [gA, gB, gC]
                    rfl
                   case hqb16 => exact fun _ _ _ h => h
                   case hyb16 => exact Or.inl ⟨by kernel_rfl, fun w hSw => by go_simp⟩
                   try simp only [Act.put, gD, gE, gF]
                   refine wpAnyH_take (i := 17) (oi := ?oib17) (v := .bool bt) ?hib17 (by kernel_rfl) (by kernel_rfl) (by kernel_rfl) ?hqb17 ?hyb17 hHeld ?hrb17
                   case hib17 =>
                    simp only [gA, gB, gC]
                    rfl
                   case hqb17 => exact fun _ _ _ h => h
                   case hyb17 => exact Or.inl ⟨by kernel_rfl, fun w hSw => by go_simp; (try rw [hbt])⟩
                   try simp only [Act.put, gD, gE, gF]
                   refine wpAnyH_ready (rs := [5]) (by kernel_rfl) (by simp) ?_
                   refine (AllReadyH.cons (o := ?oob5) ?hob5 (fun K hK => ?hkb5) AllReadyH.nil)
                   case hob5 =>
                    simp only [gA, gB, gC]
                    rfl
                   case hkb5 =>
                    go_simp
                    go_at_call 11
                    refine (has9 wr.drew (Below.drew (Below.refl _ _))).mono ?_
                    rintro e y1 ⟨rfl, bq⟩
                    have Y1 : Hid (Below wr.heap.size wr y1) := Below.trans (Below.drew (Below.refl _ _)) bq
                    clear bq 
                    try go_wp2_with fail
                    refine hK.out _ _ (HS9.out _ Y1.out) (fun hHeld => ?_)
                    clear hK K
                    try simp only [Act.put, gD, gE, gF]
                    refine wpAnyH_take (i := 18) (oi := ?oib18) (v := .bool false) ?hib18 (by kernel_rfl) (by kernel_rfl) (by kernel_rfl) ?hqb18 ?hyb18 hHeld ?hrb18
                    case hib18 =>
                     simp only [gA, gB, gC]
                     rfl
                    case hqb18 => exact fun _ _ _ h => h
                    case hyb18 => exact Or.inl ⟨by kernel_rfl, fun w hSw => by go_simp; (try cases bt <;> rfl)⟩
                    try simp only [Act.put, gD, gE, gF]
                    refine wpAnyH_done (by kernel_rfl) ?_ _
                    have BZ : Hid (Below x9.heap.size x9 y1) := low_step HBX.out Y1.out
                    clear hbt
                    go_wp2
                    go_roundw
                    case rel => exact ⟨x + 1, by omega, by omega, by go_num, BZ.out⟩
                    case measure => simp [intOf]; omega
                 · obtain rfl : x = 7 := by omega
                   clear hbr
                   go_wp2
                   go_roundw
                   case rel => exact ⟨k + 1, by omega, by go_num, HBX.out⟩
                   case measure => simp [intOf]; omega
              · obtain rfl : k = xs.length := by omega
                have hnk : ¬ (xs.length : Int) < (xs.length : Int) := by omega
                clear hbr
                go_wp2
                go_roundw
                case rel => exact ⟨i + 1, by omega, by go_num, HBK.out⟩
                case measure => simp [intOf]; omega
           · obtain rfl : i = A.length := by omega
             have hni : ¬ (A.length : Int) < (A.length : Int) := by omega
             clear hbr
             obtain ⟨gp, op, hpa⟩ := readsP_some RPx.out hps1
             subst hpa
             go_wp2_with fail
             obtain ⟨wi, hwi⟩ : ∃ x, x = wr := ⟨_, rfl⟩
             subst hwi
             go_loopw [15] (fun q wr => ∃ m : Nat, m ≤ n8 ∧ q = .int .i64 m ∧ Below x9.heap.size x9 wr) (fun q _ => n8 - (intOf q).toNat)
             case atStart => exact ⟨0, Nat.zero_le _, rfl, HBI.out⟩
             case round =>
              obtain ⟨m, hml, rfl, hbr⟩ := hrel
              have HBX : Hid (Below x9.heap.size x9 wr) := hbr
              by_cases hm : m < n8
              · have hm' : (m : Int) < (n8 : Int) := by omega
                have hm00 : (0 : Int) ≤ (m : Int) := by omega
                obtain ⟨gt, hgt⟩ := pl_some OTx.out (by omega)
                subst hgt
                obtain ⟨n7, hn7, hpair⟩ := HFF.out.tests
                obtain ⟨a, b, hTa, hTb, ss, s, hss, hs, hk6, hx0, hx5, hask⟩ := hpair m (by have := HTL.out; omega)
                obtain ⟨t0', t1'⟩ := pl_cells OTx.out HTL.out hm
                rw [hTa] at t0'
                rw [hTb] at t1'
                have t0 := cell_step t0' hbr
                have t1 := cell_step t1' hbr
                obtain ⟨px, cpx, rpx⟩ := readsP_cell RPx.out hss
                obtain ⟨pxa, pxc, rfl⟩ := reads3_form rpx
                have hbl : b < ss.length := (List.getElem?_eq_some_iff.1 hs).1
                obtain ⟨gx, ox, hxa⟩ := reads3_some rpx (by omega)
                subst hxa
                obtain ⟨d0', d1', d2'⟩ := reads3_cell rpx hs
                have d0 := cell_step d0' hbr
                have d1 := cell_step d1' hbr
                have d2 := cell_step d2' hbr
                have cx := cell_step cpx hbr
                obtain ⟨cPr, -⟩ := one_cell (box_step Px.out hbr)
                have hal : a < ps.length := (List.getElem?_eq_some_iff.1 hss).1
                have hal' : (a : Int) < (ps.length : Int) := by omega
                have ha00 : (0 : Int) ≤ (a : Int) := by omega
                have hbl' : (b : Int) < (ss.length : Int) := by omega
                have hb00 : (0 : Int) ≤ (b : Int) := by omega
                have hwa : Wf (a : Int) := WalkArith.wf_i64 (by omega)
                have hss12 : ss.length ≤ 1000 := by
                 have h9 := HFF.out.row a hal
                 have e9 : ps[a] = ss := by simpa [hal] using hss
                 rw [e9] at h9
                 have hAa : a < A.length := by have := HFF.out.len; omega
                 have := hAx (A[a]'hAa) (List.getElem_mem hAa)
                 have e8 : A.getD a [] = A[a]'hAa := by simp [List.getD, hAa]
                 rw [e8] at h9
                 omega
                have hwb : Wf (b : Int) := WalkArith.wf_i64 (by omega)
                have HHA : Hid (askAns A (a : Int) (b : Int) (s.x + 1) = true) := hask
                rw [hk6] at d0
                obtain ⟨sx, hsx⟩ : ∃ z, s.x = z := ⟨_, rfl⟩
                have hxw : IntKind.i64.wrap (s.x + 1) = s.x + 1 := IntWalk.i64_in _ (by omega)
                have bZ : Below wr.heap.size wr (wr.alloc (.cells #[.int .i64 0, .int .i64 0, .int .i64 0] 43)) := by go_grown
                have t0A := cell_step t0 bZ
                have t1A := cell_step t1 bZ
                have d0A := cell_step d0 bZ
                have d1A := cell_step d1 bZ
                have d2A := cell_step d2 bZ
                have cxA := cell_step cx bZ
                have cPA := cell_step cPr bZ
                clear hbr t0' t1' d0' d1' d2' cpx rpx hask hTa hTb hpair hn7 hsx bZ
                go_wp2_with fail
                go_region
                clear t0A t1A d0A d1A d2A cxA cPA d0 d1 d2 cx
                obtain ⟨w9, hw9⟩ : ∃ W, (wr.alloc (.cells #[.int .i64 6, .int .i64 s.x, .int .i64 s.y] 43)).drew = W := ⟨_, rfl⟩
                obtain ⟨bS, hbS⟩ : ∃ n, wr.heap.size = n := ⟨_, rfl⟩
                have b9 : Below wr.heap.size wr w9 := by rw [← hw9]; exact Below.drew (by go_grown)
                have B9 : w9.heap[bS]? = some (.cells #[.int .i64 6, .int .i64 s.x, .int .i64 s.y] 43 (0, 0)) := by rw [← hw9, ← hbS]; exact heap_alloc_new wr _
                have HB9 : Hid (Below x9.heap.size x9 w9) := low_step HBX.out b9
                have t0B := cell_step t0 b9
                have t1B := cell_step t1 b9
                have cPB := cell_step cPr b9
                obtain ⟨e0, e1, _⟩ := three_inK B9
                have has9 := fun X (hX : Below w9.heap.size w9 X) => implAsked ps c (a : Int) (b : Int) (s.x + 1) hwa hwb A HA.out (.slice (some ⟨gp, op, none⟩) ps.length pc) X hps hpe (readsP_below RPx.out (low_step HB9.out hX))
                rw [HHA.out] at has9
                have HS9 : Hid (∀ X, Below w9.heap.size w9 X → X.cell? ⟨bP, 0, none⟩ = some (.slice (some ⟨gp, op, none⟩) ps.length pc) ∧ X.cell? ⟨gt, m * 2, none⟩ = some (.int .i64 (a : Int)) ∧ X.cell? ⟨gt, m * 2 + 1, none⟩ = some (.int .i64 (b : Int)) ∧ X.cell? ⟨bS, 0, none⟩ = some (.int .i64 6) ∧ X.cell? ⟨bS, 1, none⟩ = some (.int .i64 s.x)) := fun X hX => ⟨cell_step cPB hX, cell_step t0B hX, cell_step t1B hX, cell_step e0 hX, cell_step e1 hX⟩
                have hS9 := HS9.out w9 (Below.refl _ _)
                clear t0 t1 cPr b9 B9
                rw [hw9]
                simp only [hbS]
                clear hw9 hbS
                go_wp2_with fail
                refine wp_region_held_drew (S := fun X => X.cell? ⟨bP, 0, none⟩ = some (.slice (some ⟨gp, op, none⟩) ps.length pc) ∧ X.cell? ⟨gt, m * 2, none⟩ = some (.int .i64 (a : Int)) ∧ X.cell? ⟨gt, m * 2 + 1, none⟩ = some (.int .i64 (b : Int)) ∧ X.cell? ⟨bS, 0, none⟩ = some (.int .i64 6) ∧ X.cell? ⟨bS, 1, none⟩ = some (.int .i64 s.x)) (by kernel_rfl) hS9 (fun hHeld => ?_)
                refine wpAnyH_take (i := 0) (oi := ?oic0) (v := .pointer (some ⟨bS, 0, none⟩)) ?hic0 (by kernel_rfl) (by kernel_rfl) (by kernel_rfl) ?hqc0 ?hyc0 hHeld ?hrc0
                case hic0 =>
                 simp only [gA, gB, gC]
                 rfl
                case hqc0 => exact fun _ _ _ h => h
                case hyc0 => exact Or.inl ⟨by kernel_rfl, fun w hSw => by go_simp⟩
                try simp only [Act.put, gD, gE, gF]
                refine wpAnyH_take (i := 1) (oi := ?oic1) (v := .int .i64 6) ?hic1 (by kernel_rfl) (by kernel_rfl) (by kernel_rfl) ?hqc1 ?hyc1 hHeld ?hrc1
                case hic1 =>
                 simp only [gA, gB, gC]
                 rfl
                case hqc1 => exact fun _ _ _ h => h
                case hyc1 => exact Or.inl ⟨by kernel_rfl, fun w hSw => by obtain ⟨s0, s1, s2, s3, s4⟩ := hSw; go_simp⟩
                try simp only [Act.put, gD, gE, gF]
                refine wpAnyH_take (i := 2) (oi := ?oic2) (v := .bool false) ?hic2 (by kernel_rfl) (by kernel_rfl) (by kernel_rfl) ?hqc2 ?hyc2 hHeld ?hrc2
                case hic2 =>
                 simp only [gA, gB, gC]
                 rfl
                case hqc2 => exact fun _ _ _ h => h
                case hyc2 => exact Or.inl ⟨by kernel_rfl, fun w hSw => by go_simp⟩
                try simp only [Act.put, gD, gE, gF]
                refine wpAnyH_take (i := 3) (oi := ?oic3) (v := .bool false) ?hic3 (by kernel_rfl) (by kernel_rfl) (by kernel_rfl) ?hqc3 ?hyc3 hHeld ?hrc3
                case hic3 =>
                 simp only [gA, gB, gC]
                 rfl
                case hqc3 => exact fun _ _ _ h => h
                case hyc3 => exact Or.inl ⟨by kernel_rfl, fun w hSw => by go_simp⟩
                try simp only [Act.put, gD, gE, gF]
                refine wpAnyH_take (i := 4) (oi := ?oic4) (v := .agg #[.slice (some ⟨gp, op, none⟩) ps.length pc]) ?hic4 (by kernel_rfl) (by kernel_rfl) (by kernel_rfl) ?hqc4 ?hyc4 hHeld ?hrc4
                case hic4 =>
                 simp only [gA, gB, gC]
                 rfl
                case hqc4 => exact fun _ _ _ h => h
                case hyc4 => exact Or.inl ⟨by kernel_rfl, fun w hSw => by obtain ⟨s0, s1, s2, s3, s4⟩ := hSw; go_simp⟩
                try simp only [Act.put, gD, gE, gF]
                refine wpAnyH_take (i := 5) (oi := ?oic5) (v := .int .i64 c) ?hic5 (by kernel_rfl) (by kernel_rfl) (by kernel_rfl) ?hqc5 ?hyc5 hHeld ?hrc5
                case hic5 =>
                 simp only [gA, gB, gC]
                 rfl
                case hqc5 => exact fun _ _ _ h => h
                case hyc5 => exact Or.inl ⟨by kernel_rfl, fun w hSw => by go_simp⟩
                try simp only [Act.put, gD, gE, gF]
                refine wpAnyH_take (i := 6) (oi := ?oic6) (v := .slice (some ⟨gt, 0, none⟩) n8 tc) ?hic6 (by kernel_rfl) (by kernel_rfl) (by kernel_rfl) ?hqc6 ?hyc6 hHeld ?hrc6
                case hic6 =>
                 simp only [gA, gB, gC]
                 rfl
                case hqc6 => exact fun _ _ _ h => h
                case hyc6 => exact Or.inl ⟨by kernel_rfl, fun w hSw => by go_simp⟩
                try simp only [Act.put, gD, gE, gF]
                refine wpAnyH_take (i := 7) (oi := ?oic7) (v := .int .i64 (m : Int)) ?hic7 (by kernel_rfl) (by kernel_rfl) (by kernel_rfl) ?hqc7 ?hyc7 hHeld ?hrc7
                case hic7 =>
                 simp only [gA, gB, gC]
                 rfl
                case hqc7 => exact fun _ _ _ h => h
                case hyc7 => exact Or.inl ⟨by kernel_rfl, fun w hSw => by go_simp⟩
                try simp only [Act.put, gD, gE, gF]
                refine wpAnyH_take (i := 8) (oi := ?oic8) (v := .pointer (some ⟨gt, m * 2, none⟩)) ?hic8 (by kernel_rfl) (by kernel_rfl) (by kernel_rfl) ?hqc8 ?hyc8 hHeld ?hrc8
                case hic8 =>
                 simp only [gA, gB, gC]
                 rfl
                case hqc8 => exact fun _ _ _ h => h
                case hyc8 => exact Or.inl ⟨by kernel_rfl, fun w hSw => by go_simp⟩
                try simp only [Act.put, gD, gE, gF]
                refine wpAnyH_take (i := 9) (oi := ?oic9) (v := .pointer (some ⟨gt, m * 2, none⟩)) ?hic9 (by kernel_rfl) (by kernel_rfl) (by kernel_rfl) ?hqc9 ?hyc9 hHeld ?hrc9
                case hic9 =>
                 simp only [gA, gB, gC]
                 rfl
                case hqc9 => exact fun _ _ _ h => h
                case hyc9 => exact Or.inl ⟨by kernel_rfl, fun w hSw => by go_simp⟩
                try simp only [Act.put, gD, gE, gF]
                refine wpAnyH_take (i := 10) (oi := ?oic10) (v := .int .i64 (a : Int)) ?hic10 (by kernel_rfl) (by kernel_rfl) (by kernel_rfl) ?hqc10 ?hyc10 hHeld ?hrc10
                case hic10 =>
                 simp only [gA, gB, gC]
                 rfl
                case hqc10 => exact fun _ _ _ h => h
                case hyc10 => exact Or.inl ⟨by kernel_rfl, fun w hSw => by obtain ⟨s0, s1, s2, s3, s4⟩ := hSw; go_simp⟩
                try simp only [Act.put, gD, gE, gF]
                refine wpAnyH_take (i := 11) (oi := ?oic11) (v := .slice (some ⟨gt, 0, none⟩) n8 tc) ?hic11 (by kernel_rfl) (by kernel_rfl) (by kernel_rfl) ?hqc11 ?hyc11 hHeld ?hrc11
                case hic11 =>
                 simp only [gA, gB, gC]
                 rfl
                case hqc11 => exact fun _ _ _ h => h
                case hyc11 => exact Or.inl ⟨by kernel_rfl, fun w hSw => by go_simp⟩
                try simp only [Act.put, gD, gE, gF]
                refine wpAnyH_take (i := 12) (oi := ?oic12) (v := .int .i64 (m : Int)) ?hic12 (by kernel_rfl) (by kernel_rfl) (by kernel_rfl) ?hqc12 ?hyc12 hHeld ?hrc12
                case hic12 =>
                 simp only [gA, gB, gC]
                 rfl
                case hqc12 => exact fun _ _ _ h => h
                case hyc12 => exact Or.inl ⟨by kernel_rfl, fun w hSw => by go_simp⟩
                try simp only [Act.put, gD, gE, gF]
                refine wpAnyH_take (i := 13) (oi := ?oic13) (v := .pointer (some ⟨gt, m * 2, none⟩)) ?hic13 (by kernel_rfl) (by kernel_rfl) (by kernel_rfl) ?hqc13 ?hyc13 hHeld ?hrc13
                case hic13 =>
                 simp only [gA, gB, gC]
                 rfl
                case hqc13 => exact fun _ _ _ h => h
                case hyc13 => exact Or.inl ⟨by kernel_rfl, fun w hSw => by go_simp⟩
                try simp only [Act.put, gD, gE, gF]
                refine wpAnyH_take (i := 14) (oi := ?oic14) (v := .pointer (some ⟨gt, m * 2 + 1, none⟩)) ?hic14 (by kernel_rfl) (by kernel_rfl) (by kernel_rfl) ?hqc14 ?hyc14 hHeld ?hrc14
                case hic14 =>
                 simp only [gA, gB, gC]
                 rfl
                case hqc14 => exact fun _ _ _ h => h
                case hyc14 => exact Or.inl ⟨by kernel_rfl, fun w hSw => by go_simp⟩
                try simp only [Act.put, gD, gE, gF]
                refine wpAnyH_take (i := 15) (oi := ?oic15) (v := .int .i64 (b : Int)) ?hic15 (by kernel_rfl) (by kernel_rfl) (by kernel_rfl) ?hqc15 ?hyc15 hHeld ?hrc15
                case hic15 =>
                 simp only [gA, gB, gC]
                 rfl
                case hqc15 => exact fun _ _ _ h => h
                case hyc15 => exact Or.inl ⟨by kernel_rfl, fun w hSw => by obtain ⟨s0, s1, s2, s3, s4⟩ := hSw; go_simp⟩
                try simp only [Act.put, gD, gE, gF]
                refine wpAnyH_take (i := 16) (oi := ?oic16) (v := .pointer (some ⟨bS, 1, none⟩)) ?hic16 (by kernel_rfl) (by kernel_rfl) (by kernel_rfl) ?hqc16 ?hyc16 hHeld ?hrc16
                case hic16 =>
                 simp only [gA, gB, gC]
                 rfl
                case hqc16 => exact fun _ _ _ h => h
                case hyc16 => exact Or.inl ⟨by kernel_rfl, fun w hSw => by go_simp⟩
                try simp only [Act.put, gD, gE, gF]
                refine wpAnyH_take (i := 17) (oi := ?oic17) (v := .int .i64 s.x) ?hic17 (by kernel_rfl) (by kernel_rfl) (by kernel_rfl) ?hqc17 ?hyc17 hHeld ?hrc17
                case hic17 =>
                 simp only [gA, gB, gC]
                 rfl
                case hqc17 => exact fun _ _ _ h => h
                case hyc17 => exact Or.inl ⟨by kernel_rfl, fun w hSw => by obtain ⟨s0, s1, s2, s3, s4⟩ := hSw; go_simp⟩
                try simp only [Act.put, gD, gE, gF]
                refine wpAnyH_take (i := 18) (oi := ?oic18) (v := .int .i64 (s.x + 1)) ?hic18 (by kernel_rfl) (by kernel_rfl) (by kernel_rfl) ?hqc18 ?hyc18 hHeld ?hrc18
                case hic18 =>
                 simp only [gA, gB, gC]
                 rfl
                case hqc18 => exact fun _ _ _ h => h
                case hyc18 => exact Or.inl ⟨by kernel_rfl, fun w hSw => by go_simp⟩
                try simp only [Act.put, gD, gE, gF]
                refine wpAnyH_ready (rs := [19]) (by kernel_rfl) (by simp) ?_
                refine (AllReadyH.cons (o := ?ooc19) ?hoc19 (fun K hK => ?hkc19) AllReadyH.nil)
                case hoc19 =>
                 simp only [gA, gB, gC]
                 rfl
                case hkc19 =>
                 go_simp
                 go_at_call 11
                 refine (has9 w9.drew (Below.drew (Below.refl _ _))).mono ?_
                 rintro e y1 ⟨rfl, bq⟩
                 have Y1 : Hid (Below w9.heap.size w9 y1) := Below.trans (Below.drew (Below.refl _ _)) bq
                 clear bq 
                 try go_wp2_with fail
                 refine hK.out _ _ (HS9.out _ Y1.out) (fun hHeld => ?_)
                 clear hK K
                 try simp only [Act.put, gD, gE, gF]
                 refine wpAnyH_take (i := 20) (oi := ?oic20) (v := .bool false) ?hic20 (by kernel_rfl) (by kernel_rfl) (by kernel_rfl) ?hqc20 ?hyc20 hHeld ?hrc20
                 case hic20 =>
                  simp only [gA, gB, gC]
                  rfl
                 case hqc20 => exact fun _ _ _ h => h
                 case hyc20 => exact Or.inl ⟨by kernel_rfl, fun w hSw => by go_simp⟩
                 try simp only [Act.put, gD, gE, gF]
                 refine wpAnyH_take (i := 21) (oi := ?oic21) (v := .bool false) ?hic21 (by kernel_rfl) (by kernel_rfl) (by kernel_rfl) ?hqc21 ?hyc21 hHeld ?hrc21
                 case hic21 =>
                  simp only [gA, gB, gC]
                  rfl
                 case hqc21 => exact fun _ _ _ h => h
                 case hyc21 => exact Or.inl ⟨by kernel_rfl, fun w hSw => by go_simp⟩
                 try simp only [Act.put, gD, gE, gF]
                 refine wpAnyH_done (by kernel_rfl) ?_ _
                 have BZ : Hid (Below x9.heap.size x9 y1) := low_step HB9.out Y1.out
                 go_wp2
                 go_roundw
                 case rel => exact ⟨m + 1, by omega, by go_num, BZ.out⟩
                 case measure => simp [intOf]; omega
              · obtain rfl : m = n8 := by omega
                have hnm : ¬ (m : Int) < (m : Int) := by omega
                have hnw := implNowhere ps X1 HX1.out (.slice (some ⟨gp, op, none⟩) ps.length pc) wr hps hpe (readsP_below RPx.out hbr)
                obtain ⟨cPr, -⟩ := one_cell (box_step Px.out hbr)
                clear hbr
                go_wp2_with fail
                go_at_call 18
                refine hnw.mono ?_
                rintro r zn ⟨xv, rfl, ox9, bc⟩
                obtain ⟨n6, hn6, oxr⟩ := ox9.ex
                obtain rfl : n6 = nX := by have := HXL.out; omega
                obtain ⟨xa, xn, xc, rfl⟩ := own_slice oxr
                obtain rfl : xn = n6 := by
                 obtain ⟨_, _, e, _⟩ := reads2_own oxr
                 injection e
                have OX : Hid (World.ownsRow zn wr.heap.size 48 2 (.slice xa xn xc) xn (ints X1)) := oxr
                have HBN : Hid (Below x9.heap.size x9 zn) := low_step HBX.out bc
                have Pn : Hid (zn.heap[bP]? = some (.cells #[.slice (some ⟨gp, op, none⟩) ps.length pc] 26 (0, 0))) := box_step Px.out HBN.out
                have RPn : Hid (ReadsP zn (.slice (some ⟨gp, op, none⟩) ps.length pc) ps) := readsP_below RPx.out HBN.out
                have OLn : Hid (OwnSS zn (w2.heap.size) (.slice (some ⟨gf, 0, none⟩) A.length fc) fus A) := OLx.out.below HBN.out
                have LWn : Hid (Below w.heap.size w zn) := low_step LWx.out HBN.out
                clear ox9 oxr hn6 bc hnw cPr
                go_wp2_with fail
                obtain ⟨wm, hwm⟩ : ∃ x, x = wr := ⟨_, rfl⟩
                subst hwm
                go_loopw [18] (fun q wr => ∃ m : Nat, m ≤ xn ∧ q = .int .i64 m ∧ Below zn.heap.size zn wr) (fun q _ => xn - (intOf q).toNat)
                case atStart => exact ⟨0, Nat.zero_le _, rfl, Below.refl _ _⟩
                case round =>
                 obtain ⟨m, hml, rfl, hbr⟩ := hrel
                 have HBX : Hid (Below zn.heap.size zn wr) := hbr
                 obtain ⟨cPr, -⟩ := one_cell (box_step Pn.out hbr)
                 by_cases hm : m < xn
                 · have hm' : (m : Int) < (xn : Int) := by omega
                   have hm00 : (0 : Int) ≤ (m : Int) := by omega
                   obtain ⟨gx, hgx⟩ := pl_some OX.out (by omega)
                   subst hgx
                   obtain ⟨n7, hn7, hpair⟩ := HFF.out.now
                   obtain ⟨a, b, hTa, hTb, ha1, hb1', hz', hne⟩ := hpair m (by have := HXL.out; omega)
                   obtain ⟨t0', t1'⟩ := pl_cells OX.out HXL.out hm
                   rw [hTa] at t0'
                   rw [hTb] at t1'
                   have t0 := cell_step t0' hbr
                   have t1 := cell_step t1' hbr
                   have eg : A1.getD a [] = A1[a]'ha1 := by simp [List.getD, ha1]
                   rw [eg] at hb1' hz'
                   have hb1 : b < (A1[a]'ha1).length := hb1'
                   have hz : (A1[a]'ha1)[b]'hb1 = 0 := by
                    have e9 : (A1[a]'ha1).getD b 0 = (A1[a]'ha1)[b]'hb1 := by simp [List.getD, hb1]
                    rw [← e9]; exact hz'
                   have ha1' : (a : Int) < (A1.length : Int) := by omega
                   have ha00 : (0 : Int) ≤ (a : Int) := by omega
                   have hb1i : (b : Int) < ((A1[a]'ha1).length : Int) := by omega
                   have hb00 : (0 : Int) ≤ (b : Int) := by omega
                   have heq := fun W => equal_placeF W (a : Int) (b : Int) 0 0
                   have hde : (decide ((a : Int) = 0) && decide ((b : Int) = 0)) = false := by
                    by_cases h1 : a = 0
                    · by_cases h2 : b = 0
                      · exact absurd ⟨h1, h2⟩ hne
                      · have h9 : ¬ (b : Int) = 0 := by omega
                        rw [decide_eq_false h9, Bool.and_false]
                    · have h9 : ¬ (a : Int) = 0 := by omega
                      rw [decide_eq_false h9, Bool.false_and]
                   rw [hde] at heq
                   have hf1 := fun X (hX : Below wr.heap.size wr X) => implFacts ps 1 A1 HA1.out (.slice (some ⟨gp, op, none⟩) ps.length pc) X hps hpe (readsP_below RPn.out (low_step HBX.out hX))
                   have HS9 : Hid (∀ X, Below wr.heap.size wr X → X.cell? ⟨bP, 0, none⟩ = some (.slice (some ⟨gp, op, none⟩) ps.length pc) ∧ X.cell? ⟨gx, m * 2, none⟩ = some (.int .i64 (a : Int)) ∧ X.cell? ⟨gx, m * 2 + 1, none⟩ = some (.int .i64 (b : Int))) := fun X hX => ⟨cell_step cPr hX, cell_step t0 hX, cell_step t1 hX⟩
                   have hS9 := HS9.out wr (Below.refl _ _)
                   clear hbr t0' t1' hTa hTb hpair hn7 eg hb1' hz' hne hde
                   go_wp2_with fail
                   refine wp_region_held_drew (S := fun X => X.cell? ⟨bP, 0, none⟩ = some (.slice (some ⟨gp, op, none⟩) ps.length pc) ∧ X.cell? ⟨gx, m * 2, none⟩ = some (.int .i64 (a : Int)) ∧ X.cell? ⟨gx, m * 2 + 1, none⟩ = some (.int .i64 (b : Int))) (by kernel_rfl) hS9 (fun hHeld => ?_)
                   refine wpAnyH_take (i := 0) (oi := ?oid0) (v := .agg #[.slice (some ⟨gp, op, none⟩) ps.length pc]) ?hid0 (by kernel_rfl) (by kernel_rfl) (by kernel_rfl) ?hqd0 ?hyd0 hHeld ?hrd0
                   case hid0 =>
                    simp only [gA, gB, gC]
                    rfl
                   case hqd0 => exact fun _ _ _ h => h
                   case hyd0 => exact Or.inl ⟨by kernel_rfl, fun w hSw => by obtain ⟨s0, s1, s2⟩ := hSw; go_simp⟩
                   try simp only [Act.put, gD, gE, gF]
                   refine wpAnyH_take (i := 2) (oi := ?oid2) (v := .slice (some ⟨gx, 0, none⟩) xn xc) ?hid2 (by kernel_rfl) (by kernel_rfl) (by kernel_rfl) ?hqd2 ?hyd2 hHeld ?hrd2
                   case hid2 =>
                    simp only [gA, gB, gC]
                    rfl
                   case hqd2 => exact fun _ _ _ h => h
                   case hyd2 => exact Or.inl ⟨by kernel_rfl, fun w hSw => by go_simp⟩
                   try simp only [Act.put, gD, gE, gF]
                   refine wpAnyH_take (i := 3) (oi := ?oid3) (v := .int .i64 (m : Int)) ?hid3 (by kernel_rfl) (by kernel_rfl) (by kernel_rfl) ?hqd3 ?hyd3 hHeld ?hrd3
                   case hid3 =>
                    simp only [gA, gB, gC]
                    rfl
                   case hqd3 => exact fun _ _ _ h => h
                   case hyd3 => exact Or.inl ⟨by kernel_rfl, fun w hSw => by go_simp⟩
                   try simp only [Act.put, gD, gE, gF]
                   refine wpAnyH_take (i := 4) (oi := ?oid4) (v := .pointer (some ⟨gx, m * 2, none⟩)) ?hid4 (by kernel_rfl) (by kernel_rfl) (by kernel_rfl) ?hqd4 ?hyd4 hHeld ?hrd4
                   case hid4 =>
                    simp only [gA, gB, gC]
                    rfl
                   case hqd4 => exact fun _ _ _ h => h
                   case hyd4 => exact Or.inl ⟨by kernel_rfl, fun w hSw => by go_simp⟩
                   try simp only [Act.put, gD, gE, gF]
                   refine wpAnyH_take (i := 5) (oi := ?oid5) (v := .pointer (some ⟨gx, m * 2, none⟩)) ?hid5 (by kernel_rfl) (by kernel_rfl) (by kernel_rfl) ?hqd5 ?hyd5 hHeld ?hrd5
                   case hid5 =>
                    simp only [gA, gB, gC]
                    rfl
                   case hqd5 => exact fun _ _ _ h => h
                   case hyd5 => exact Or.inl ⟨by kernel_rfl, fun w hSw => by go_simp⟩
                   try simp only [Act.put, gD, gE, gF]
                   refine wpAnyH_take (i := 6) (oi := ?oid6) (v := .int .i64 (a : Int)) ?hid6 (by kernel_rfl) (by kernel_rfl) (by kernel_rfl) ?hqd6 ?hyd6 hHeld ?hrd6
                   case hid6 =>
                    simp only [gA, gB, gC]
                    rfl
                   case hqd6 => exact fun _ _ _ h => h
                   case hyd6 => exact Or.inl ⟨by kernel_rfl, fun w hSw => by obtain ⟨s0, s1, s2⟩ := hSw; go_simp⟩
                   try simp only [Act.put, gD, gE, gF]
                   refine wpAnyH_take (i := 9) (oi := ?oid9) (v := .slice (some ⟨gx, 0, none⟩) xn xc) ?hid9 (by kernel_rfl) (by kernel_rfl) (by kernel_rfl) ?hqd9 ?hyd9 hHeld ?hrd9
                   case hid9 =>
                    simp only [gA, gB, gC]
                    rfl
                   case hqd9 => exact fun _ _ _ h => h
                   case hyd9 => exact Or.inl ⟨by kernel_rfl, fun w hSw => by go_simp⟩
                   try simp only [Act.put, gD, gE, gF]
                   refine wpAnyH_take (i := 10) (oi := ?oid10) (v := .int .i64 (m : Int)) ?hid10 (by kernel_rfl) (by kernel_rfl) (by kernel_rfl) ?hqd10 ?hyd10 hHeld ?hrd10
                   case hid10 =>
                    simp only [gA, gB, gC]
                    rfl
                   case hqd10 => exact fun _ _ _ h => h
                   case hyd10 => exact Or.inl ⟨by kernel_rfl, fun w hSw => by go_simp⟩
                   try simp only [Act.put, gD, gE, gF]
                   refine wpAnyH_take (i := 11) (oi := ?oid11) (v := .pointer (some ⟨gx, m * 2, none⟩)) ?hid11 (by kernel_rfl) (by kernel_rfl) (by kernel_rfl) ?hqd11 ?hyd11 hHeld ?hrd11
                   case hid11 =>
                    simp only [gA, gB, gC]
                    rfl
                   case hqd11 => exact fun _ _ _ h => h
                   case hyd11 => exact Or.inl ⟨by kernel_rfl, fun w hSw => by go_simp⟩
                   try simp only [Act.put, gD, gE, gF]
                   refine wpAnyH_take (i := 12) (oi := ?oid12) (v := .pointer (some ⟨gx, m * 2 + 1, none⟩)) ?hid12 (by kernel_rfl) (by kernel_rfl) (by kernel_rfl) ?hqd12 ?hyd12 hHeld ?hrd12
                   case hid12 =>
                    simp only [gA, gB, gC]
                    rfl
                   case hqd12 => exact fun _ _ _ h => h
                   case hyd12 => exact Or.inl ⟨by kernel_rfl, fun w hSw => by go_simp⟩
                   try simp only [Act.put, gD, gE, gF]
                   refine wpAnyH_take (i := 13) (oi := ?oid13) (v := .int .i64 (b : Int)) ?hid13 (by kernel_rfl) (by kernel_rfl) (by kernel_rfl) ?hqd13 ?hyd13 hHeld ?hrd13
                   case hid13 =>
                    simp only [gA, gB, gC]
                    rfl
                   case hqd13 => exact fun _ _ _ h => h
                   case hyd13 => exact Or.inl ⟨by kernel_rfl, fun w hSw => by obtain ⟨s0, s1, s2⟩ := hSw; go_simp⟩
                   try simp only [Act.put, gD, gE, gF]
                   refine wpAnyH_ready (rs := [1]) (by kernel_rfl) (by simp) ?_
                   refine (AllReadyH.cons (o := ?ood1) ?hod1 (fun K hK => ?hkd1) AllReadyH.nil)
                   case hod1 =>
                    simp only [gA, gB, gC]
                    rfl
                   case hkd1 =>
                    go_simp
                    go_at_call 6
                    refine (hf1 wr.drew (Below.drew (Below.refl _ _))).mono ?_
                    rintro e y1 ⟨gv, gus, rfl, og, _, bq⟩
                    have Y1 : Hid (Below wr.heap.size wr y1) := Below.trans (Below.drew (Below.refl _ _)) bq
                    obtain ⟨ga, gn, gc, rfl⟩ := own_slice og.row
                    obtain rfl := ownSS_len og
                    obtain ⟨gg, hgg⟩ := ownSS_some og (by omega)
                    subst hgg
                    obtain ⟨ug, _, cg, oug⟩ := og.at (j := a) ha1
                    obtain ⟨gua, guc, rfl⟩ := reads_form (reads_own oug)
                    obtain ⟨gu, ou, hgu⟩ := reads_some (reads_own oug) (by omega)
                    subst hgu
                    have cu := reads_cell (reads_own oug) hb1
                    rw [hz] at cu
                    clear bq og oug
                    try go_wp2_with fail
                    refine hK.out _ _ (HS9.out _ Y1.out) (fun hHeld => ?_)
                    clear hK K
                    try simp only [Act.put, gD, gE, gF]
                    refine wpAnyH_take (i := 7) (oi := ?oid7) (v := .pointer (some ⟨gg, a, none⟩)) ?hid7 (by kernel_rfl) (by kernel_rfl) (by kernel_rfl) ?hqd7 ?hyd7 hHeld ?hrd7
                    case hid7 =>
                     simp only [gA, gB, gC]
                     rfl
                    case hqd7 => exact fun _ _ _ h => h
                    case hyd7 => exact Or.inl ⟨by kernel_rfl, fun w hSw => by go_simp⟩
                    try simp only [Act.put, gD, gE, gF]
                    refine wpAnyH_ready (rs := [8]) (by kernel_rfl) (by simp) ?_
                    refine (AllReadyH.cons (o := ?ood8) ?hod8 (fun K hK => ?hkd8) AllReadyH.nil)
                    case hod8 =>
                     simp only [gA, gB, gC]
                     rfl
                    case hkd8 =>
                     go_simp
                     try go_wp2_with fail
                     refine hK.out _ _ (HS9.out _ Y1.out) (fun hHeld => ?_)
                     clear hK K
                     try simp only [Act.put, gD, gE, gF]
                     refine wpAnyH_take (i := 14) (oi := ?oid14) (v := .pointer (some ⟨gu, ou + b, none⟩)) ?hid14 (by kernel_rfl) (by kernel_rfl) (by kernel_rfl) ?hqd14 ?hyd14 hHeld ?hrd14
                     case hid14 =>
                      simp only [gA, gB, gC]
                      rfl
                     case hqd14 => exact fun _ _ _ h => h
                     case hyd14 => exact Or.inl ⟨by kernel_rfl, fun w hSw => by go_simp⟩
                     try simp only [Act.put, gD, gE, gF]
                     refine wpAnyH_ready (rs := [15]) (by kernel_rfl) (by simp) ?_
                     refine (AllReadyH.cons (o := ?ood15) ?hod15 (fun K hK => ?hkd15) AllReadyH.nil)
                     case hod15 =>
                      simp only [gA, gB, gC]
                      rfl
                     case hkd15 =>
                      go_simp
                      try go_wp2_with fail
                      refine hK.out _ _ (HS9.out _ Y1.out) (fun hHeld => ?_)
                      clear hK K
                      try simp only [Act.put, gD, gE, gF]
                      refine wpAnyH_take (i := 16) (oi := ?oid16) (v := .bool false) ?hid16 (by kernel_rfl) (by kernel_rfl) (by kernel_rfl) ?hqd16 ?hyd16 hHeld ?hrd16
                      case hid16 =>
                       simp only [gA, gB, gC]
                       rfl
                      case hqd16 => exact fun _ _ _ h => h
                      case hyd16 => exact Or.inl ⟨by kernel_rfl, fun w hSw => by go_simp⟩
                      try simp only [Act.put, gD, gE, gF]
                      refine wpAnyH_take (i := 17) (oi := ?oid17) (v := .bool false) ?hid17 (by kernel_rfl) (by kernel_rfl) (by kernel_rfl) ?hqd17 ?hyd17 hHeld ?hrd17
                      case hid17 =>
                       simp only [gA, gB, gC]
                       rfl
                      case hqd17 => exact fun _ _ _ h => h
                      case hyd17 => exact Or.inl ⟨by kernel_rfl, fun w hSw => by go_simp⟩
                      try simp only [Act.put, gD, gE, gF]
                      refine wpAnyH_take (i := 18) (oi := ?oid18) (v := .slice (some ⟨gx, 0, none⟩) xn xc) ?hid18 (by kernel_rfl) (by kernel_rfl) (by kernel_rfl) ?hqd18 ?hyd18 hHeld ?hrd18
                      case hid18 =>
                       simp only [gA, gB, gC]
                       rfl
                      case hqd18 => exact fun _ _ _ h => h
                      case hyd18 => exact Or.inl ⟨by kernel_rfl, fun w hSw => by go_simp⟩
                      try simp only [Act.put, gD, gE, gF]
                      refine wpAnyH_take (i := 19) (oi := ?oid19) (v := .int .i64 (m : Int)) ?hid19 (by kernel_rfl) (by kernel_rfl) (by kernel_rfl) ?hqd19 ?hyd19 hHeld ?hrd19
                      case hid19 =>
                       simp only [gA, gB, gC]
                       rfl
                      case hqd19 => exact fun _ _ _ h => h
                      case hyd19 => exact Or.inl ⟨by kernel_rfl, fun w hSw => by go_simp⟩
                      try simp only [Act.put, gD, gE, gF]
                      refine wpAnyH_take (i := 20) (oi := ?oid20) (v := .pointer (some ⟨gx, m * 2, none⟩)) ?hid20 (by kernel_rfl) (by kernel_rfl) (by kernel_rfl) ?hqd20 ?hyd20 hHeld ?hrd20
                      case hid20 =>
                       simp only [gA, gB, gC]
                       rfl
                      case hqd20 => exact fun _ _ _ h => h
                      case hyd20 => exact Or.inl ⟨by kernel_rfl, fun w hSw => by go_simp⟩
                      try simp only [Act.put, gD, gE, gF]
                      refine wpAnyH_take (i := 21) (oi := ?oid21) (v := .agg #[.int .i64 (a : Int), .int .i64 (b : Int)]) ?hid21 (by kernel_rfl) (by kernel_rfl) (by kernel_rfl) ?hqd21 ?hyd21 hHeld ?hrd21
                      case hid21 =>
                       simp only [gA, gB, gC]
                       rfl
                      case hqd21 => exact fun _ _ _ h => h
                      case hyd21 => exact Or.inl ⟨by kernel_rfl, fun w hSw => by obtain ⟨s0, s1, s2⟩ := hSw; go_simp⟩
                      try simp only [Act.put, gD, gE, gF]
                      refine wpAnyH_take (i := 22) (oi := ?oid22) (v := .agg #[.int .i64 0, .int .i64 0]) ?hid22 (by kernel_rfl) (by kernel_rfl) (by kernel_rfl) ?hqd22 ?hyd22 hHeld ?hrd22
                      case hid22 =>
                       simp only [gA, gB, gC]
                       rfl
                      case hqd22 => exact fun _ _ _ h => h
                      case hyd22 => exact Or.inl ⟨by kernel_rfl, fun w hSw => by go_simp⟩
                      try simp only [Act.put, gD, gE, gF]
                      refine wpAnyH_take (i := 23) (oi := ?oid23) (v := .bool false) ?hid23 (by kernel_rfl) (by kernel_rfl) (by kernel_rfl) ?hqd23 ?hyd23 hHeld ?hrd23
                      case hid23 =>
                       simp only [gA, gB, gC]
                       rfl
                      case hqd23 => exact fun _ _ _ h => h
                      case hyd23 => exact Or.inl ⟨by kernel_rfl, fun w hSw => by go_simp⟩
                      try simp only [Act.put, gD, gE, gF]
                      refine wpAnyH_take (i := 24) (oi := ?oid24) (v := .bool false) ?hid24 (by kernel_rfl) (by kernel_rfl) (by kernel_rfl) ?hqd24 ?hyd24 hHeld ?hrd24
                      case hid24 =>
                       simp only [gA, gB, gC]
                       rfl
                      case hqd24 => exact fun _ _ _ h => h
                      case hyd24 => exact Or.inl ⟨by kernel_rfl, fun w hSw => by go_simp⟩
                      try simp only [Act.put, gD, gE, gF]
                      refine wpAnyH_done (by kernel_rfl) ?_ _
                      have BZ : Hid (Below zn.heap.size zn y1) := low_step HBX.out Y1.out
                      clear cg cu
                      go_wp2
                      go_roundw
                      case rel => exact ⟨m + 1, by omega, by go_num, BZ.out⟩
                      case measure => simp [intOf]; omega
                 · obtain rfl : m = xn := by omega
                   have hnm : ¬ (m : Int) < (m : Int) := by omega
                   have HLE : Hid (Below w.heap.size w wr) := low_step LWn.out hbr
                   have RPr : Hid (ReadsP wr (.slice (some ⟨gp, op, none⟩) ps.length pc) ps) := readsP_below RPn.out hbr
                   obtain ⟨ss, hss⟩ : ∃ ss, ps[0]? = some ss := ⟨ps[0], by simp [hps1]⟩
                   obtain ⟨px, cpx, rpx⟩ := readsP_cell RPr.out hss
                   rw [Nat.add_zero] at cpx
                   obtain ⟨pxa, pxc, rfl⟩ := reads3_form rpx
                   obtain ⟨uf, _, cf, ouf⟩ := (OLn.out.below hbr).at (j := 0) (by omega)
                   have HUF0 : Hid (Reads wr uf (ints (A.getD 0 []))) := by
                    show Reads wr uf (ints (A.getD 0 []))
                    have e9 : A.getD 0 [] = A[0]'(by omega) := by
                     have : 0 < A.length := by omega
                     simp [List.getD, this]
                    rw [e9]
                    exact reads_own ouf
                   have hca := fun X (hX : Below wr.heap.size wr X) => specCalls ps 0 (.slice (some ⟨gp, op, none⟩) ps.length pc) X hps hpe (readsP_below RPr.out hX)
                   have hCA12 := callsAns_length ps 0
                   have HSV : Hid (callsAns ps 0 = [] → ∀ S, SolvedAns c ss (startAns c) S → A.getD 0 [] = S) := fun h9 S hS => HFF.out.solved h9 ss hss S hS
                   obtain ⟨CA, hCA⟩ : ∃ x, callsAns ps 0 = x := ⟨_, rfl⟩
                   rw [hCA] at hca hCA12 HSV
                   have HS9 : Hid (∀ X, Below wr.heap.size wr X → X.cell? ⟨bP, 0, none⟩ = some (.slice (some ⟨gp, op, none⟩) ps.length pc) ∧ X.cell? ⟨gf, 0, none⟩ = some uf ∧ X.cell? ⟨gp, op, none⟩ = some (.slice pxa ss.length pxc)) := fun X hX => ⟨cell_step cPr hX, cell_step cf hX, cell_step cpx hX⟩
                   have hS9 := HS9.out wr (Below.refl _ _)
                   have hp0 : (0 : Int) < (A.length : Int) := by omega
                   have hpp0 : (0 : Int) < (ps.length : Int) := by omega
                   have RX0 : Hid (Reads3 wr (.slice pxa ss.length pxc) ss) := rpx
                   have hssm : ss.length ≤ maxLen := hpe ss (List.mem_of_getElem? hss)
                   clear hbr hCA ouf rpx
                   by_cases hc0 : CA.length = 0
                   · have hc0' : ¬ (0 : Int) < (CA.length : Int) := by omega
                     obtain ⟨S, hS⟩ := solvedAns_some c ss (startAns c)
                     have hSl := solvedAns_length hS
                     have hSm : S.length ≤ maxLen := by unfold maxLen; omega
                     have eS := HSV.out (List.eq_nil_of_length_eq_zero hc0) S hS
                     rw [eS] at HUF0
                     have HUF : Hid (Reads wr uf (ints S)) := HUF0
                     have hst := fun X (hX : Below wr.heap.size wr X) => implStart c X
                     have hso := fun X (hX : Below wr.heap.size wr X) => implSolved ss c (startAns c) S hS (.slice pxa ss.length pxc) X hssm (reads3_below RX0.out hX)
                     clear eS hS HSV
                     go_wp2_with fail
                     refine wp_region_held_drew (S := fun X => X.cell? ⟨bP, 0, none⟩ = some (.slice (some ⟨gp, op, none⟩) ps.length pc) ∧ X.cell? ⟨gf, 0, none⟩ = some (uf) ∧ X.cell? ⟨gp, op, none⟩ = some (.slice pxa ss.length pxc)) (by kernel_rfl) hS9 (fun hHeld => ?_)
                     refine wpAnyH_take (i := 0) (oi := ?oie0) (v := .agg #[.slice (some ⟨gp, op, none⟩) ps.length pc]) ?hie0 (by kernel_rfl) (by kernel_rfl) (by kernel_rfl) ?hqe0 ?hye0 hHeld ?hre0
                     case hie0 =>
                      simp only [gA, gB, gC]
                      rfl
                     case hqe0 => exact fun _ _ _ h => h
                     case hye0 => exact Or.inl ⟨by kernel_rfl, fun w hSw => by obtain ⟨s0, s1, s2⟩ := hSw; go_simp⟩
                     try simp only [Act.put, gD, gE, gF]
                     refine wpAnyH_ready (rs := [1]) (by kernel_rfl) (by simp) ?_
                     refine (AllReadyH.cons (o := ?ooe1) ?hoe1 (fun K hK => ?hke1) AllReadyH.nil)
                     case hoe1 =>
                      simp only [gA, gB, gC]
                      rfl
                     case hke1 =>
                      go_simp
                      go_at_call 19
                      refine (hca wr.drew (Below.drew (Below.refl _ _))).mono ?_
                      rintro e y1 ⟨cv, rfl, oc, bq⟩
                      have Y1 : Hid (Below wr.heap.size wr y1) := Below.trans (Below.drew (Below.refl _ _)) bq
                      obtain ⟨cva, cvc, rfl⟩ := reads_form (reads_own oc)
                      clear bq oc
                      try go_wp2_with fail
                      refine hK.out _ _ (HS9.out _ Y1.out) (fun hHeld => ?_)
                      clear hK K
                      try simp only [Act.put, gD, gE, gF]
                      refine wpAnyH_take (i := 2) (oi := ?oie2) (v := .int .i64 (CA.length : Int)) ?hie2 (by kernel_rfl) (by kernel_rfl) (by kernel_rfl) ?hqe2 ?hye2 hHeld ?hre2
                      case hie2 =>
                       simp only [gA, gB, gC]
                       rfl
                      case hqe2 => exact fun _ _ _ h => h
                      case hye2 => exact Or.inl ⟨by kernel_rfl, fun w hSw => by go_simp⟩
                      try simp only [Act.put, gD, gE, gF]
                      refine wpAnyH_take (i := 3) (oi := ?oie3) (v := .bool false) ?hie3 (by kernel_rfl) (by kernel_rfl) (by kernel_rfl) ?hqe3 ?hye3 hHeld ?hre3
                      case hie3 =>
                       simp only [gA, gB, gC]
                       rfl
                      case hqe3 => exact fun _ _ _ h => h
                      case hye3 => exact Or.inl ⟨by kernel_rfl, fun w hSw => by go_simp; (try omega)⟩
                      try simp only [Act.put, gD, gE, gF]
                      refine wpAnyH_take (i := 4) (oi := ?oie4) (v := .bool false) ?hie4 (by kernel_rfl) (by kernel_rfl) (by kernel_rfl) ?hqe4 ?hye4 hHeld ?hre4
                      case hie4 =>
                       simp only [gA, gB, gC]
                       rfl
                      case hqe4 => exact fun _ _ _ h => h
                      case hye4 => exact Or.inl ⟨by kernel_rfl, fun w hSw => by go_simp⟩
                      try simp only [Act.put, gD, gE, gF]
                      refine wpAnyH_take (i := 5) (oi := ?oie5) (v := .slice (some ⟨gf, 0, none⟩) A.length fc) ?hie5 (by kernel_rfl) (by kernel_rfl) (by kernel_rfl) ?hqe5 ?hye5 hHeld ?hre5
                      case hie5 =>
                       simp only [gA, gB, gC]
                       rfl
                      case hqe5 => exact fun _ _ _ h => h
                      case hye5 => exact Or.inl ⟨by kernel_rfl, fun w hSw => by go_simp⟩
                      try simp only [Act.put, gD, gE, gF]
                      refine wpAnyH_take (i := 6) (oi := ?oie6) (v := .pointer (some ⟨gf, 0, none⟩)) ?hie6 (by kernel_rfl) (by kernel_rfl) (by kernel_rfl) ?hqe6 ?hye6 hHeld ?hre6
                      case hie6 =>
                       simp only [gA, gB, gC]
                       rfl
                      case hqe6 => exact fun _ _ _ h => h
                      case hye6 => exact Or.inl ⟨by kernel_rfl, fun w hSw => by go_simp⟩
                      try simp only [Act.put, gD, gE, gF]
                      refine wpAnyH_take (i := 7) (oi := ?oie7) (v := uf) ?hie7 (by kernel_rfl) (by kernel_rfl) (by kernel_rfl) ?hqe7 ?hye7 hHeld ?hre7
                      case hie7 =>
                       simp only [gA, gB, gC]
                       rfl
                      case hqe7 => exact fun _ _ _ h => h
                      case hye7 => exact Or.inl ⟨by kernel_rfl, fun w hSw => by obtain ⟨s0, s1, s2⟩ := hSw; go_simp⟩
                      try simp only [Act.put, gD, gE, gF]
                      refine wpAnyH_take (i := 8) (oi := ?oie8) (v := .pointer (some ⟨bP, 0, none⟩)) ?hie8 (by kernel_rfl) (by kernel_rfl) (by kernel_rfl) ?hqe8 ?hye8 hHeld ?hre8
                      case hie8 =>
                       simp only [gA, gB, gC]
                       rfl
                      case hqe8 => exact fun _ _ _ h => h
                      case hye8 => exact Or.inl ⟨by kernel_rfl, fun w hSw => by go_simp⟩
                      try simp only [Act.put, gD, gE, gF]
                      refine wpAnyH_take (i := 9) (oi := ?oie9) (v := .slice (some ⟨gp, op, none⟩) ps.length pc) ?hie9 (by kernel_rfl) (by kernel_rfl) (by kernel_rfl) ?hqe9 ?hye9 hHeld ?hre9
                      case hie9 =>
                       simp only [gA, gB, gC]
                       rfl
                      case hqe9 => exact fun _ _ _ h => h
                      case hye9 => exact Or.inl ⟨by kernel_rfl, fun w hSw => by obtain ⟨s0, s1, s2⟩ := hSw; go_simp⟩
                      try simp only [Act.put, gD, gE, gF]
                      refine wpAnyH_take (i := 10) (oi := ?oie10) (v := .pointer (some ⟨gp, op, none⟩)) ?hie10 (by kernel_rfl) (by kernel_rfl) (by kernel_rfl) ?hqe10 ?hye10 hHeld ?hre10
                      case hie10 =>
                       simp only [gA, gB, gC]
                       rfl
                      case hqe10 => exact fun _ _ _ h => h
                      case hye10 => exact Or.inl ⟨by kernel_rfl, fun w hSw => by go_simp⟩
                      try simp only [Act.put, gD, gE, gF]
                      refine wpAnyH_take (i := 11) (oi := ?oie11) (v := .agg #[.slice pxa ss.length pxc]) ?hie11 (by kernel_rfl) (by kernel_rfl) (by kernel_rfl) ?hqe11 ?hye11 hHeld ?hre11
                      case hie11 =>
                       simp only [gA, gB, gC]
                       rfl
                      case hqe11 => exact fun _ _ _ h => h
                      case hye11 => exact Or.inl ⟨by kernel_rfl, fun w hSw => by obtain ⟨s0, s1, s2⟩ := hSw; go_simp⟩
                      try simp only [Act.put, gD, gE, gF]
                      refine wpAnyH_take (i := 12) (oi := ?oie12) (v := .int .i64 c) ?hie12 (by kernel_rfl) (by kernel_rfl) (by kernel_rfl) ?hqe12 ?hye12 hHeld ?hre12
                      case hie12 =>
                       simp only [gA, gB, gC]
                       rfl
                      case hqe12 => exact fun _ _ _ h => h
                      case hye12 => exact Or.inl ⟨by kernel_rfl, fun w hSw => by go_simp⟩
                      try simp only [Act.put, gD, gE, gF]
                      refine wpAnyH_take (i := 13) (oi := ?oie13) (v := .int .i64 c) ?hie13 (by kernel_rfl) (by kernel_rfl) (by kernel_rfl) ?hqe13 ?hye13 hHeld ?hre13
                      case hie13 =>
                       simp only [gA, gB, gC]
                       rfl
                      case hqe13 => exact fun _ _ _ h => h
                      case hye13 => exact Or.inl ⟨by kernel_rfl, fun w hSw => by go_simp⟩
                      try simp only [Act.put, gD, gE, gF]
                      refine wpAnyH_ready (rs := [14]) (by kernel_rfl) (by simp) ?_
                      refine (AllReadyH.cons (o := ?ooe14) ?hoe14 (fun K hK => ?hke14) AllReadyH.nil)
                      case hoe14 =>
                       simp only [gA, gB, gC]
                       rfl
                      case hke14 =>
                       go_simp
                       go_at_call 21
                       refine (hst y1 Y1.out).mono ?_
                       rintro e y2 ⟨rfl, bq⟩
                       have Y2 : Hid (Below wr.heap.size wr y2) := low_step Y1.out bq
                       clear bq 
                       try go_wp2_with fail
                       refine hK.out _ _ (HS9.out _ Y2.out) (fun hHeld => ?_)
                       clear hK K
                       try simp only [Act.put, gD, gE, gF]
                       refine wpAnyH_ready (rs := [15]) (by kernel_rfl) (by simp) ?_
                       refine (AllReadyH.cons (o := ?ooe15) ?hoe15 (fun K hK => ?hke15) AllReadyH.nil)
                       case hoe15 =>
                        simp only [gA, gB, gC]
                        rfl
                       case hke15 =>
                        go_simp
                        go_at_call 20
                        refine (hso y2 Y2.out).mono ?_
                        rintro e y3 ⟨sv, rfl, os1, bq⟩
                        have Y3 : Hid (Below wr.heap.size wr y3) := low_step Y2.out bq
                        have RS : Hid (Reads y3 sv (ints S)) := reads_own os1
                        clear bq os1
                        try go_wp2_with fail
                        refine hK.out _ _ (HS9.out _ Y3.out) (fun hHeld => ?_)
                        clear hK K
                        try simp only [Act.put, gD, gE, gF]
                        refine wpAnyH_ready (rs := [16]) (by kernel_rfl) (by simp) ?_
                        refine (AllReadyH.cons (o := ?ooe16) ?hoe16 (fun K hK => ?hke16) AllReadyH.nil)
                        case hoe16 =>
                         simp only [gA, gB, gC]
                         rfl
                        case hke16 =>
                         go_simp
                         go_at_call 15
                         refine (likeInts S uf sv y3 hSm (reads_below HUF.out Y3.out) RS.out).mono ?_
                         rintro e y4 ⟨rfl, bq⟩
                         have Y4 : Hid (Below wr.heap.size wr y4) := low_step Y3.out bq
                         clear bq RS
                         try go_wp2_with fail
                         refine hK.out _ _ (HS9.out _ Y4.out) (fun hHeld => ?_)
                         clear hK K
                         try simp only [Act.put, gD, gE, gF]
                         refine wpAnyH_take (i := 17) (oi := ?oie17) (v := .bool true) ?hie17 (by kernel_rfl) (by kernel_rfl) (by kernel_rfl) ?hqe17 ?hye17 hHeld ?hre17
                         case hie17 =>
                          simp only [gA, gB, gC]
                          rfl
                         case hqe17 => exact fun _ _ _ h => h
                         case hye17 => exact Or.inl ⟨by kernel_rfl, fun w hSw => by go_simp⟩
                         try simp only [Act.put, gD, gE, gF]
                         refine wpAnyH_take (i := 18) (oi := ?oie18) (v := .bool true) ?hie18 (by kernel_rfl) (by kernel_rfl) (by kernel_rfl) ?hqe18 ?hye18 hHeld ?hre18
                         case hie18 =>
                          simp only [gA, gB, gC]
                          rfl
                         case hqe18 => exact fun _ _ _ h => h
                         case hye18 => exact Or.inl ⟨by kernel_rfl, fun w hSw => by go_simp⟩
                         try simp only [Act.put, gD, gE, gF]
                         refine wpAnyH_done (by kernel_rfl) ?_ _
                         go_wp2
                         go_ret
                         exact ⟨rfl, low_step HLE.out Y4.out⟩
                   · have hc0' : (0 : Int) < (CA.length : Int) := by omega
                     go_wp2_with fail
                     refine wp_region_held_drew (S := fun X => X.cell? ⟨bP, 0, none⟩ = some (.slice (some ⟨gp, op, none⟩) ps.length pc) ∧ X.cell? ⟨gf, 0, none⟩ = some (uf) ∧ X.cell? ⟨gp, op, none⟩ = some (.slice pxa ss.length pxc)) (by kernel_rfl) hS9 (fun hHeld => ?_)
                     refine wpAnyH_take (i := 0) (oi := ?oif0) (v := .agg #[.slice (some ⟨gp, op, none⟩) ps.length pc]) ?hif0 (by kernel_rfl) (by kernel_rfl) (by kernel_rfl) ?hqf0 ?hyf0 hHeld ?hrf0
                     case hif0 =>
                      simp only [gA, gB, gC]
                      rfl
                     case hqf0 => exact fun _ _ _ h => h
                     case hyf0 => exact Or.inl ⟨by kernel_rfl, fun w hSw => by obtain ⟨s0, s1, s2⟩ := hSw; go_simp⟩
                     try simp only [Act.put, gD, gE, gF]
                     refine wpAnyH_ready (rs := [1]) (by kernel_rfl) (by simp) ?_
                     refine (AllReadyH.cons (o := ?oof1) ?hof1 (fun K hK => ?hkf1) AllReadyH.nil)
                     case hof1 =>
                      simp only [gA, gB, gC]
                      rfl
                     case hkf1 =>
                      go_simp
                      go_at_call 19
                      refine (hca wr.drew (Below.drew (Below.refl _ _))).mono ?_
                      rintro e y1 ⟨cv, rfl, oc, bq⟩
                      have Y1 : Hid (Below wr.heap.size wr y1) := Below.trans (Below.drew (Below.refl _ _)) bq
                      obtain ⟨cva, cvc, rfl⟩ := reads_form (reads_own oc)
                      clear bq oc
                      try go_wp2_with fail
                      refine hK.out _ _ (HS9.out _ Y1.out) (fun hHeld => ?_)
                      clear hK K
                      try simp only [Act.put, gD, gE, gF]
                      refine wpAnyH_take (i := 2) (oi := ?oif2) (v := .int .i64 (CA.length : Int)) ?hif2 (by kernel_rfl) (by kernel_rfl) (by kernel_rfl) ?hqf2 ?hyf2 hHeld ?hrf2
                      case hif2 =>
                       simp only [gA, gB, gC]
                       rfl
                      case hqf2 => exact fun _ _ _ h => h
                      case hyf2 => exact Or.inl ⟨by kernel_rfl, fun w hSw => by go_simp⟩
                      try simp only [Act.put, gD, gE, gF]
                      refine wpAnyH_take (i := 3) (oi := ?oif3) (v := .bool true) ?hif3 (by kernel_rfl) (by kernel_rfl) (by kernel_rfl) ?hqf3 ?hyf3 hHeld ?hrf3
                      case hif3 =>
                       simp only [gA, gB, gC]
                       rfl
                      case hqf3 => exact fun _ _ _ h => h
                      case hyf3 => exact Or.inl ⟨by kernel_rfl, fun w hSw => by go_simp; (try omega)⟩
                      try simp only [Act.put, gD, gE, gF]
                      refine wpAnyH_take (i := 4) (oi := ?oif4) (v := .bool true) ?hif4 (by kernel_rfl) (by kernel_rfl) (by kernel_rfl) ?hqf4 ?hyf4 hHeld ?hrf4
                      case hif4 =>
                       simp only [gA, gB, gC]
                       rfl
                      case hqf4 => exact fun _ _ _ h => h
                      case hyf4 => exact Or.inl ⟨by kernel_rfl, fun w hSw => by go_simp⟩
                      try simp only [Act.put, gD, gE, gF]
                      refine wpAnyH_take (i := 5) (oi := ?oif5) (v := undef) ?hif5 (by kernel_rfl) (by kernel_rfl) (by kernel_rfl) ?hqf5 ?hyf5 hHeld ?hrf5
                      case hif5 =>
                       simp only [gA, gB, gC]
                       rfl
                      case hqf5 => exact fun _ _ _ h => h
                      case hyf5 => exact Or.inr ⟨by kernel_rfl, rfl⟩
                      try simp only [Act.put, gD, gE, gF]
                      refine wpAnyH_take (i := 6) (oi := ?oif6) (v := undef) ?hif6 (by kernel_rfl) (by kernel_rfl) (by kernel_rfl) ?hqf6 ?hyf6 hHeld ?hrf6
                      case hif6 =>
                       simp only [gA, gB, gC]
                       rfl
                      case hqf6 => exact fun _ _ _ h => h
                      case hyf6 => exact Or.inr ⟨by kernel_rfl, rfl⟩
                      try simp only [Act.put, gD, gE, gF]
                      refine wpAnyH_take (i := 7) (oi := ?oif7) (v := undef) ?hif7 (by kernel_rfl) (by kernel_rfl) (by kernel_rfl) ?hqf7 ?hyf7 hHeld ?hrf7
                      case hif7 =>
                       simp only [gA, gB, gC]
                       rfl
                      case hqf7 => exact fun _ _ _ h => h
                      case hyf7 => exact Or.inr ⟨by kernel_rfl, rfl⟩
                      try simp only [Act.put, gD, gE, gF]
                      refine wpAnyH_take (i := 8) (oi := ?oif8) (v := undef) ?hif8 (by kernel_rfl) (by kernel_rfl) (by kernel_rfl) ?hqf8 ?hyf8 hHeld ?hrf8
                      case hif8 =>
                       simp only [gA, gB, gC]
                       rfl
                      case hqf8 => exact fun _ _ _ h => h
                      case hyf8 => exact Or.inr ⟨by kernel_rfl, rfl⟩
                      try simp only [Act.put, gD, gE, gF]
                      refine wpAnyH_take (i := 9) (oi := ?oif9) (v := undef) ?hif9 (by kernel_rfl) (by kernel_rfl) (by kernel_rfl) ?hqf9 ?hyf9 hHeld ?hrf9
                      case hif9 =>
                       simp only [gA, gB, gC]
                       rfl
                      case hqf9 => exact fun _ _ _ h => h
                      case hyf9 => exact Or.inr ⟨by kernel_rfl, rfl⟩
                      try simp only [Act.put, gD, gE, gF]
                      refine wpAnyH_take (i := 10) (oi := ?oif10) (v := undef) ?hif10 (by kernel_rfl) (by kernel_rfl) (by kernel_rfl) ?hqf10 ?hyf10 hHeld ?hrf10
                      case hif10 =>
                       simp only [gA, gB, gC]
                       rfl
                      case hqf10 => exact fun _ _ _ h => h
                      case hyf10 => exact Or.inr ⟨by kernel_rfl, rfl⟩
                      try simp only [Act.put, gD, gE, gF]
                      refine wpAnyH_take (i := 11) (oi := ?oif11) (v := undef) ?hif11 (by kernel_rfl) (by kernel_rfl) (by kernel_rfl) ?hqf11 ?hyf11 hHeld ?hrf11
                      case hif11 =>
                       simp only [gA, gB, gC]
                       rfl
                      case hqf11 => exact fun _ _ _ h => h
                      case hyf11 => exact Or.inr ⟨by kernel_rfl, rfl⟩
                      try simp only [Act.put, gD, gE, gF]
                      refine wpAnyH_take (i := 12) (oi := ?oif12) (v := undef) ?hif12 (by kernel_rfl) (by kernel_rfl) (by kernel_rfl) ?hqf12 ?hyf12 hHeld ?hrf12
                      case hif12 =>
                       simp only [gA, gB, gC]
                       rfl
                      case hqf12 => exact fun _ _ _ h => h
                      case hyf12 => exact Or.inr ⟨by kernel_rfl, rfl⟩
                      try simp only [Act.put, gD, gE, gF]
                      refine wpAnyH_take (i := 13) (oi := ?oif13) (v := undef) ?hif13 (by kernel_rfl) (by kernel_rfl) (by kernel_rfl) ?hqf13 ?hyf13 hHeld ?hrf13
                      case hif13 =>
                       simp only [gA, gB, gC]
                       rfl
                      case hqf13 => exact fun _ _ _ h => h
                      case hyf13 => exact Or.inr ⟨by kernel_rfl, rfl⟩
                      try simp only [Act.put, gD, gE, gF]
                      refine wpAnyH_take (i := 14) (oi := ?oif14) (v := undef) ?hif14 (by kernel_rfl) (by kernel_rfl) (by kernel_rfl) ?hqf14 ?hyf14 hHeld ?hrf14
                      case hif14 =>
                       simp only [gA, gB, gC]
                       rfl
                      case hqf14 => exact fun _ _ _ h => h
                      case hyf14 => exact Or.inr ⟨by kernel_rfl, rfl⟩
                      try simp only [Act.put, gD, gE, gF]
                      refine wpAnyH_take (i := 15) (oi := ?oif15) (v := undef) ?hif15 (by kernel_rfl) (by kernel_rfl) (by kernel_rfl) ?hqf15 ?hyf15 hHeld ?hrf15
                      case hif15 =>
                       simp only [gA, gB, gC]
                       rfl
                      case hqf15 => exact fun _ _ _ h => h
                      case hyf15 => exact Or.inr ⟨by kernel_rfl, rfl⟩
                      try simp only [Act.put, gD, gE, gF]
                      refine wpAnyH_take (i := 16) (oi := ?oif16) (v := undef) ?hif16 (by kernel_rfl) (by kernel_rfl) (by kernel_rfl) ?hqf16 ?hyf16 hHeld ?hrf16
                      case hif16 =>
                       simp only [gA, gB, gC]
                       rfl
                      case hqf16 => exact fun _ _ _ h => h
                      case hyf16 => exact Or.inr ⟨by kernel_rfl, rfl⟩
                      try simp only [Act.put, gD, gE, gF]
                      refine wpAnyH_take (i := 17) (oi := ?oif17) (v := .bool true) ?hif17 (by kernel_rfl) (by kernel_rfl) (by kernel_rfl) ?hqf17 ?hyf17 hHeld ?hrf17
                      case hif17 =>
                       simp only [gA, gB, gC]
                       rfl
                      case hqf17 => exact fun _ _ _ h => h
                      case hyf17 => exact Or.inl ⟨by kernel_rfl, fun w hSw => by go_simp⟩
                      try simp only [Act.put, gD, gE, gF]
                      refine wpAnyH_take (i := 18) (oi := ?oif18) (v := .bool true) ?hif18 (by kernel_rfl) (by kernel_rfl) (by kernel_rfl) ?hqf18 ?hyf18 hHeld ?hrf18
                      case hif18 =>
                       simp only [gA, gB, gC]
                       rfl
                      case hqf18 => exact fun _ _ _ h => h
                      case hyf18 => exact Or.inl ⟨by kernel_rfl, fun w hSw => by go_simp⟩
                      try simp only [Act.put, gD, gE, gF]
                      refine wpAnyH_done (by kernel_rfl) ?_ _
                      go_wp2
                      go_ret
                      exact ⟨rfl, low_step HLE.out Y1.out⟩
set_option maxRecDepth 100000 in
theorem liftedFnFacts (os : Os) (started : os.Started) (H : Type) (enc : TypeId × Value → H) :
 ReturnsInHanded {} Tryz.checked os 3 .any (Rows.fnFactsSpec.pre6 enc Tryz.prog Tryz.f3 Rows.fnFactsRow.domain false) (Rows.fnFactsSpec.post enc Tryz.prog Tryz.f3 false true false false) := by
 refine returnsInHanded_of_change (C := Tryz.checked) own started (by kernel_rfl) Tryz.func3
  (ChangeSpec.witness6 (enc := enc) (C := Tryz.checked) false ⟨#[], #[.slice none 0 0], []⟩ 8 (by kernel_rfl) (by kernel_rfl) (by kernel_rfl) (by kernel_rfl)) ?_
 intro W base args ds gs before hval0 hW hcnd _
 have hval : ∀ (j : Nat) t v, Tryz.f3.params[j]? = some t → args[j]? = some v → Value.okWide Tryz.prog W .any base t v := hval0
 have hW' := hW
 obtain ⟨p, q, hA0, hV, rfl, hfz, hnd⟩ := hW
 have hA : DataW.TrodAll enc Tryz.prog W 0 (fun _ => true) true Tryz.f3.params.toList args.toList ds p := hA0
 rw [Tryz.params3] at hA hval
 obtain ⟨v0, vs0, d0, ds0, p0, q0, hargs, rfl, rfl, h0, r0⟩ := trodAll_cons hA
 obtain ⟨rfl, rfl, rfl⟩ := trodAll_nil r0
 obtain rfl : args = #[v0] := by cases args; simp_all
 obtain ⟨rfl, rfl⟩ := trodVars_none hV
 obtain ⟨bs, hr, hl, hs⟩ := open_code Tryz.underlying22 Tryz.underlying5 cellsByte (hval 0 22 v0 rfl rfl) h0
 refine (walkFnFacts bs v0 W hl hr).mono fun e W' ⟨he, hb⟩ => ?_
 subst he
 refine ⟨_, rfl, law_post (tb := 4) laidOut ?_ hW' rfl Tryz.underlying4 rfl rfl hb⟩
 exact all_readable (P := Tryz.prog) (by kernel_rfl)
theorem overFnFacts : Rows.fnFactsRow.holds Tryz.pinned (OpenSpec.ofChange Rows.fnFactsSpec) :=
 OpenClaim.holds_of_wide 3 Tryz.f3 rfl rfl rfl rfl rfl rfl rfl ⟨rfl, rfl, rfl, rfl, rfl⟩ rfl rfl rfl rfl rfl (by kernel_rfl) Tryz.func3 (by kernel_rfl)
  (of_decide_eq_true (by kernel_rfl)) (by unfold Func.isWrapper; first | (rw [if_pos (by decide +kernel)]; kernel_rfl) | (rw [if_neg (by decide +kernel)]; exact ⟨rfl, rfl⟩))
  (fun os started H enc _ => liftedFnFacts os started H enc)
theorem fnFactsHolds : Rows.FnFactsSaid :=
 overFnFacts
#print axioms fnFactsHolds
end Go.Proofs.YtdkdhjhhbkcciaaGreat
