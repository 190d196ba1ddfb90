/-
 The law FnFacts.
-/
import Derived.Test.YtdkdhjhhbkcciaaGreatG39DrawAsked
import Derived.Test.YtdkdhjhhbkcciaaGreatImplFacts
import Derived.Test.YtdkdhjhhbkcciaaGreatImplEnt
import Derived.Test.YtdkdhjhhbkcciaaGreatImplPl
import Derived.Test.YtdkdhjhhbkcciaaGreatSpecTest
import Derived.Test.YtdkdhjhhbkcciaaGreatImplSolved
import Derived.Test.YtdkdhjhhbkcciaaGreatG52FnKit
import Derived.BigRegion
namespace Go.Proofs.YtdkdhjhhbkcciaaGreat
open Go.ChangeShapes Go.WideShapes Go.ChangeAt Go.RowKit
set_option linter.unusedVariables false
set_option linter.unusedSimpArgs false
set_option maxHeartbeats 8000000
set_option maxRecDepth 20000
theorem equal_placeF (w : World) (a b x y : Int) : (Op.equalIn 10000 48 (.agg #[.int .i64 a, .int .i64 b]) (.agg #[.int .i64 x, .int .i64 y])).run Tryz.prog w = .ok (decide (a = x) && decide (b = y)) w := by
 have u3 := Tryz.underlying2
 have hS : Tryz.prog.underlying 48 = some (.struct (Tryz.prog.fieldsOf 48)) := by kernel_rfl
 rw [show (10000 : Nat) = 9999 + 1 from rfl, run_equalIn_struct w 9999 48 _ _ hS (by kernel_rfl)]
 simp only [Program.fieldsOf, Tryz.underlying48]
 go_simp
 by_cases h1 : a = x <;> by_cases h2 : b = y <;> simp [h1, h2]
theorem pl_cells {w : World} {base g n cap : Nat} {X : List Int} (h : w.ownsRow base 48 2 (.slice (some ⟨g, 0, none⟩) n cap) n (ints X)) (hX : X.length = 2 * n) {m : Nat} (hm : m < n) :
 w.cell? ⟨g, m * 2, none⟩ = some (.int .i64 (X.getD (2 * m) 0)) ∧ w.cell? ⟨g, m * 2 + 1, none⟩ = some (.int .i64 (X.getD (2 * m + 1) 0)) := by
 have e : 2 * m = m * 2 := by omega
 have h1 : m * 2 < X.length := by omega
 have h2 : m * 2 + 1 < X.length := by omega
 rw [e]
 constructor
 · rw [h.cellAt (m * 2) (by omega)]
   simp [ints, List.getD, h1]
 · rw [h.cellAt (m * 2 + 1) (by omega)]
   simp [ints, List.getD, h2]
theorem pl_some {w : World} {base n c : Nat} {a : Option Addr} {X : List Int} (h : w.ownsRow base 48 2 (.slice a n c) n (ints X)) (h0 : 0 < n) : ∃ g, a = some ⟨g, 0, none⟩ := by
 rcases h.2 with ⟨e, h8⟩ | ⟨g, cap, cur, e, _⟩
 · omega
 · injection e with e1; exact ⟨g, e1⟩
theorem walkFnFacts (bs : List Int) (v : Value) (w : World) (hl : bs.length ≤ maxLen) (hv : jf2 w v (bs.map (Value.int .u8))) :
 Calls Tryz.prog 3 #[v] w fun e w' => e = .returned (.bool true) ∧ Below w.heap.size w w' := by
 have hbig := lawBig bs v w hl hv
 by_cases hb : (4096 : Int) < (bs.length : Int)
 · rw [decide_eq_true hb] at hbig
   go_enter Tryz.func3, Tryz.ntmps3
   go_wp2_with (go_at_call 4; refine hbig.mono ?_; rintro e w1 ⟨rfl, rfl⟩)
   go_ret
   exact ⟨rfl, Below.refl _ _⟩
 rw [decide_eq_false hb] at hbig
 go_enter Tryz.func3, Tryz.ntmps3
 go_wp2_with fail
 go_at_call 4
 refine hbig.mono ?_
 rintro e w1 ⟨rfl, rfl⟩
 clear hbig
 go_wp2_with fail
 go_at_call 5
 refine (drawFacts bs v w (by omega) hv).mono ?_
 rintro r w1 ⟨up, Lp, c, rfl, hp5, hp14, prp, b1⟩
 obtain ⟨ps, rp, hpL⟩ := prp.reads
 obtain ⟨hps, hpe⟩ := qc7 hpL hp5 hp14
 obtain ⟨pa, pn, pc, rfl⟩ := prp.slice
 obtain rfl := qg7 rp
 obtain ⟨A, T, EN, A1, X1, hA, hT, hEN, hA1, hX1, hN, hF⟩ := facts_asked ps c
 obtain ⟨hAl, hAx⟩ := factA_len hA
 obtain ⟨hA1l, hA1x⟩ := factA_len hA1
 obtain ⟨nT, hTl, hT1000⟩ := plA_lenF hT
 obtain ⟨nX, hXl, hX1000⟩ := plA_lenF hX1
 have hENl := entA_len hEN
 have HN : Hid (A.length = 0 → T.length = 0 ∧ EN.length = 0) := hN
 have HF : Hid (0 < A.length → FactF ps c A T A1 X1) := hF
 have HA : Hid (qb8 ps c A) := hA
 have HA1 : Hid (qb8 ps 1 A1) := hA1
 have HT : Hid (PlA ps c jh0 T) := hT
 have HX1 : Hid (PlA ps 1 nowF X1) := hX1
 have HEN : Hid (EntA ps c EN) := hEN
 have HTL : Hid (T.length = 2 * nT) := hTl
 have HXL : Hid (X1.length = 2 * nX) := hXl
 have hAm : A.length ≤ maxLen := by unfold maxLen; omega
 have hAxm : ∀ xs ∈ A, xs.length ≤ maxLen := fun xs hx => by have := hAx xs hx; unfold maxLen; omega
 have hENm : EN.length ≤ maxLen := by unfold maxLen; omega
 clear hA hT hEN hA1 hX1 hN hF hTl hXl
 have RV : Hid (jf2 w1 v (bs.map (Value.int .u8))) := jb9 hv b1
 have LW : Hid (Below w.heap.size w w1) := b1
 have RP : Hid (jc5 w1 (.slice pa ps.length pc) ps) := rp
 clear prp rp b1 hpL hp5 hp14
 obtain ⟨w2, hAw2⟩ : ∃ W, w1.alloc (.cells #[.slice pa ps.length pc] 26) = W := ⟨_, rfl⟩
 have bb : Below w1.heap.size w1 w2 := by rw [← hAw2]; go_grown
 obtain ⟨bP, hBw2⟩ : ∃ n, w1.heap.size = n := ⟨_, rfl⟩
 have Pn : Hid (w2.heap[bP]? = some (.cells #[.slice pa ps.length pc] 26 (0, 0))) := by
  show w2.heap[bP]? = _
  rw [← hAw2, ← hBw2]; exact heap_alloc_new w1 _
 have RVx : Hid (jf2 w2 v (bs.map (Value.int .u8))) := jb9 RV.out bb
 have LWx : Hid (Below w.heap.size w w2) := jd5 LW.out bb
 have RPx : Hid (jc5 w2 (.slice pa ps.length pc) ps) := ja0 RP.out bb
 clear RV LW RP
 have RV : Hid (jf2 w2 v (bs.map (Value.int .u8))) := RVx.out
 have LW : Hid (Below w.heap.size w w2) := LWx.out
 have RP : Hid (jc5 w2 (.slice pa ps.length pc) ps) := RPx.out
 clear RVx LWx RPx
 clear bb
 have P : Hid (w2.heap[bP]? = some (.cells #[.slice pa ps.length pc] 26 (0, 0))) := Pn.out
 clear Pn
 obtain ⟨cP, -⟩ := ja6 P.out
 have hcall := implFacts ps c A HA.out (.slice pa ps.length pc) w2 hps hpe RP.out
 go_wp2_with fail
 go_at_call 6
 clear hAw2 hBw2
 refine hcall.mono ?_
 rintro r w3 ⟨fv, fus, rfl, of9, _, bc⟩
 clear hcall cP
 have RVx : Hid (jf2 w3 v (bs.map (Value.int .u8))) := jb9 RV.out bc
 have LWx : Hid (Below w.heap.size w w3) := jd5 LW.out bc
 have RPx : Hid (jc5 w3 (.slice pa ps.length pc) ps) := ja0 RP.out bc
 have Px : Hid (w3.heap[bP]? = some (.cells #[.slice pa ps.length pc] 26 (0, 0))) := ji9 P.out bc
 clear RV LW RP P
 have RV : Hid (jf2 w3 v (bs.map (Value.int .u8))) := RVx.out
 have LW : Hid (Below w.heap.size w w3) := LWx.out
 have RP : Hid (jc5 w3 (.slice pa ps.length pc) ps) := RPx.out
 have P : Hid (w3.heap[bP]? = some (.cells #[.slice pa ps.length pc] 26 (0, 0))) := Px.out
 clear RVx LWx RPx Px
 obtain ⟨fa, fn, fc, rfl⟩ := ji6 of9.row
 obtain rfl := ownSS_len of9
 have OL : Hid (OwnSS w3 (w2.heap.size) (.slice fa A.length fc) fus A) := of9
 clear of9 bc
 have hcall := drawAsked bs v w3 (by omega) RV.out
 go_wp2_with fail
 go_at_call 7
 refine hcall.mono ?_
 rintro r w4 ⟨uq, Lq, n, i0, k0, x0, rfl, hq5, hq14, hi00, hi04, hk00, hk07, prq, bc⟩
 clear hcall
 have RVx : Hid (jf2 w4 v (bs.map (Value.int .u8))) := jb9 RV.out bc
 have LWx : Hid (Below w.heap.size w w4) := jd5 LW.out bc
 have RPx : Hid (jc5 w4 (.slice pa ps.length pc) ps) := ja0 RP.out bc
 have Px : Hid (w4.heap[bP]? = some (.cells #[.slice pa ps.length pc] 26 (0, 0))) := ji9 P.out bc
 have OLx : Hid (OwnSS w4 (w2.heap.size) (.slice fa A.length fc) fus A) := OwnSS.below OL.out bc
 clear RV LW RP P OL
 have RV : Hid (jf2 w4 v (bs.map (Value.int .u8))) := RVx.out
 have LW : Hid (Below w.heap.size w w4) := LWx.out
 have RP : Hid (jc5 w4 (.slice pa ps.length pc) ps) := RPx.out
 have P : Hid (w4.heap[bP]? = some (.cells #[.slice pa ps.length pc] 26 (0, 0))) := Px.out
 have OL : Hid (OwnSS w4 (w2.heap.size) (.slice fa A.length fc) fus A) := OLx.out
 clear RVx LWx RPx Px OLx
 obtain ⟨qs, rq, hqL⟩ := prq.reads
 obtain ⟨hqs, hqe⟩ := qc7 hqL hq5 hq14
 obtain ⟨qa, qn, qc, rfl⟩ := prq.slice
 obtain rfl := qg7 rq
 obtain ⟨AQ, hAQ⟩ := jx5 qs n
 have hwi : Wf i0 := WalkArith.wf_i64 (by omega)
 have hwk : Wf k0 := WalkArith.wf_i64 (by omega)
 clear RV
 have RQ : Hid (jc5 w4 (.slice qa qs.length qc) qs) := rq
 clear prq rq bc hqL hq5 hq14
 obtain ⟨w5, hAw5⟩ : ∃ W, w4.alloc (.cells #[.slice qa qs.length qc] 26) = W := ⟨_, rfl⟩
 have bb : Below w4.heap.size w4 w5 := by rw [← hAw5]; go_grown
 obtain ⟨bQ, hBw5⟩ : ∃ n, w4.heap.size = n := ⟨_, rfl⟩
 have Qn : Hid (w5.heap[bQ]? = some (.cells #[.slice qa qs.length qc] 26 (0, 0))) := by
  show w5.heap[bQ]? = _
  rw [← hAw5, ← hBw5]; exact heap_alloc_new w4 _
 have LWx : Hid (Below w.heap.size w w5) := jd5 LW.out bb
 have RPx : Hid (jc5 w5 (.slice pa ps.length pc) ps) := ja0 RP.out bb
 have Px : Hid (w5.heap[bP]? = some (.cells #[.slice pa ps.length pc] 26 (0, 0))) := ji9 P.out bb
 have OLx : Hid (OwnSS w5 (w2.heap.size) (.slice fa A.length fc) fus A) := OwnSS.below OL.out bb
 have RQx : Hid (jc5 w5 (.slice qa qs.length qc) qs) := ja0 RQ.out bb
 clear LW RP P OL RQ
 have LW : Hid (Below w.heap.size w w5) := LWx.out
 have RP : Hid (jc5 w5 (.slice pa ps.length pc) ps) := RPx.out
 have P : Hid (w5.heap[bP]? = some (.cells #[.slice pa ps.length pc] 26 (0, 0))) := Px.out
 have OL : Hid (OwnSS w5 (w2.heap.size) (.slice fa A.length fc) fus A) := OLx.out
 have RQ : Hid (jc5 w5 (.slice qa qs.length qc) qs) := RQx.out
 clear LWx RPx Px OLx RQx
 clear bb
 have Q : Hid (w5.heap[bQ]? = some (.cells #[.slice qa qs.length qc] 26 (0, 0))) := Qn.out
 clear Qn
 obtain ⟨cP, -⟩ := ja6 P.out
 have hcall := implTests ps c T HT.out (.slice pa ps.length pc) w5 hps hpe RP.out
 go_wp2_with fail
 go_at_call 8
 clear hAw5 hBw5
 refine hcall.mono ?_
 rintro r w6 ⟨tv, rfl, ot9, bc⟩
 clear hcall cP
 have LWx : Hid (Below w.heap.size w w6) := jd5 LW.out bc
 have RPx : Hid (jc5 w6 (.slice pa ps.length pc) ps) := ja0 RP.out bc
 have Px : Hid (w6.heap[bP]? = some (.cells #[.slice pa ps.length pc] 26 (0, 0))) := ji9 P.out bc
 have OLx : Hid (OwnSS w6 (w2.heap.size) (.slice fa A.length fc) fus A) := OwnSS.below OL.out bc
 have RQx : Hid (jc5 w6 (.slice qa qs.length qc) qs) := ja0 RQ.out bc
 have Qx : Hid (w6.heap[bQ]? = some (.cells #[.slice qa qs.length qc] 26 (0, 0))) := ji9 Q.out bc
 clear LW RP P OL RQ Q
 have LW : Hid (Below w.heap.size w w6) := LWx.out
 have RP : Hid (jc5 w6 (.slice pa ps.length pc) ps) := RPx.out
 have P : Hid (w6.heap[bP]? = some (.cells #[.slice pa ps.length pc] 26 (0, 0))) := Px.out
 have OL : Hid (OwnSS w6 (w2.heap.size) (.slice fa A.length fc) fus A) := OLx.out
 have RQ : Hid (jc5 w6 (.slice qa qs.length qc) qs) := RQx.out
 have Q : Hid (w6.heap[bQ]? = some (.cells #[.slice qa qs.length qc] 26 (0, 0))) := Qx.out
 clear LWx RPx Px OLx RQx Qx
 obtain ⟨n9, hn9, ot⟩ := ot9.ex
 obtain rfl : n9 = nT := by have := HTL.out; omega
 obtain ⟨ta, tn, tc, rfl⟩ := ji6 ot
 obtain rfl : tn = n9 := by
  obtain ⟨_, _, e, _⟩ := js3 ot
  injection e
 have OT : Hid (World.ownsRow w6 (w5.heap.size) 48 2 (.slice ta tn tc) tn (ints T)) := ot
 clear ot ot9 hn9 bc
 have HS : Hid (∀ X, Below w6.heap.size w6 X → X.cell? ⟨bP, 0, none⟩ = some (.slice pa ps.length pc) ∧ X.cell? ⟨bQ, 0, none⟩ = some (.slice qa qs.length qc)) := fun X hX => ⟨(ja6 (ji9 P.out hX)).1, (ja6 (ji9 Q.out hX)).1⟩
 have hS0 := HS.out w6 (Below.refl _ _)
 have hs1 := fun X (hX : Below w6.heap.size w6 X) => qd2 ps c A HA.out (.slice pa ps.length pc) X hps hpe (ja0 RP.out hX)
 have hs2 := fun X (hX : Below w6.heap.size w6 X) => qa8 qs n i0 k0 x0 hwi hwk AQ hAQ (.slice qa qs.length qc) X hqs hqe (ja0 RQ.out hX)
 have hs3 := fun X (hX : Below w6.heap.size w6 X) => specAsked qs n i0 k0 x0 AQ hAQ (.slice qa qs.length qc) X hqs hqe (ja0 RQ.out hX)
 have hs4 := fun X (hX : Below w6.heap.size w6 X) => specTests ps c T HT.out (.slice pa ps.length pc) X hps hpe (ja0 RP.out hX)
 have hs5 := fun X (hX : Below w6.heap.size w6 X) => implEntries ps c EN HEN.out (.slice pa ps.length pc) X hps hpe (ja0 RP.out hX)
 have hs6 := fun X (hX : Below w6.heap.size w6 X) => specEntries ps c EN HEN.out (.slice pa ps.length pc) X hps hpe (ja0 RP.out hX)
 obtain ⟨ab, hab⟩ : ∃ b, jj4 AQ i0 k0 x0 = b := ⟨_, rfl⟩
 rw [hab] at hs2 hs3
 clear hab hAQ hwi hwk hi00 hi04 hk00 hk07
 obtain ⟨c1, c2⟩ := id hS0
 go_wp2_with fail
 refine wp_region_held_drew (S := fun X => X.cell? ⟨bP, 0, none⟩ = some (.slice pa ps.length pc) ∧ X.cell? ⟨bQ, 0, none⟩ = some (.slice qa qs.length qc)) (by kernel_rfl) hS0 (fun hHl => ?_)
 refine wpAnyH_take (i := 0) (oi := ?oia0) (v := .slice fa A.length fc) ?_ (by kernel_rfl) (by kernel_rfl) (by kernel_rfl) ?_ ?_ hHl ?_
 rotate_left
 · simp only [gA, gB, gC]; rfl
 · exact fun _ _ _ h => h
 · exact Or.inl ⟨by kernel_rfl, fun w hSw => by go_simp⟩
 try simp only [Act.put, gD, gE, gF]
 refine wpAnyH_take (i := 1) (oi := ?oia1) (v := .agg #[.slice pa ps.length pc]) ?_ (by kernel_rfl) (by kernel_rfl) (by kernel_rfl) ?_ ?_ hHl ?_
 rotate_left
 · simp only [gA, gB, gC]; rfl
 · exact fun _ _ _ h => h
 · exact Or.inl ⟨by kernel_rfl, fun w hSw => by obtain ⟨s0, s1⟩ := hSw; go_simp⟩
 try simp only [Act.put, gD, gE, gF]
 refine wpAnyH_take (i := 2) (oi := ?oia2) (v := .int .i64 c) ?_ (by kernel_rfl) (by kernel_rfl) (by kernel_rfl) ?_ ?_ hHl ?_
 rotate_left
 · simp only [gA, gB, gC]; rfl
 · exact fun _ _ _ h => h
 · exact Or.inl ⟨by kernel_rfl, fun w hSw => by go_simp⟩
 try simp only [Act.put, gD, gE, gF]
 refine wpAnyH_ready (rs := [3]) (by kernel_rfl) (by simp) (AllReadyH.cons (o := ?ooa3) ?_ (fun K hK => ?_) AllReadyH.nil)
 rotate_left
 · simp only [gA, gB, gC]; rfl
 go_simp
 go_at_call 10
 refine (hs1 w6.drew (Below.drew (Below.refl _ _))).mono ?_
 rintro e x1 ⟨sv, sus, rfl, os1, bq⟩
 have X1 : Hid (Below w6.heap.size w6 x1) := Below.trans (Below.drew (Below.refl _ _)) bq
 have RS : Hid (jh5 x1 sv A) := os1.reads
 clear bq os1
 try go_wp2_with fail
 refine hK.out _ _ (HS.out _ X1.out) (fun hHl => ?_)
 clear hK K
 try simp only [Act.put, gD, gE, gF]
 refine wpAnyH_ready (rs := [4]) (by kernel_rfl) (by simp) (AllReadyH.cons (o := ?ooa4) ?_ (fun K hK => ?_) AllReadyH.nil)
 rotate_left
 · simp only [gA, gB, gC]; rfl
 go_simp
 go_at_call 9
 refine (likeLists A _ sv x1 hAm hAxm (OL.out.below X1.out).reads RS.out).mono ?_
 rintro e x2 ⟨rfl, bq⟩
 have X2 : Hid (Below w6.heap.size w6 x2) := jd5 X1.out bq
 clear bq RS
 try go_wp2_with fail
 refine hK.out _ _ (HS.out _ X2.out) (fun hHl => ?_)
 clear hK K
 try simp only [Act.put, gD, gE, gF]
 refine wpAnyH_take (i := 5) (oi := ?oia5) (v := .bool false) ?_ (by kernel_rfl) (by kernel_rfl) (by kernel_rfl) ?_ ?_ hHl ?_
 rotate_left
 · simp only [gA, gB, gC]; rfl
 · exact fun _ _ _ h => h
 · exact Or.inl ⟨by kernel_rfl, fun w hSw => by go_simp⟩
 try simp only [Act.put, gD, gE, gF]
 refine wpAnyH_take (i := 6) (oi := ?oia6) (v := .bool false) ?_ (by kernel_rfl) (by kernel_rfl) (by kernel_rfl) ?_ ?_ hHl ?_
 rotate_left
 · simp only [gA, gB, gC]; rfl
 · exact fun _ _ _ h => h
 · exact Or.inl ⟨by kernel_rfl, fun w hSw => by go_simp⟩
 try simp only [Act.put, gD, gE, gF]
 refine wpAnyH_take (i := 7) (oi := ?oia7) (v := .agg #[.slice qa qs.length qc]) ?_ (by kernel_rfl) (by kernel_rfl) (by kernel_rfl) ?_ ?_ hHl ?_
 rotate_left
 · simp only [gA, gB, gC]; rfl
 · exact fun _ _ _ h => h
 · exact Or.inl ⟨by kernel_rfl, fun w hSw => by obtain ⟨s0, s1⟩ := hSw; go_simp⟩
 try simp only [Act.put, gD, gE, gF]
 refine wpAnyH_take (i := 8) (oi := ?oia8) (v := .int .i64 n) ?_ (by kernel_rfl) (by kernel_rfl) (by kernel_rfl) ?_ ?_ hHl ?_
 rotate_left
 · simp only [gA, gB, gC]; rfl
 · exact fun _ _ _ h => h
 · exact Or.inl ⟨by kernel_rfl, fun w hSw => by go_simp⟩
 try simp only [Act.put, gD, gE, gF]
 refine wpAnyH_take (i := 9) (oi := ?oia9) (v := .int .i64 i0) ?_ (by kernel_rfl) (by kernel_rfl) (by kernel_rfl) ?_ ?_ hHl ?_
 rotate_left
 · simp only [gA, gB, gC]; rfl
 · exact fun _ _ _ h => h
 · exact Or.inl ⟨by kernel_rfl, fun w hSw => by go_simp⟩
 try simp only [Act.put, gD, gE, gF]
 refine wpAnyH_take (i := 10) (oi := ?oia10) (v := .int .i64 k0) ?_ (by kernel_rfl) (by kernel_rfl) (by kernel_rfl) ?_ ?_ hHl ?_
 rotate_left
 · simp only [gA, gB, gC]; rfl
 · exact fun _ _ _ h => h
 · exact Or.inl ⟨by kernel_rfl, fun w hSw => by go_simp⟩
 try simp only [Act.put, gD, gE, gF]
 refine wpAnyH_take (i := 11) (oi := ?oia11) (v := .int .i64 x0) ?_ (by kernel_rfl) (by kernel_rfl) (by kernel_rfl) ?_ ?_ hHl ?_
 rotate_left
 · simp only [gA, gB, gC]; rfl
 · exact fun _ _ _ h => h
 · exact Or.inl ⟨by kernel_rfl, fun w hSw => by go_simp⟩
 try simp only [Act.put, gD, gE, gF]
 refine wpAnyH_take (i := 13) (oi := ?oia13) (v := .agg #[.slice qa qs.length qc]) ?_ (by kernel_rfl) (by kernel_rfl) (by kernel_rfl) ?_ ?_ hHl ?_
 rotate_left
 · simp only [gA, gB, gC]; rfl
 · exact fun _ _ _ h => h
 · exact Or.inl ⟨by kernel_rfl, fun w hSw => by obtain ⟨s0, s1⟩ := hSw; go_simp⟩
 try simp only [Act.put, gD, gE, gF]
 refine wpAnyH_take (i := 14) (oi := ?oia14) (v := .int .i64 n) ?_ (by kernel_rfl) (by kernel_rfl) (by kernel_rfl) ?_ ?_ hHl ?_
 rotate_left
 · simp only [gA, gB, gC]; rfl
 · exact fun _ _ _ h => h
 · exact Or.inl ⟨by kernel_rfl, fun w hSw => by go_simp⟩
 try simp only [Act.put, gD, gE, gF]
 refine wpAnyH_take (i := 15) (oi := ?oia15) (v := .int .i64 i0) ?_ (by kernel_rfl) (by kernel_rfl) (by kernel_rfl) ?_ ?_ hHl ?_
 rotate_left
 · simp only [gA, gB, gC]; rfl
 · exact fun _ _ _ h => h
 · exact Or.inl ⟨by kernel_rfl, fun w hSw => by go_simp⟩
 try simp only [Act.put, gD, gE, gF]
 refine wpAnyH_take (i := 16) (oi := ?oia16) (v := .int .i64 k0) ?_ (by kernel_rfl) (by kernel_rfl) (by kernel_rfl) ?_ ?_ hHl ?_
 rotate_left
 · simp only [gA, gB, gC]; rfl
 · exact fun _ _ _ h => h
 · exact Or.inl ⟨by kernel_rfl, fun w hSw => by go_simp⟩
 try simp only [Act.put, gD, gE, gF]
 refine wpAnyH_take (i := 17) (oi := ?oia17) (v := .int .i64 x0) ?_ (by kernel_rfl) (by kernel_rfl) (by kernel_rfl) ?_ ?_ hHl ?_
 rotate_left
 · simp only [gA, gB, gC]; rfl
 · exact fun _ _ _ h => h
 · exact Or.inl ⟨by kernel_rfl, fun w hSw => by go_simp⟩
 try simp only [Act.put, gD, gE, gF]
 refine wpAnyH_ready (rs := [12]) (by kernel_rfl) (by simp) (AllReadyH.cons (o := ?ooa12) ?_ (fun K hK => ?_) AllReadyH.nil)
 rotate_left
 · simp only [gA, gB, gC]; rfl
 go_simp
 go_at_call 11
 refine (hs2 x2 X2.out).mono ?_
 rintro e x3 ⟨rfl, bq⟩
 have X3 : Hid (Below w6.heap.size w6 x3) := jd5 X2.out bq
 clear bq 
 try go_wp2_with fail
 refine hK.out _ _ (HS.out _ X3.out) (fun hHl => ?_)
 clear hK K
 try simp only [Act.put, gD, gE, gF]
 refine wpAnyH_ready (rs := [18]) (by kernel_rfl) (by simp) (AllReadyH.cons (o := ?ooa18) ?_ (fun K hK => ?_) AllReadyH.nil)
 rotate_left
 · simp only [gA, gB, gC]; rfl
 go_simp
 go_at_call 12
 refine (hs3 x3 X3.out).mono ?_
 rintro e x4 ⟨rfl, bq⟩
 have X4 : Hid (Below w6.heap.size w6 x4) := jd5 X3.out bq
 clear bq 
 try go_wp2_with fail
 refine hK.out _ _ (HS.out _ X4.out) (fun hHl => ?_)
 clear hK K
 try simp only [Act.put, gD, gE, gF]
 refine wpAnyH_take (i := 19) (oi := ?oia19) (v := .bool false) ?_ (by kernel_rfl) (by kernel_rfl) (by kernel_rfl) ?_ ?_ hHl ?_
 rotate_left
 · simp only [gA, gB, gC]; rfl
 · exact fun _ _ _ h => h
 · exact Or.inl ⟨by kernel_rfl, fun w hSw => by go_simp; (try cases ab <;> rfl)⟩
 try simp only [Act.put, gD, gE, gF]
 refine wpAnyH_take (i := 20) (oi := ?oia20) (v := .bool false) ?_ (by kernel_rfl) (by kernel_rfl) (by kernel_rfl) ?_ ?_ hHl ?_
 rotate_left
 · simp only [gA, gB, gC]; rfl
 · exact fun _ _ _ h => h
 · exact Or.inl ⟨by kernel_rfl, fun w hSw => by go_simp⟩
 try simp only [Act.put, gD, gE, gF]
 refine wpAnyH_take (i := 21) (oi := ?oia21) (v := .bool false) ?_ (by kernel_rfl) (by kernel_rfl) (by kernel_rfl) ?_ ?_ hHl ?_
 rotate_left
 · simp only [gA, gB, gC]; rfl
 · exact fun _ _ _ h => h
 · exact Or.inl ⟨by kernel_rfl, fun w hSw => by go_simp⟩
 try simp only [Act.put, gD, gE, gF]
 refine wpAnyH_take (i := 22) (oi := ?oia22) (v := .slice ta tn tc) ?_ (by kernel_rfl) (by kernel_rfl) (by kernel_rfl) ?_ ?_ hHl ?_
 rotate_left
 · simp only [gA, gB, gC]; rfl
 · exact fun _ _ _ h => h
 · exact Or.inl ⟨by kernel_rfl, fun w hSw => by go_simp⟩
 try simp only [Act.put, gD, gE, gF]
 refine wpAnyH_take (i := 23) (oi := ?oia23) (v := .agg #[.slice pa ps.length pc]) ?_ (by kernel_rfl) (by kernel_rfl) (by kernel_rfl) ?_ ?_ hHl ?_
 rotate_left
 · simp only [gA, gB, gC]; rfl
 · exact fun _ _ _ h => h
 · exact Or.inl ⟨by kernel_rfl, fun w hSw => by obtain ⟨s0, s1⟩ := hSw; go_simp⟩
 try simp only [Act.put, gD, gE, gF]
 refine wpAnyH_take (i := 24) (oi := ?oia24) (v := .int .i64 c) ?_ (by kernel_rfl) (by kernel_rfl) (by kernel_rfl) ?_ ?_ hHl ?_
 rotate_left
 · simp only [gA, gB, gC]; rfl
 · exact fun _ _ _ h => h
 · exact Or.inl ⟨by kernel_rfl, fun w hSw => by go_simp⟩
 try simp only [Act.put, gD, gE, gF]
 refine wpAnyH_ready (rs := [25]) (by kernel_rfl) (by simp) (AllReadyH.cons (o := ?ooa25) ?_ (fun K hK => ?_) AllReadyH.nil)
 rotate_left
 · simp only [gA, gB, gC]; rfl
 go_simp
 go_at_call 14
 refine (hs4 x4 X4.out).mono ?_
 rintro e x5 ⟨yv, rfl, oy, bq⟩
 have X5 : Hid (Below w6.heap.size w6 x5) := jd5 X4.out bq
 obtain ⟨n8, hn8, oy2⟩ := oy.ex
 obtain rfl : n8 = tn := by have := HTL.out; omega
 have RY : Hid (Reads2 x5 yv n8 (ints T)) := js3 oy2
 clear bq oy oy2 hn8
 try go_wp2_with fail
 refine hK.out _ _ (HS.out _ X5.out) (fun hHl => ?_)
 clear hK K
 try simp only [Act.put, gD, gE, gF]
 refine wpAnyH_ready (rs := [26]) (by kernel_rfl) (by simp) (AllReadyH.cons (o := ?ooa26) ?_ (fun K hK => ?_) AllReadyH.nil)
 rotate_left
 · simp only [gA, gB, gC]; rfl
 go_simp
 go_at_call 13
 refine (likePlaces n8 T _ yv x5 HTL.out hT1000 (js3 (jb2 OT.out X5.out)) RY.out).mono ?_
 rintro e x6 ⟨rfl, bq⟩
 have X6 : Hid (Below w6.heap.size w6 x6) := jd5 X5.out bq
 clear bq RY
 try go_wp2_with fail
 refine hK.out _ _ (HS.out _ X6.out) (fun hHl => ?_)
 clear hK K
 try simp only [Act.put, gD, gE, gF]
 refine wpAnyH_take (i := 27) (oi := ?oia27) (v := .bool false) ?_ (by kernel_rfl) (by kernel_rfl) (by kernel_rfl) ?_ ?_ hHl ?_
 rotate_left
 · simp only [gA, gB, gC]; rfl
 · exact fun _ _ _ h => h
 · exact Or.inl ⟨by kernel_rfl, fun w hSw => by go_simp⟩
 try simp only [Act.put, gD, gE, gF]
 refine wpAnyH_take (i := 28) (oi := ?oia28) (v := .bool false) ?_ (by kernel_rfl) (by kernel_rfl) (by kernel_rfl) ?_ ?_ hHl ?_
 rotate_left
 · simp only [gA, gB, gC]; rfl
 · exact fun _ _ _ h => h
 · exact Or.inl ⟨by kernel_rfl, fun w hSw => by go_simp⟩
 try simp only [Act.put, gD, gE, gF]
 refine wpAnyH_take (i := 29) (oi := ?oia29) (v := .bool false) ?_ (by kernel_rfl) (by kernel_rfl) (by kernel_rfl) ?_ ?_ hHl ?_
 rotate_left
 · simp only [gA, gB, gC]; rfl
 · exact fun _ _ _ h => h
 · exact Or.inl ⟨by kernel_rfl, fun w hSw => by go_simp⟩
 try simp only [Act.put, gD, gE, gF]
 refine wpAnyH_take (i := 30) (oi := ?oia30) (v := .agg #[.slice pa ps.length pc]) ?_ (by kernel_rfl) (by kernel_rfl) (by kernel_rfl) ?_ ?_ hHl ?_
 rotate_left
 · simp only [gA, gB, gC]; rfl
 · exact fun _ _ _ h => h
 · exact Or.inl ⟨by kernel_rfl, fun w hSw => by obtain ⟨s0, s1⟩ := hSw; go_simp⟩
 try simp only [Act.put, gD, gE, gF]
 refine wpAnyH_take (i := 31) (oi := ?oia31) (v := .int .i64 c) ?_ (by kernel_rfl) (by kernel_rfl) (by kernel_rfl) ?_ ?_ hHl ?_
 rotate_left
 · simp only [gA, gB, gC]; rfl
 · exact fun _ _ _ h => h
 · exact Or.inl ⟨by kernel_rfl, fun w hSw => by go_simp⟩
 try simp only [Act.put, gD, gE, gF]
 refine wpAnyH_take (i := 33) (oi := ?oia33) (v := .agg #[.slice pa ps.length pc]) ?_ (by kernel_rfl) (by kernel_rfl) (by kernel_rfl) ?_ ?_ hHl ?_
 rotate_left
 · simp only [gA, gB, gC]; rfl
 · exact fun _ _ _ h => h
 · exact Or.inl ⟨by kernel_rfl, fun w hSw => by obtain ⟨s0, s1⟩ := hSw; go_simp⟩
 try simp only [Act.put, gD, gE, gF]
 refine wpAnyH_take (i := 34) (oi := ?oia34) (v := .int .i64 c) ?_ (by kernel_rfl) (by kernel_rfl) (by kernel_rfl) ?_ ?_ hHl ?_
 rotate_left
 · simp only [gA, gB, gC]; rfl
 · exact fun _ _ _ h => h
 · exact Or.inl ⟨by kernel_rfl, fun w hSw => by go_simp⟩
 try simp only [Act.put, gD, gE, gF]
 refine wpAnyH_ready (rs := [32]) (by kernel_rfl) (by simp) (AllReadyH.cons (o := ?ooa32) ?_ (fun K hK => ?_) AllReadyH.nil)
 rotate_left
 · simp only [gA, gB, gC]; rfl
 go_simp
 go_at_call 16
 refine (hs5 x6 X6.out).mono ?_
 rintro e x7 ⟨ev, rfl, oe, bq⟩
 have X7 : Hid (Below w6.heap.size w6 x7) := jd5 X6.out bq
 have RE : Hid (jf2 x7 ev (ints EN)) := jb8 oe
 clear bq oe
 try go_wp2_with fail
 refine hK.out _ _ (HS.out _ X7.out) (fun hHl => ?_)
 clear hK K
 try simp only [Act.put, gD, gE, gF]
 refine wpAnyH_ready (rs := [35]) (by kernel_rfl) (by simp) (AllReadyH.cons (o := ?ooa35) ?_ (fun K hK => ?_) AllReadyH.nil)
 rotate_left
 · simp only [gA, gB, gC]; rfl
 go_simp
 go_at_call 17
 refine (hs6 x7 X7.out).mono ?_
 rintro e x8 ⟨gv, rfl, og, bq⟩
 have X8 : Hid (Below w6.heap.size w6 x8) := jd5 X7.out bq
 have RG : Hid (jf2 x8 gv (ints EN)) := jb8 og
 have RE2 : Hid (jf2 x8 ev (ints EN)) := jb9 RE.out bq
 clear bq og RE
 try go_wp2_with fail
 refine hK.out _ _ (HS.out _ X8.out) (fun hHl => ?_)
 clear hK K
 try simp only [Act.put, gD, gE, gF]
 refine wpAnyH_ready (rs := [36]) (by kernel_rfl) (by simp) (AllReadyH.cons (o := ?ooa36) ?_ (fun K hK => ?_) AllReadyH.nil)
 rotate_left
 · simp only [gA, gB, gC]; rfl
 go_simp
 go_at_call 15
 refine (likeInts EN ev gv x8 hENm RE2.out RG.out).mono ?_
 rintro e x9 ⟨rfl, bq⟩
 have X9 : Hid (Below w6.heap.size w6 x9) := jd5 X8.out bq
 clear bq RE2 RG
 try go_wp2_with fail
 refine hK.out _ _ (HS.out _ X9.out) (fun hHl => ?_)
 clear hK K
 try simp only [Act.put, gD, gE, gF]
 refine wpAnyH_take (i := 37) (oi := ?oia37) (v := .bool false) ?_ (by kernel_rfl) (by kernel_rfl) (by kernel_rfl) ?_ ?_ hHl ?_
 rotate_left
 · simp only [gA, gB, gC]; rfl
 · exact fun _ _ _ h => h
 · exact Or.inl ⟨by kernel_rfl, fun w hSw => by go_simp⟩
 try simp only [Act.put, gD, gE, gF]
 refine wpAnyH_take (i := 38) (oi := ?oia38) (v := .bool false) ?_ (by kernel_rfl) (by kernel_rfl) (by kernel_rfl) ?_ ?_ hHl ?_
 rotate_left
 · simp only [gA, gB, gC]; rfl
 · exact fun _ _ _ h => h
 · exact Or.inl ⟨by kernel_rfl, fun w hSw => by go_simp⟩
 try simp only [Act.put, gD, gE, gF]
 refine wpAnyH_done (by kernel_rfl) ?_ _
 have Px : Hid (x9.heap[bP]? = some (.cells #[.slice pa ps.length pc] 26 (0, 0))) := ji9 P.out X9.out
 have RPx : Hid (jc5 x9 (.slice pa ps.length pc) ps) := ja0 RP.out X9.out
 have OLx : Hid (OwnSS x9 (w2.heap.size) (.slice fa A.length fc) fus A) := OL.out.below X9.out
 have OTx : Hid (World.ownsRow x9 (w5.heap.size) 48 2 (.slice ta n8 tc) n8 (ints T)) := jb2 OT.out X9.out
 have LWx : Hid (Below w.heap.size w x9) := jd5 LW.out X9.out
 have hen := hs5 x9 X9.out
 clear P RP OL OT LW RQ Q HS hS0 hs1 hs2 hs3 hs4 hs5 hs6 c1 c2 X1 X2 X3 X4 X5 X6 X7 X8 X9
 obtain ⟨cP, -⟩ := ja6 Px.out
 by_cases h0 : A.length = 0
 · have h0' : (A.length : Int) = 0 := by omega
   obtain ⟨hT0, hE0⟩ := HN.out h0
   have hn0 : n8 = 0 := by have := HTL.out; omega
   have hn0' : (n8 : Int) = 0 := by omega
   have HE0 : Hid (EN.length = 0) := hE0
   clear hT0 hE0
   go_wp2_with fail
   go_at_call 16
   refine hen.mono ?_
   rintro r z9 ⟨ev, rfl, oe, bc⟩
   obtain ⟨ea, ec, rfl⟩ := jp3 (jb8 oe)
   have he0 : (EN.length : Int) = 0 := by have := HE0.out; omega
   have HE : Hid (Below w.heap.size w z9) := jd5 LWx.out bc
   clear bc hen oe
   go_wp2
   go_ret
   exact ⟨rfl, HE.out⟩
 have h0' : ¬ (A.length : Int) = 0 := by omega
 have h0b : ((A.length : Int) == 0) = false := beq_eq_false_iff_ne.2 h0'
 have hf := HF.out (by omega)
 have HFF : Hid (FactF ps c A T A1 X1) := hf
 have hps1 : 0 < ps.length := by have := hf.len; omega
 have hwps : ps.length ≤ 12 := by have := hf.len; omega
 obtain ⟨gf, hgf⟩ := qg8 OLx.out (by omega)
 subst hgf
 clear hf HF HN hen cP
 go_wp2_with fail
 go_loopw [12] (fun q wr => ∃ i : Nat, i ≤ A.length ∧ q = .int .i64 i ∧ Below x9.heap.size x9 wr) (fun q _ => A.length - (intOf q).toNat)
 case atStart => exact ⟨0, Nat.zero_le _, rfl, Below.refl _ _⟩
 case round =>
  obtain ⟨i, hil, rfl, hbr⟩ := hrel
  have HBI : Hid (Below x9.heap.size x9 wr) := hbr
  by_cases hi : i < A.length
  · have hi' : (i : Int) < (A.length : Int) := by omega
    have hi00 : (0 : Int) ≤ (i : Int) := by omega
    obtain ⟨xs, hxs⟩ : ∃ xs, A[i]? = some xs := ⟨A[i], by simp [hi]⟩
    have hxe : A[i]'hi = xs := by simpa [hi] using hxs
    have hxg : A.getD i [] = xs := by simp [List.getD, hi, hxe]
    have hx1000 := hAx xs (List.mem_of_getElem? hxs)
    obtain ⟨ur, _, cr, or9⟩ := OLx.out.at (j := i) hi
    rw [hxe] at or9
    obtain ⟨ra, rn, rc, rfl⟩ := ji6 or9
    obtain ⟨ra', rc', hrf⟩ := jp3 (jb8 or9)
    injection hrf with q1 q2 q3
    subst q2
    clear q1 q3
    have ORr : Hid (jf2 x9 (.slice ra xs.length rc) (ints xs)) := jb8 or9
    have HRA : Hid (0 < xs.length → ∃ g, ra = some ⟨g, 0, none⟩) := fun h9 => by
     rcases or9.2 with ⟨e, h8⟩ | ⟨g, cap, cur, e, _⟩
     · omega
     · injection e with e1; exact ⟨g, e1⟩
    have CR : Hid (x9.cell? ⟨gf, i, none⟩ = some (.slice ra xs.length rc)) := cr
    have HXG : Hid (A.getD i [] = xs) := hxg
    have cr1 := jc0 cr hbr
    clear or9 hxe hbr cr hxg hxs
    go_wp2_with fail
    obtain ⟨wi, hwi⟩ : ∃ x, x = wr := ⟨_, rfl⟩
    subst hwi
    go_loopw [13] (fun q wr => ∃ k : Nat, k ≤ xs.length ∧ q = .int .i64 k ∧ Below x9.heap.size x9 wr) (fun q _ => xs.length - (intOf q).toNat)
    case atStart => exact ⟨0, Nat.zero_le _, rfl, HBI.out⟩
    case round =>
     obtain ⟨k, hkl, rfl, hbr⟩ := hrel
     have HBK : Hid (Below x9.heap.size x9 wr) := hbr
     clear cr1
     have cr1 := jc0 CR.out hbr
     by_cases hk : k < xs.length
     · have hk' : (k : Int) < (xs.length : Int) := by omega
       have hk00 : (0 : Int) ≤ (k : Int) := by omega
       obtain ⟨gr, hgr⟩ := HRA.out (by omega)
       subst hgr
       have hsm : jb5 (xs[k]'hk) := by
        have := HFF.out.small i k hi (by rw [HXG.out]; exact hk)
        rw [HXG.out] at this
        simpa [List.getD, hk] using this
       have HAS : Hid (∀ x : Nat, 1 ≤ x → x ≤ 6 → jj4 A (i : Int) (k : Int) (x : Int) = bit (xs[k]'hk) x) := fun x h1 h6 => by
        have := ask_at (A := A) (x := x) hi (by rw [HXG.out]; exact hk) h1 h6
        rw [HXG.out] at this
        rw [this]
        simp [List.getD, hk]
       have hwi : Wf (i : Int) := WalkArith.wf_i64 (by omega)
       have hwk : Wf (k : Int) := WalkArith.wf_i64 (by omega)
       have ck0 := qf3 ORr.out hk
       rw [Nat.zero_add] at ck0
       have CK : Hid (x9.cell? ⟨gr, k, none⟩ = some (.int .i64 (xs[k]'hk))) := ck0
       have HSM : Hid (jb5 (xs[k]'hk)) := hsm
       clear hbr ck0 hsm
       go_wp2_with fail
       obtain ⟨wk, hwk9⟩ : ∃ x, x = wr := ⟨_, rfl⟩
       subst hwk9
       go_loopw [14] (fun q wr => ∃ x : Nat, 1 ≤ x ∧ x ≤ 7 ∧ q = .int .i64 x ∧ Below x9.heap.size x9 wr) (fun q _ => 7 - (intOf q).toNat)
       case atStart => exact ⟨1, by omega, by omega, rfl, HBK.out⟩
       case round =>
        obtain ⟨x, hx1, hx7, rfl, hbr⟩ := hrel
        have HBX : Hid (Below x9.heap.size x9 wr) := hbr
        clear cr1
        have cr1 := jc0 CR.out hbr
        by_cases hx : x ≤ 6
        · obtain ⟨cPr, -⟩ := ja6 (ji9 Px.out hbr)
          have ck := jc0 CK.out hbr
          have has9 := fun X (hX : Below wr.heap.size wr X) => qa8 ps c (i : Int) (k : Int) (x : Int) hwi hwk A HA.out (.slice pa ps.length pc) X hps hpe (ja0 RPx.out (jd5 HBX.out hX))
          rw [HAS.out x hx1 hx] at has9
          have hbt0 := qa1 x HSM.out
          have HS9 : Hid (∀ X, Below wr.heap.size wr X → X.cell? ⟨bP, 0, none⟩ = some (.slice pa ps.length pc) ∧ X.cell? ⟨gf, i, none⟩ = some (.slice (some ⟨gr, 0, none⟩) xs.length rc) ∧ X.cell? ⟨gr, k, none⟩ = some (.int .i64 (xs[k]'hk))) := fun X hX => ⟨jc0 cPr hX, jc0 cr1 hX, jc0 ck hX⟩
          have hS9 := HS9.out wr (Below.refl _ _)
          obtain ⟨bt, hbte⟩ : ∃ b, bit (xs[k]'hk) x = b := ⟨_, rfl⟩
          rw [hbte] at has9 hbt0
          clear hbr hbte
          have HX6 : Hid (x = 1 ∨ x = 2 ∨ x = 3 ∨ x = 4 ∨ x = 5 ∨ x = 6) := by
           show x = 1 ∨ x = 2 ∨ x = 3 ∨ x = 4 ∨ x = 5 ∨ x = 6
           omega
          have hbt : ((xs[k]'hk / 2 ^ x).tmod 2 == 1) = bt := by rw [hbt0]; cases bt <;> rfl
          have hxx : (x : Int) ≤ 6 := by omega
          clear hbt0
          go_wp2_with fail
          refine wp_region_held_drew (S := fun X => X.cell? ⟨bP, 0, none⟩ = some (.slice pa ps.length pc) ∧ X.cell? ⟨gf, i, none⟩ = some (.slice (some ⟨gr, 0, none⟩) xs.length rc) ∧ X.cell? ⟨gr, k, none⟩ = some (.int .i64 (xs[k]'hk))) (by kernel_rfl) hS9 (fun hHl => ?_)
          refine wpAnyH_take (i := 0) (oi := ?oib0) (v := .agg #[.slice pa ps.length pc]) ?_ (by kernel_rfl) (by kernel_rfl) (by kernel_rfl) ?_ ?_ hHl ?_
          rotate_left
          · simp only [gA, gB, gC]; rfl
          · exact fun _ _ _ h => h
          · exact Or.inl ⟨by kernel_rfl, fun w hSw => by obtain ⟨s0, s1, s2⟩ := hSw; go_simp⟩
          try simp only [Act.put, gD, gE, gF]
          refine wpAnyH_take (i := 1) (oi := ?oib1) (v := .int .i64 c) ?_ (by kernel_rfl) (by kernel_rfl) (by kernel_rfl) ?_ ?_ hHl ?_
          rotate_left
          · simp only [gA, gB, gC]; rfl
          · exact fun _ _ _ h => h
          · exact Or.inl ⟨by kernel_rfl, fun w hSw => by go_simp⟩
          try simp only [Act.put, gD, gE, gF]
          refine wpAnyH_take (i := 2) (oi := ?oib2) (v := .int .i64 (i : Int)) ?_ (by kernel_rfl) (by kernel_rfl) (by kernel_rfl) ?_ ?_ hHl ?_
          rotate_left
          · simp only [gA, gB, gC]; rfl
          · exact fun _ _ _ h => h
          · exact Or.inl ⟨by kernel_rfl, fun w hSw => by go_simp⟩
          try simp only [Act.put, gD, gE, gF]
          refine wpAnyH_take (i := 3) (oi := ?oib3) (v := .int .i64 (k : Int)) ?_ (by kernel_rfl) (by kernel_rfl) (by kernel_rfl) ?_ ?_ hHl ?_
          rotate_left
          · simp only [gA, gB, gC]; rfl
          · exact fun _ _ _ h => h
          · exact Or.inl ⟨by kernel_rfl, fun w hSw => by go_simp⟩
          try simp only [Act.put, gD, gE, gF]
          refine wpAnyH_take (i := 4) (oi := ?oib4) (v := .int .i64 (x : Int)) ?_ (by kernel_rfl) (by kernel_rfl) (by kernel_rfl) ?_ ?_ hHl ?_
          rotate_left
          · simp only [gA, gB, gC]; rfl
          · exact fun _ _ _ h => h
          · exact Or.inl ⟨by kernel_rfl, fun w hSw => by go_simp⟩
          try simp only [Act.put, gD, gE, gF]
          refine wpAnyH_take (i := 6) (oi := ?oib6) (v := .slice (some ⟨gf, 0, none⟩) A.length fc) ?_ (by kernel_rfl) (by kernel_rfl) (by kernel_rfl) ?_ ?_ hHl ?_
          rotate_left
          · simp only [gA, gB, gC]; rfl
          · exact fun _ _ _ h => h
          · exact Or.inl ⟨by kernel_rfl, fun w hSw => by go_simp⟩
          try simp only [Act.put, gD, gE, gF]
          refine wpAnyH_take (i := 7) (oi := ?oib7) (v := .int .i64 (i : Int)) ?_ (by kernel_rfl) (by kernel_rfl) (by kernel_rfl) ?_ ?_ hHl ?_
          rotate_left
          · simp only [gA, gB, gC]; rfl
          · exact fun _ _ _ h => h
          · exact Or.inl ⟨by kernel_rfl, fun w hSw => by go_simp⟩
          try simp only [Act.put, gD, gE, gF]
          refine wpAnyH_take (i := 8) (oi := ?oib8) (v := .pointer (some ⟨gf, i, none⟩)) ?_ (by kernel_rfl) (by kernel_rfl) (by kernel_rfl) ?_ ?_ hHl ?_
          rotate_left
          · simp only [gA, gB, gC]; rfl
          · exact fun _ _ _ h => h
          · exact Or.inl ⟨by kernel_rfl, fun w hSw => by go_simp⟩
          try simp only [Act.put, gD, gE, gF]
          refine wpAnyH_take (i := 9) (oi := ?oib9) (v := .slice (some ⟨gr, 0, none⟩) xs.length rc) ?_ (by kernel_rfl) (by kernel_rfl) (by kernel_rfl) ?_ ?_ hHl ?_
          rotate_left
          · simp only [gA, gB, gC]; rfl
          · exact fun _ _ _ h => h
          · exact Or.inl ⟨by kernel_rfl, fun w hSw => by obtain ⟨s0, s1, s2⟩ := hSw; go_simp⟩
          try simp only [Act.put, gD, gE, gF]
          refine wpAnyH_take (i := 10) (oi := ?oib10) (v := .int .i64 (k : Int)) ?_ (by kernel_rfl) (by kernel_rfl) (by kernel_rfl) ?_ ?_ hHl ?_
          rotate_left
          · simp only [gA, gB, gC]; rfl
          · exact fun _ _ _ h => h
          · exact Or.inl ⟨by kernel_rfl, fun w hSw => by go_simp⟩
          try simp only [Act.put, gD, gE, gF]
          refine wpAnyH_take (i := 11) (oi := ?oib11) (v := .pointer (some ⟨gr, k, none⟩)) ?_ (by kernel_rfl) (by kernel_rfl) (by kernel_rfl) ?_ ?_ hHl ?_
          rotate_left
          · simp only [gA, gB, gC]; rfl
          · exact fun _ _ _ h => h
          · exact Or.inl ⟨by kernel_rfl, fun w hSw => by go_simp⟩
          try simp only [Act.put, gD, gE, gF]
          refine wpAnyH_take (i := 12) (oi := ?oib12) (v := .int .i64 (xs[k]'hk)) ?_ (by kernel_rfl) (by kernel_rfl) (by kernel_rfl) ?_ ?_ hHl ?_
          rotate_left
          · simp only [gA, gB, gC]; rfl
          · exact fun _ _ _ h => h
          · exact Or.inl ⟨by kernel_rfl, fun w hSw => by obtain ⟨s0, s1, s2⟩ := hSw; go_simp⟩
          try simp only [Act.put, gD, gE, gF]
          refine wpAnyH_take (i := 13) (oi := ?oib13) (v := .int .i64 (x : Int)) ?_ (by kernel_rfl) (by kernel_rfl) (by kernel_rfl) ?_ ?_ hHl ?_
          rotate_left
          · simp only [gA, gB, gC]; rfl
          · exact fun _ _ _ h => h
          · exact Or.inl ⟨by kernel_rfl, fun w hSw => by go_simp⟩
          try simp only [Act.put, gD, gE, gF]
          refine wpAnyH_take (i := 14) (oi := ?oib14) (v := .int .u64 (x : Int)) ?_ (by kernel_rfl) (by kernel_rfl) (by kernel_rfl) ?_ ?_ hHl ?_
          rotate_left
          · simp only [gA, gB, gC]; rfl
          · exact fun _ _ _ h => h
          · exact Or.inl ⟨by kernel_rfl, fun w hSw => by have hx6 := HX6.out; rcases hx6 with rfl | rfl | rfl | rfl | rfl | rfl <;> (go_simp; (try decide))⟩
          try simp only [Act.put, gD, gE, gF]
          refine wpAnyH_take (i := 15) (oi := ?oib15) (v := (Value.int .i64 (xs[k]'hk / 2 ^ x))) ?_ (by kernel_rfl) (by kernel_rfl) (by kernel_rfl) ?_ ?_ hHl ?_
          rotate_left
          · simp only [gA, gB, gC]; rfl
          · exact fun _ _ _ h => h
          · exact Or.inl ⟨by kernel_rfl, fun w hSw => by have hx6 := HX6.out; rcases hx6 with rfl | rfl | rfl | rfl | rfl | rfl <;> go_simp⟩
          try simp only [Act.put, gD, gE, gF]
          refine wpAnyH_take (i := 16) (oi := ?oib16) (v := (Value.int .i64 ((xs[k]'hk / 2 ^ x).tmod 2))) ?_ (by kernel_rfl) (by kernel_rfl) (by kernel_rfl) ?_ ?_ hHl ?_
          rotate_left
          · simp only [gA, gB, gC]; rfl
          · exact fun _ _ _ h => h
          · exact Or.inl ⟨by kernel_rfl, fun w hSw => by go_simp⟩
          try simp only [Act.put, gD, gE, gF]
          refine wpAnyH_take (i := 17) (oi := ?oib17) (v := .bool bt) ?_ (by kernel_rfl) (by kernel_rfl) (by kernel_rfl) ?_ ?_ hHl ?_
          rotate_left
          · simp only [gA, gB, gC]; rfl
          · exact fun _ _ _ h => h
          · exact Or.inl ⟨by kernel_rfl, fun w hSw => by go_simp; (try rw [hbt])⟩
          try simp only [Act.put, gD, gE, gF]
          refine wpAnyH_ready (rs := [5]) (by kernel_rfl) (by simp) (AllReadyH.cons (o := ?oob5) ?_ (fun K hK => ?_) AllReadyH.nil)
          rotate_left
          · simp only [gA, gB, gC]; rfl
          go_simp
          go_at_call 11
          refine (has9 wr.drew (Below.drew (Below.refl _ _))).mono ?_
          rintro e y1 ⟨rfl, bq⟩
          have Y1 : Hid (Below wr.heap.size wr y1) := Below.trans (Below.drew (Below.refl _ _)) bq
          clear bq 
          try go_wp2_with fail
          refine hK.out _ _ (HS9.out _ Y1.out) (fun hHl => ?_)
          clear hK K
          try simp only [Act.put, gD, gE, gF]
          refine wpAnyH_take (i := 18) (oi := ?oib18) (v := .bool false) ?_ (by kernel_rfl) (by kernel_rfl) (by kernel_rfl) ?_ ?_ hHl ?_
          rotate_left
          · simp only [gA, gB, gC]; rfl
          · exact fun _ _ _ h => h
          · exact Or.inl ⟨by kernel_rfl, fun w hSw => by go_simp; (try cases bt <;> rfl)⟩
          try simp only [Act.put, gD, gE, gF]
          refine wpAnyH_done (by kernel_rfl) ?_ _
          have BZ : Hid (Below x9.heap.size x9 y1) := jd5 HBX.out Y1.out
          clear hbt
          go_wp2
          go_roundw
          case rel => exact ⟨x + 1, by omega, by omega, by go_num, BZ.out⟩
          case measure => simp [intOf]; omega
        · obtain rfl : x = 7 := by omega
          clear hbr
          go_wp2
          go_roundw
          case rel => exact ⟨k + 1, by omega, by go_num, HBX.out⟩
          case measure => simp [intOf]; omega
     · obtain rfl : k = xs.length := by omega
       have hnk : ¬ (xs.length : Int) < (xs.length : Int) := by omega
       clear hbr
       go_wp2
       go_roundw
       case rel => exact ⟨i + 1, by omega, by go_num, HBK.out⟩
       case measure => simp [intOf]; omega
  · obtain rfl : i = A.length := by omega
    have hni : ¬ (A.length : Int) < (A.length : Int) := by omega
    clear hbr
    obtain ⟨gp, op, hpa⟩ := readsP_some RPx.out hps1
    subst hpa
    go_wp2_with fail
    obtain ⟨wi, hwi⟩ : ∃ x, x = wr := ⟨_, rfl⟩
    subst hwi
    go_loopw [15] (fun q wr => ∃ m : Nat, m ≤ n8 ∧ q = .int .i64 m ∧ Below x9.heap.size x9 wr) (fun q _ => n8 - (intOf q).toNat)
    case atStart => exact ⟨0, Nat.zero_le _, rfl, HBI.out⟩
    case round =>
     obtain ⟨m, hml, rfl, hbr⟩ := hrel
     have HBX : Hid (Below x9.heap.size x9 wr) := hbr
     by_cases hm : m < n8
     · have hm' : (m : Int) < (n8 : Int) := by omega
       have hm00 : (0 : Int) ≤ (m : Int) := by omega
       obtain ⟨gt, hgt⟩ := pl_some OTx.out (by omega)
       subst hgt
       obtain ⟨n7, hn7, hpair⟩ := HFF.out.tests
       obtain ⟨a, b, hTa, hTb, ss, s, hss, hs, hk6, hx0, hx5, hask⟩ := hpair m (by have := HTL.out; omega)
       obtain ⟨t0', t1'⟩ := pl_cells OTx.out HTL.out hm
       rw [hTa] at t0'
       rw [hTb] at t1'
       have t0 := jc0 t0' hbr
       have t1 := jc0 t1' hbr
       obtain ⟨px, cpx, rpx⟩ := qb2 RPx.out hss
       obtain ⟨pxa, pxc, rfl⟩ := qb1 rpx
       have hbl : b < ss.length := (List.getElem?_eq_some_iff.1 hs).1
       obtain ⟨gx, ox, hxa⟩ := reads3_some rpx (by omega)
       subst hxa
       obtain ⟨d0', d1', d2'⟩ := reads3_cell rpx hs
       have d0 := jc0 d0' hbr
       have d1 := jc0 d1' hbr
       have d2 := jc0 d2' hbr
       have cx := jc0 cpx hbr
       obtain ⟨cPr, -⟩ := ja6 (ji9 Px.out hbr)
       have hal : a < ps.length := (List.getElem?_eq_some_iff.1 hss).1
       have hal' : (a : Int) < (ps.length : Int) := by omega
       have ha00 : (0 : Int) ≤ (a : Int) := by omega
       have hbl' : (b : Int) < (ss.length : Int) := by omega
       have hb00 : (0 : Int) ≤ (b : Int) := by omega
       have hwa : Wf (a : Int) := WalkArith.wf_i64 (by omega)
       have hss12 : ss.length ≤ 1000 := by
        have h9 := HFF.out.row a hal
        have e9 : ps[a] = ss := by simpa [hal] using hss
        rw [e9] at h9
        have hAa : a < A.length := by have := HFF.out.len; omega
        have := hAx (A[a]'hAa) (List.getElem_mem hAa)
        have e8 : A.getD a [] = A[a]'hAa := by simp [List.getD, hAa]
        rw [e8] at h9
        omega
       have hwb : Wf (b : Int) := WalkArith.wf_i64 (by omega)
       have HHA : Hid (jj4 A (a : Int) (b : Int) (s.x + 1) = true) := hask
       rw [hk6] at d0
       obtain ⟨sx, hsx⟩ : ∃ z, s.x = z := ⟨_, rfl⟩
       have hxw : IntKind.i64.wrap (s.x + 1) = s.x + 1 := IntWalk.i64_in _ (by omega)
       have bZ : Below wr.heap.size wr (wr.alloc (.cells #[.int .i64 0, .int .i64 0, .int .i64 0] 43)) := by go_grown
       have t0A := jc0 t0 bZ
       have t1A := jc0 t1 bZ
       have d0A := jc0 d0 bZ
       have d1A := jc0 d1 bZ
       have d2A := jc0 d2 bZ
       have cxA := jc0 cx bZ
       have cPA := jc0 cPr bZ
       clear hbr t0' t1' d0' d1' d2' cpx rpx hask hTa hTb hpair hn7 hsx bZ
       go_wp2_with fail
       go_region
       clear t0A t1A d0A d1A d2A cxA cPA d0 d1 d2 cx
       obtain ⟨w9, hw9⟩ : ∃ W, (wr.alloc (.cells #[.int .i64 6, .int .i64 s.x, .int .i64 s.y] 43)).drew = W := ⟨_, rfl⟩
       obtain ⟨bS, hbS⟩ : ∃ n, wr.heap.size = n := ⟨_, rfl⟩
       have b9 : Below wr.heap.size wr w9 := by rw [← hw9]; exact Below.drew (by go_grown)
       have B9 : w9.heap[bS]? = some (.cells #[.int .i64 6, .int .i64 s.x, .int .i64 s.y] 43 (0, 0)) := by rw [← hw9, ← hbS]; exact heap_alloc_new wr _
       have HB9 : Hid (Below x9.heap.size x9 w9) := jd5 HBX.out b9
       have t0B := jc0 t0 b9
       have t1B := jc0 t1 b9
       have cPB := jc0 cPr b9
       obtain ⟨e0, e1, _⟩ := three_inK B9
       have has9 := fun X (hX : Below w9.heap.size w9 X) => qa8 ps c (a : Int) (b : Int) (s.x + 1) hwa hwb A HA.out (.slice (some ⟨gp, op, none⟩) ps.length pc) X hps hpe (ja0 RPx.out (jd5 HB9.out hX))
       rw [HHA.out] at has9
       have HS9 : Hid (∀ X, Below w9.heap.size w9 X → X.cell? ⟨bP, 0, none⟩ = some (.slice (some ⟨gp, op, none⟩) ps.length pc) ∧ X.cell? ⟨gt, m * 2, none⟩ = some (.int .i64 (a : Int)) ∧ X.cell? ⟨gt, m * 2 + 1, none⟩ = some (.int .i64 (b : Int)) ∧ X.cell? ⟨bS, 0, none⟩ = some (.int .i64 6) ∧ X.cell? ⟨bS, 1, none⟩ = some (.int .i64 s.x)) := fun X hX => ⟨jc0 cPB hX, jc0 t0B hX, jc0 t1B hX, jc0 e0 hX, jc0 e1 hX⟩
       have hS9 := HS9.out w9 (Below.refl _ _)
       clear t0 t1 cPr b9 B9
       rw [hw9]
       simp only [hbS]
       clear hw9 hbS
       go_wp2_with fail
       refine wp_region_held_drew (S := fun X => X.cell? ⟨bP, 0, none⟩ = some (.slice (some ⟨gp, op, none⟩) ps.length pc) ∧ X.cell? ⟨gt, m * 2, none⟩ = some (.int .i64 (a : Int)) ∧ X.cell? ⟨gt, m * 2 + 1, none⟩ = some (.int .i64 (b : Int)) ∧ X.cell? ⟨bS, 0, none⟩ = some (.int .i64 6) ∧ X.cell? ⟨bS, 1, none⟩ = some (.int .i64 s.x)) (by kernel_rfl) hS9 (fun hHl => ?_)
       refine wpAnyH_take (i := 0) (oi := ?oic0) (v := .pointer (some ⟨bS, 0, none⟩)) ?_ (by kernel_rfl) (by kernel_rfl) (by kernel_rfl) ?_ ?_ hHl ?_
       rotate_left
       · simp only [gA, gB, gC]; rfl
       · exact fun _ _ _ h => h
       · exact Or.inl ⟨by kernel_rfl, fun w hSw => by go_simp⟩
       try simp only [Act.put, gD, gE, gF]
       refine wpAnyH_take (i := 1) (oi := ?oic1) (v := .int .i64 6) ?_ (by kernel_rfl) (by kernel_rfl) (by kernel_rfl) ?_ ?_ hHl ?_
       rotate_left
       · simp only [gA, gB, gC]; rfl
       · exact fun _ _ _ h => h
       · exact Or.inl ⟨by kernel_rfl, fun w hSw => by obtain ⟨s0, s1, s2, s3, s4⟩ := hSw; go_simp⟩
       try simp only [Act.put, gD, gE, gF]
       refine wpAnyH_take (i := 2) (oi := ?oic2) (v := .bool false) ?_ (by kernel_rfl) (by kernel_rfl) (by kernel_rfl) ?_ ?_ hHl ?_
       rotate_left
       · simp only [gA, gB, gC]; rfl
       · exact fun _ _ _ h => h
       · exact Or.inl ⟨by kernel_rfl, fun w hSw => by go_simp⟩
       try simp only [Act.put, gD, gE, gF]
       refine wpAnyH_take (i := 3) (oi := ?oic3) (v := .bool false) ?_ (by kernel_rfl) (by kernel_rfl) (by kernel_rfl) ?_ ?_ hHl ?_
       rotate_left
       · simp only [gA, gB, gC]; rfl
       · exact fun _ _ _ h => h
       · exact Or.inl ⟨by kernel_rfl, fun w hSw => by go_simp⟩
       try simp only [Act.put, gD, gE, gF]
       refine wpAnyH_take (i := 4) (oi := ?oic4) (v := .agg #[.slice (some ⟨gp, op, none⟩) ps.length pc]) ?_ (by kernel_rfl) (by kernel_rfl) (by kernel_rfl) ?_ ?_ hHl ?_
       rotate_left
       · simp only [gA, gB, gC]; rfl
       · exact fun _ _ _ h => h
       · exact Or.inl ⟨by kernel_rfl, fun w hSw => by obtain ⟨s0, s1, s2, s3, s4⟩ := hSw; go_simp⟩
       try simp only [Act.put, gD, gE, gF]
       refine wpAnyH_take (i := 5) (oi := ?oic5) (v := .int .i64 c) ?_ (by kernel_rfl) (by kernel_rfl) (by kernel_rfl) ?_ ?_ hHl ?_
       rotate_left
       · simp only [gA, gB, gC]; rfl
       · exact fun _ _ _ h => h
       · exact Or.inl ⟨by kernel_rfl, fun w hSw => by go_simp⟩
       try simp only [Act.put, gD, gE, gF]
       refine wpAnyH_take (i := 6) (oi := ?oic6) (v := .slice (some ⟨gt, 0, none⟩) n8 tc) ?_ (by kernel_rfl) (by kernel_rfl) (by kernel_rfl) ?_ ?_ hHl ?_
       rotate_left
       · simp only [gA, gB, gC]; rfl
       · exact fun _ _ _ h => h
       · exact Or.inl ⟨by kernel_rfl, fun w hSw => by go_simp⟩
       try simp only [Act.put, gD, gE, gF]
       refine wpAnyH_take (i := 7) (oi := ?oic7) (v := .int .i64 (m : Int)) ?_ (by kernel_rfl) (by kernel_rfl) (by kernel_rfl) ?_ ?_ hHl ?_
       rotate_left
       · simp only [gA, gB, gC]; rfl
       · exact fun _ _ _ h => h
       · exact Or.inl ⟨by kernel_rfl, fun w hSw => by go_simp⟩
       try simp only [Act.put, gD, gE, gF]
       refine wpAnyH_take (i := 8) (oi := ?oic8) (v := .pointer (some ⟨gt, m * 2, none⟩)) ?_ (by kernel_rfl) (by kernel_rfl) (by kernel_rfl) ?_ ?_ hHl ?_
       rotate_left
       · simp only [gA, gB, gC]; rfl
       · exact fun _ _ _ h => h
       · exact Or.inl ⟨by kernel_rfl, fun w hSw => by go_simp⟩
       try simp only [Act.put, gD, gE, gF]
       refine wpAnyH_take (i := 9) (oi := ?oic9) (v := .pointer (some ⟨gt, m * 2, none⟩)) ?_ (by kernel_rfl) (by kernel_rfl) (by kernel_rfl) ?_ ?_ hHl ?_
       rotate_left
       · simp only [gA, gB, gC]; rfl
       · exact fun _ _ _ h => h
       · exact Or.inl ⟨by kernel_rfl, fun w hSw => by go_simp⟩
       try simp only [Act.put, gD, gE, gF]
       refine wpAnyH_take (i := 10) (oi := ?oic10) (v := .int .i64 (a : Int)) ?_ (by kernel_rfl) (by kernel_rfl) (by kernel_rfl) ?_ ?_ hHl ?_
       rotate_left
       · simp only [gA, gB, gC]; rfl
       · exact fun _ _ _ h => h
       · exact Or.inl ⟨by kernel_rfl, fun w hSw => by obtain ⟨s0, s1, s2, s3, s4⟩ := hSw; go_simp⟩
       try simp only [Act.put, gD, gE, gF]
       refine wpAnyH_take (i := 11) (oi := ?oic11) (v := .slice (some ⟨gt, 0, none⟩) n8 tc) ?_ (by kernel_rfl) (by kernel_rfl) (by kernel_rfl) ?_ ?_ hHl ?_
       rotate_left
       · simp only [gA, gB, gC]; rfl
       · exact fun _ _ _ h => h
       · exact Or.inl ⟨by kernel_rfl, fun w hSw => by go_simp⟩
       try simp only [Act.put, gD, gE, gF]
       refine wpAnyH_take (i := 12) (oi := ?oic12) (v := .int .i64 (m : Int)) ?_ (by kernel_rfl) (by kernel_rfl) (by kernel_rfl) ?_ ?_ hHl ?_
       rotate_left
       · simp only [gA, gB, gC]; rfl
       · exact fun _ _ _ h => h
       · exact Or.inl ⟨by kernel_rfl, fun w hSw => by go_simp⟩
       try simp only [Act.put, gD, gE, gF]
       refine wpAnyH_take (i := 13) (oi := ?oic13) (v := .pointer (some ⟨gt, m * 2, none⟩)) ?_ (by kernel_rfl) (by kernel_rfl) (by kernel_rfl) ?_ ?_ hHl ?_
       rotate_left
       · simp only [gA, gB, gC]; rfl
       · exact fun _ _ _ h => h
       · exact Or.inl ⟨by kernel_rfl, fun w hSw => by go_simp⟩
       try simp only [Act.put, gD, gE, gF]
       refine wpAnyH_take (i := 14) (oi := ?oic14) (v := .pointer (some ⟨gt, m * 2 + 1, none⟩)) ?_ (by kernel_rfl) (by kernel_rfl) (by kernel_rfl) ?_ ?_ hHl ?_
       rotate_left
       · simp only [gA, gB, gC]; rfl
       · exact fun _ _ _ h => h
       · exact Or.inl ⟨by kernel_rfl, fun w hSw => by go_simp⟩
       try simp only [Act.put, gD, gE, gF]
       refine wpAnyH_take (i := 15) (oi := ?oic15) (v := .int .i64 (b : Int)) ?_ (by kernel_rfl) (by kernel_rfl) (by kernel_rfl) ?_ ?_ hHl ?_
       rotate_left
       · simp only [gA, gB, gC]; rfl
       · exact fun _ _ _ h => h
       · exact Or.inl ⟨by kernel_rfl, fun w hSw => by obtain ⟨s0, s1, s2, s3, s4⟩ := hSw; go_simp⟩
       try simp only [Act.put, gD, gE, gF]
       refine wpAnyH_take (i := 16) (oi := ?oic16) (v := .pointer (some ⟨bS, 1, none⟩)) ?_ (by kernel_rfl) (by kernel_rfl) (by kernel_rfl) ?_ ?_ hHl ?_
       rotate_left
       · simp only [gA, gB, gC]; rfl
       · exact fun _ _ _ h => h
       · exact Or.inl ⟨by kernel_rfl, fun w hSw => by go_simp⟩
       try simp only [Act.put, gD, gE, gF]
       refine wpAnyH_take (i := 17) (oi := ?oic17) (v := .int .i64 s.x) ?_ (by kernel_rfl) (by kernel_rfl) (by kernel_rfl) ?_ ?_ hHl ?_
       rotate_left
       · simp only [gA, gB, gC]; rfl
       · exact fun _ _ _ h => h
       · exact Or.inl ⟨by kernel_rfl, fun w hSw => by obtain ⟨s0, s1, s2, s3, s4⟩ := hSw; go_simp⟩
       try simp only [Act.put, gD, gE, gF]
       refine wpAnyH_take (i := 18) (oi := ?oic18) (v := .int .i64 (s.x + 1)) ?_ (by kernel_rfl) (by kernel_rfl) (by kernel_rfl) ?_ ?_ hHl ?_
       rotate_left
       · simp only [gA, gB, gC]; rfl
       · exact fun _ _ _ h => h
       · exact Or.inl ⟨by kernel_rfl, fun w hSw => by go_simp⟩
       try simp only [Act.put, gD, gE, gF]
       refine wpAnyH_ready (rs := [19]) (by kernel_rfl) (by simp) (AllReadyH.cons (o := ?ooc19) ?_ (fun K hK => ?_) AllReadyH.nil)
       rotate_left
       · simp only [gA, gB, gC]; rfl
       go_simp
       go_at_call 11
       refine (has9 w9.drew (Below.drew (Below.refl _ _))).mono ?_
       rintro e y1 ⟨rfl, bq⟩
       have Y1 : Hid (Below w9.heap.size w9 y1) := Below.trans (Below.drew (Below.refl _ _)) bq
       clear bq 
       try go_wp2_with fail
       refine hK.out _ _ (HS9.out _ Y1.out) (fun hHl => ?_)
       clear hK K
       try simp only [Act.put, gD, gE, gF]
       refine wpAnyH_take (i := 20) (oi := ?oic20) (v := .bool false) ?_ (by kernel_rfl) (by kernel_rfl) (by kernel_rfl) ?_ ?_ hHl ?_
       rotate_left
       · simp only [gA, gB, gC]; rfl
       · exact fun _ _ _ h => h
       · exact Or.inl ⟨by kernel_rfl, fun w hSw => by go_simp⟩
       try simp only [Act.put, gD, gE, gF]
       refine wpAnyH_take (i := 21) (oi := ?oic21) (v := .bool false) ?_ (by kernel_rfl) (by kernel_rfl) (by kernel_rfl) ?_ ?_ hHl ?_
       rotate_left
       · simp only [gA, gB, gC]; rfl
       · exact fun _ _ _ h => h
       · exact Or.inl ⟨by kernel_rfl, fun w hSw => by go_simp⟩
       try simp only [Act.put, gD, gE, gF]
       refine wpAnyH_done (by kernel_rfl) ?_ _
       have BZ : Hid (Below x9.heap.size x9 y1) := jd5 HB9.out Y1.out
       go_wp2
       go_roundw
       case rel => exact ⟨m + 1, by omega, by go_num, BZ.out⟩
       case measure => simp [intOf]; omega
     · obtain rfl : m = n8 := by omega
       have hnm : ¬ (m : Int) < (m : Int) := by omega
       have hnw := implNowhere ps X1 HX1.out (.slice (some ⟨gp, op, none⟩) ps.length pc) wr hps hpe (ja0 RPx.out hbr)
       obtain ⟨cPr, -⟩ := ja6 (ji9 Px.out hbr)
       clear hbr
       go_wp2_with fail
       go_at_call 18
       refine hnw.mono ?_
       rintro r zn ⟨xv, rfl, ox9, bc⟩
       obtain ⟨n6, hn6, oxr⟩ := ox9.ex
       obtain rfl : n6 = nX := by have := HXL.out; omega
       obtain ⟨xa, xn, xc, rfl⟩ := ji6 oxr
       obtain rfl : xn = n6 := by
        obtain ⟨_, _, e, _⟩ := js3 oxr
        injection e
       have OX : Hid (World.ownsRow zn wr.heap.size 48 2 (.slice xa xn xc) xn (ints X1)) := oxr
       have HBN : Hid (Below x9.heap.size x9 zn) := jd5 HBX.out bc
       have Pn : Hid (zn.heap[bP]? = some (.cells #[.slice (some ⟨gp, op, none⟩) ps.length pc] 26 (0, 0))) := ji9 Px.out HBN.out
       have RPn : Hid (jc5 zn (.slice (some ⟨gp, op, none⟩) ps.length pc) ps) := ja0 RPx.out HBN.out
       have OLn : Hid (OwnSS zn (w2.heap.size) (.slice (some ⟨gf, 0, none⟩) A.length fc) fus A) := OLx.out.below HBN.out
       have LWn : Hid (Below w.heap.size w zn) := jd5 LWx.out HBN.out
       clear ox9 oxr hn6 bc hnw cPr
       go_wp2_with fail
       obtain ⟨wm, hwm⟩ : ∃ x, x = wr := ⟨_, rfl⟩
       subst hwm
       go_loopw [18] (fun q wr => ∃ m : Nat, m ≤ xn ∧ q = .int .i64 m ∧ Below zn.heap.size zn wr) (fun q _ => xn - (intOf q).toNat)
       case atStart => exact ⟨0, Nat.zero_le _, rfl, Below.refl _ _⟩
       case round =>
        obtain ⟨m, hml, rfl, hbr⟩ := hrel
        have HBX : Hid (Below zn.heap.size zn wr) := hbr
        obtain ⟨cPr, -⟩ := ja6 (ji9 Pn.out hbr)
        by_cases hm : m < xn
        · have hm' : (m : Int) < (xn : Int) := by omega
          have hm00 : (0 : Int) ≤ (m : Int) := by omega
          obtain ⟨gx, hgx⟩ := pl_some OX.out (by omega)
          subst hgx
          obtain ⟨n7, hn7, hpair⟩ := HFF.out.now
          obtain ⟨a, b, hTa, hTb, ha1, hb1', hz', hne⟩ := hpair m (by have := HXL.out; omega)
          obtain ⟨t0', t1'⟩ := pl_cells OX.out HXL.out hm
          rw [hTa] at t0'
          rw [hTb] at t1'
          have t0 := jc0 t0' hbr
          have t1 := jc0 t1' hbr
          have eg : A1.getD a [] = A1[a]'ha1 := by simp [List.getD, ha1]
          rw [eg] at hb1' hz'
          have hb1 : b < (A1[a]'ha1).length := hb1'
          have hz : (A1[a]'ha1)[b]'hb1 = 0 := by
           have e9 : (A1[a]'ha1).getD b 0 = (A1[a]'ha1)[b]'hb1 := by simp [List.getD, hb1]
           rw [← e9]; exact hz'
          have ha1' : (a : Int) < (A1.length : Int) := by omega
          have ha00 : (0 : Int) ≤ (a : Int) := by omega
          have hb1i : (b : Int) < ((A1[a]'ha1).length : Int) := by omega
          have hb00 : (0 : Int) ≤ (b : Int) := by omega
          have heq := fun W => equal_placeF W (a : Int) (b : Int) 0 0
          have hde : (decide ((a : Int) = 0) && decide ((b : Int) = 0)) = false := by
           by_cases h1 : a = 0
           · by_cases h2 : b = 0
             · exact absurd ⟨h1, h2⟩ hne
             · have h9 : ¬ (b : Int) = 0 := by omega
               rw [decide_eq_false h9, Bool.and_false]
           · have h9 : ¬ (a : Int) = 0 := by omega
             rw [decide_eq_false h9, Bool.false_and]
          rw [hde] at heq
          have hf1 := fun X (hX : Below wr.heap.size wr X) => implFacts ps 1 A1 HA1.out (.slice (some ⟨gp, op, none⟩) ps.length pc) X hps hpe (ja0 RPn.out (jd5 HBX.out hX))
          have HS9 : Hid (∀ X, Below wr.heap.size wr X → X.cell? ⟨bP, 0, none⟩ = some (.slice (some ⟨gp, op, none⟩) ps.length pc) ∧ X.cell? ⟨gx, m * 2, none⟩ = some (.int .i64 (a : Int)) ∧ X.cell? ⟨gx, m * 2 + 1, none⟩ = some (.int .i64 (b : Int))) := fun X hX => ⟨jc0 cPr hX, jc0 t0 hX, jc0 t1 hX⟩
          have hS9 := HS9.out wr (Below.refl _ _)
          clear hbr t0' t1' hTa hTb hpair hn7 eg hb1' hz' hne hde
          go_wp2_with fail
          refine wp_region_held_drew (S := fun X => X.cell? ⟨bP, 0, none⟩ = some (.slice (some ⟨gp, op, none⟩) ps.length pc) ∧ X.cell? ⟨gx, m * 2, none⟩ = some (.int .i64 (a : Int)) ∧ X.cell? ⟨gx, m * 2 + 1, none⟩ = some (.int .i64 (b : Int))) (by kernel_rfl) hS9 (fun hHl => ?_)
          refine wpAnyH_take (i := 0) (oi := ?oid0) (v := .agg #[.slice (some ⟨gp, op, none⟩) ps.length pc]) ?_ (by kernel_rfl) (by kernel_rfl) (by kernel_rfl) ?_ ?_ hHl ?_
          rotate_left
          · simp only [gA, gB, gC]; rfl
          · exact fun _ _ _ h => h
          · exact Or.inl ⟨by kernel_rfl, fun w hSw => by obtain ⟨s0, s1, s2⟩ := hSw; go_simp⟩
          try simp only [Act.put, gD, gE, gF]
          refine wpAnyH_take (i := 2) (oi := ?oid2) (v := .slice (some ⟨gx, 0, none⟩) xn xc) ?_ (by kernel_rfl) (by kernel_rfl) (by kernel_rfl) ?_ ?_ hHl ?_
          rotate_left
          · simp only [gA, gB, gC]; rfl
          · exact fun _ _ _ h => h
          · exact Or.inl ⟨by kernel_rfl, fun w hSw => by go_simp⟩
          try simp only [Act.put, gD, gE, gF]
          refine wpAnyH_take (i := 3) (oi := ?oid3) (v := .int .i64 (m : Int)) ?_ (by kernel_rfl) (by kernel_rfl) (by kernel_rfl) ?_ ?_ hHl ?_
          rotate_left
          · simp only [gA, gB, gC]; rfl
          · exact fun _ _ _ h => h
          · exact Or.inl ⟨by kernel_rfl, fun w hSw => by go_simp⟩
          try simp only [Act.put, gD, gE, gF]
          refine wpAnyH_take (i := 4) (oi := ?oid4) (v := .pointer (some ⟨gx, m * 2, none⟩)) ?_ (by kernel_rfl) (by kernel_rfl) (by kernel_rfl) ?_ ?_ hHl ?_
          rotate_left
          · simp only [gA, gB, gC]; rfl
          · exact fun _ _ _ h => h
          · exact Or.inl ⟨by kernel_rfl, fun w hSw => by go_simp⟩
          try simp only [Act.put, gD, gE, gF]
          refine wpAnyH_take (i := 5) (oi := ?oid5) (v := .pointer (some ⟨gx, m * 2, none⟩)) ?_ (by kernel_rfl) (by kernel_rfl) (by kernel_rfl) ?_ ?_ hHl ?_
          rotate_left
          · simp only [gA, gB, gC]; rfl
          · exact fun _ _ _ h => h
          · exact Or.inl ⟨by kernel_rfl, fun w hSw => by go_simp⟩
          try simp only [Act.put, gD, gE, gF]
          refine wpAnyH_take (i := 6) (oi := ?oid6) (v := .int .i64 (a : Int)) ?_ (by kernel_rfl) (by kernel_rfl) (by kernel_rfl) ?_ ?_ hHl ?_
          rotate_left
          · simp only [gA, gB, gC]; rfl
          · exact fun _ _ _ h => h
          · exact Or.inl ⟨by kernel_rfl, fun w hSw => by obtain ⟨s0, s1, s2⟩ := hSw; go_simp⟩
          try simp only [Act.put, gD, gE, gF]
          refine wpAnyH_take (i := 9) (oi := ?oid9) (v := .slice (some ⟨gx, 0, none⟩) xn xc) ?_ (by kernel_rfl) (by kernel_rfl) (by kernel_rfl) ?_ ?_ hHl ?_
          rotate_left
          · simp only [gA, gB, gC]; rfl
          · exact fun _ _ _ h => h
          · exact Or.inl ⟨by kernel_rfl, fun w hSw => by go_simp⟩
          try simp only [Act.put, gD, gE, gF]
          refine wpAnyH_take (i := 10) (oi := ?oid10) (v := .int .i64 (m : Int)) ?_ (by kernel_rfl) (by kernel_rfl) (by kernel_rfl) ?_ ?_ hHl ?_
          rotate_left
          · simp only [gA, gB, gC]; rfl
          · exact fun _ _ _ h => h
          · exact Or.inl ⟨by kernel_rfl, fun w hSw => by go_simp⟩
          try simp only [Act.put, gD, gE, gF]
          refine wpAnyH_take (i := 11) (oi := ?oid11) (v := .pointer (some ⟨gx, m * 2, none⟩)) ?_ (by kernel_rfl) (by kernel_rfl) (by kernel_rfl) ?_ ?_ hHl ?_
          rotate_left
          · simp only [gA, gB, gC]; rfl
          · exact fun _ _ _ h => h
          · exact Or.inl ⟨by kernel_rfl, fun w hSw => by go_simp⟩
          try simp only [Act.put, gD, gE, gF]
          refine wpAnyH_take (i := 12) (oi := ?oid12) (v := .pointer (some ⟨gx, m * 2 + 1, none⟩)) ?_ (by kernel_rfl) (by kernel_rfl) (by kernel_rfl) ?_ ?_ hHl ?_
          rotate_left
          · simp only [gA, gB, gC]; rfl
          · exact fun _ _ _ h => h
          · exact Or.inl ⟨by kernel_rfl, fun w hSw => by go_simp⟩
          try simp only [Act.put, gD, gE, gF]
          refine wpAnyH_take (i := 13) (oi := ?oid13) (v := .int .i64 (b : Int)) ?_ (by kernel_rfl) (by kernel_rfl) (by kernel_rfl) ?_ ?_ hHl ?_
          rotate_left
          · simp only [gA, gB, gC]; rfl
          · exact fun _ _ _ h => h
          · exact Or.inl ⟨by kernel_rfl, fun w hSw => by obtain ⟨s0, s1, s2⟩ := hSw; go_simp⟩
          try simp only [Act.put, gD, gE, gF]
          refine wpAnyH_ready (rs := [1]) (by kernel_rfl) (by simp) (AllReadyH.cons (o := ?ood1) ?_ (fun K hK => ?_) AllReadyH.nil)
          rotate_left
          · simp only [gA, gB, gC]; rfl
          go_simp
          go_at_call 6
          refine (hf1 wr.drew (Below.drew (Below.refl _ _))).mono ?_
          rintro e y1 ⟨gv, gus, rfl, og, _, bq⟩
          have Y1 : Hid (Below wr.heap.size wr y1) := Below.trans (Below.drew (Below.refl _ _)) bq
          obtain ⟨ga, gn, gc, rfl⟩ := ji6 og.row
          obtain rfl := ownSS_len og
          obtain ⟨gg, hgg⟩ := qg8 og (by omega)
          subst hgg
          obtain ⟨ug, _, cg, oug⟩ := og.at (j := a) ha1
          obtain ⟨gua, guc, rfl⟩ := jp3 (jb8 oug)
          obtain ⟨gu, ou, hgu⟩ := reads_some (jb8 oug) (by omega)
          subst hgu
          have cu := qf3 (jb8 oug) hb1
          rw [hz] at cu
          clear bq og oug
          try go_wp2_with fail
          refine hK.out _ _ (HS9.out _ Y1.out) (fun hHl => ?_)
          clear hK K
          try simp only [Act.put, gD, gE, gF]
          refine wpAnyH_take (i := 7) (oi := ?oid7) (v := .pointer (some ⟨gg, a, none⟩)) ?_ (by kernel_rfl) (by kernel_rfl) (by kernel_rfl) ?_ ?_ hHl ?_
          rotate_left
          · simp only [gA, gB, gC]; rfl
          · exact fun _ _ _ h => h
          · exact Or.inl ⟨by kernel_rfl, fun w hSw => by go_simp⟩
          try simp only [Act.put, gD, gE, gF]
          refine wpAnyH_ready (rs := [8]) (by kernel_rfl) (by simp) (AllReadyH.cons (o := ?ood8) ?_ (fun K hK => ?_) AllReadyH.nil)
          rotate_left
          · simp only [gA, gB, gC]; rfl
          go_simp
          try go_wp2_with fail
          refine hK.out _ _ (HS9.out _ Y1.out) (fun hHl => ?_)
          clear hK K
          try simp only [Act.put, gD, gE, gF]
          refine wpAnyH_take (i := 14) (oi := ?oid14) (v := .pointer (some ⟨gu, ou + b, none⟩)) ?_ (by kernel_rfl) (by kernel_rfl) (by kernel_rfl) ?_ ?_ hHl ?_
          rotate_left
          · simp only [gA, gB, gC]; rfl
          · exact fun _ _ _ h => h
          · exact Or.inl ⟨by kernel_rfl, fun w hSw => by go_simp⟩
          try simp only [Act.put, gD, gE, gF]
          refine wpAnyH_ready (rs := [15]) (by kernel_rfl) (by simp) (AllReadyH.cons (o := ?ood15) ?_ (fun K hK => ?_) AllReadyH.nil)
          rotate_left
          · simp only [gA, gB, gC]; rfl
          go_simp
          try go_wp2_with fail
          refine hK.out _ _ (HS9.out _ Y1.out) (fun hHl => ?_)
          clear hK K
          try simp only [Act.put, gD, gE, gF]
          refine wpAnyH_take (i := 16) (oi := ?oid16) (v := .bool false) ?_ (by kernel_rfl) (by kernel_rfl) (by kernel_rfl) ?_ ?_ hHl ?_
          rotate_left
          · simp only [gA, gB, gC]; rfl
          · exact fun _ _ _ h => h
          · exact Or.inl ⟨by kernel_rfl, fun w hSw => by go_simp⟩
          try simp only [Act.put, gD, gE, gF]
          refine wpAnyH_take (i := 17) (oi := ?oid17) (v := .bool false) ?_ (by kernel_rfl) (by kernel_rfl) (by kernel_rfl) ?_ ?_ hHl ?_
          rotate_left
          · simp only [gA, gB, gC]; rfl
          · exact fun _ _ _ h => h
          · exact Or.inl ⟨by kernel_rfl, fun w hSw => by go_simp⟩
          try simp only [Act.put, gD, gE, gF]
          refine wpAnyH_take (i := 18) (oi := ?oid18) (v := .slice (some ⟨gx, 0, none⟩) xn xc) ?_ (by kernel_rfl) (by kernel_rfl) (by kernel_rfl) ?_ ?_ hHl ?_
          rotate_left
          · simp only [gA, gB, gC]; rfl
          · exact fun _ _ _ h => h
          · exact Or.inl ⟨by kernel_rfl, fun w hSw => by go_simp⟩
          try simp only [Act.put, gD, gE, gF]
          refine wpAnyH_take (i := 19) (oi := ?oid19) (v := .int .i64 (m : Int)) ?_ (by kernel_rfl) (by kernel_rfl) (by kernel_rfl) ?_ ?_ hHl ?_
          rotate_left
          · simp only [gA, gB, gC]; rfl
          · exact fun _ _ _ h => h
          · exact Or.inl ⟨by kernel_rfl, fun w hSw => by go_simp⟩
          try simp only [Act.put, gD, gE, gF]
          refine wpAnyH_take (i := 20) (oi := ?oid20) (v := .pointer (some ⟨gx, m * 2, none⟩)) ?_ (by kernel_rfl) (by kernel_rfl) (by kernel_rfl) ?_ ?_ hHl ?_
          rotate_left
          · simp only [gA, gB, gC]; rfl
          · exact fun _ _ _ h => h
          · exact Or.inl ⟨by kernel_rfl, fun w hSw => by go_simp⟩
          try simp only [Act.put, gD, gE, gF]
          refine wpAnyH_take (i := 21) (oi := ?oid21) (v := .agg #[.int .i64 (a : Int), .int .i64 (b : Int)]) ?_ (by kernel_rfl) (by kernel_rfl) (by kernel_rfl) ?_ ?_ hHl ?_
          rotate_left
          · simp only [gA, gB, gC]; rfl
          · exact fun _ _ _ h => h
          · exact Or.inl ⟨by kernel_rfl, fun w hSw => by obtain ⟨s0, s1, s2⟩ := hSw; go_simp⟩
          try simp only [Act.put, gD, gE, gF]
          refine wpAnyH_take (i := 22) (oi := ?oid22) (v := .agg #[.int .i64 0, .int .i64 0]) ?_ (by kernel_rfl) (by kernel_rfl) (by kernel_rfl) ?_ ?_ hHl ?_
          rotate_left
          · simp only [gA, gB, gC]; rfl
          · exact fun _ _ _ h => h
          · exact Or.inl ⟨by kernel_rfl, fun w hSw => by go_simp⟩
          try simp only [Act.put, gD, gE, gF]
          refine wpAnyH_take (i := 23) (oi := ?oid23) (v := .bool false) ?_ (by kernel_rfl) (by kernel_rfl) (by kernel_rfl) ?_ ?_ hHl ?_
          rotate_left
          · simp only [gA, gB, gC]; rfl
          · exact fun _ _ _ h => h
          · exact Or.inl ⟨by kernel_rfl, fun w hSw => by go_simp⟩
          try simp only [Act.put, gD, gE, gF]
          refine wpAnyH_take (i := 24) (oi := ?oid24) (v := .bool false) ?_ (by kernel_rfl) (by kernel_rfl) (by kernel_rfl) ?_ ?_ hHl ?_
          rotate_left
          · simp only [gA, gB, gC]; rfl
          · exact fun _ _ _ h => h
          · exact Or.inl ⟨by kernel_rfl, fun w hSw => by go_simp⟩
          try simp only [Act.put, gD, gE, gF]
          refine wpAnyH_done (by kernel_rfl) ?_ _
          have BZ : Hid (Below zn.heap.size zn y1) := jd5 HBX.out Y1.out
          clear cg cu
          go_wp2
          go_roundw
          case rel => exact ⟨m + 1, by omega, by go_num, BZ.out⟩
          case measure => simp [intOf]; omega
        · obtain rfl : m = xn := by omega
          have hnm : ¬ (m : Int) < (m : Int) := by omega
          have HLE : Hid (Below w.heap.size w wr) := jd5 LWn.out hbr
          have RPr : Hid (jc5 wr (.slice (some ⟨gp, op, none⟩) ps.length pc) ps) := ja0 RPn.out hbr
          obtain ⟨ss, hss⟩ : ∃ ss, ps[0]? = some ss := ⟨ps[0], by simp [hps1]⟩
          obtain ⟨px, cpx, rpx⟩ := qb2 RPr.out hss
          rw [Nat.add_zero] at cpx
          obtain ⟨pxa, pxc, rfl⟩ := qb1 rpx
          obtain ⟨uf, _, cf, ouf⟩ := (OLn.out.below hbr).at (j := 0) (by omega)
          have HUF0 : Hid (jf2 wr uf (ints (A.getD 0 []))) := by
           show jf2 wr uf (ints (A.getD 0 []))
           have e9 : A.getD 0 [] = A[0]'(by omega) := by
            have : 0 < A.length := by omega
            simp [List.getD, this]
           rw [e9]
           exact jb8 ouf
          have hca := fun X (hX : Below wr.heap.size wr X) => specCalls ps 0 (.slice (some ⟨gp, op, none⟩) ps.length pc) X hps hpe (ja0 RPr.out hX)
          have hCA12 := qc0 ps 0
          have HSV : Hid (jl3 ps 0 = [] → ∀ S, jo9 c ss (jd7 c) S → A.getD 0 [] = S) := fun h9 S hS => HFF.out.solved h9 ss hss S hS
          obtain ⟨CA, hCA⟩ : ∃ x, jl3 ps 0 = x := ⟨_, rfl⟩
          rw [hCA] at hca hCA12 HSV
          have HS9 : Hid (∀ X, Below wr.heap.size wr X → X.cell? ⟨bP, 0, none⟩ = some (.slice (some ⟨gp, op, none⟩) ps.length pc) ∧ X.cell? ⟨gf, 0, none⟩ = some uf ∧ X.cell? ⟨gp, op, none⟩ = some (.slice pxa ss.length pxc)) := fun X hX => ⟨jc0 cPr hX, jc0 cf hX, jc0 cpx hX⟩
          have hS9 := HS9.out wr (Below.refl _ _)
          have hp0 : (0 : Int) < (A.length : Int) := by omega
          have hpp0 : (0 : Int) < (ps.length : Int) := by omega
          have RX0 : Hid (jg5 wr (.slice pxa ss.length pxc) ss) := rpx
          have hssm : ss.length ≤ maxLen := hpe ss (List.mem_of_getElem? hss)
          clear hbr hCA ouf rpx
          by_cases hc0 : CA.length = 0
          · have hc0' : ¬ (0 : Int) < (CA.length : Int) := by omega
            obtain ⟨S, hS⟩ := jt0 c ss (jd7 c)
            have hSl := jz0 hS
            have hSm : S.length ≤ maxLen := by unfold maxLen; omega
            have eS := HSV.out (List.eq_nil_of_length_eq_zero hc0) S hS
            rw [eS] at HUF0
            have HUF : Hid (jf2 wr uf (ints S)) := HUF0
            have hst := fun X (hX : Below wr.heap.size wr X) => implStart c X
            have hso := fun X (hX : Below wr.heap.size wr X) => implSolved ss c (jd7 c) S hS (.slice pxa ss.length pxc) X hssm (jc3 RX0.out hX)
            clear eS hS HSV
            go_wp2_with fail
            refine wp_region_held_drew (S := fun X => X.cell? ⟨bP, 0, none⟩ = some (.slice (some ⟨gp, op, none⟩) ps.length pc) ∧ X.cell? ⟨gf, 0, none⟩ = some (uf) ∧ X.cell? ⟨gp, op, none⟩ = some (.slice pxa ss.length pxc)) (by kernel_rfl) hS9 (fun hHl => ?_)
            refine wpAnyH_take (i := 0) (oi := ?oie0) (v := .agg #[.slice (some ⟨gp, op, none⟩) ps.length pc]) ?_ (by kernel_rfl) (by kernel_rfl) (by kernel_rfl) ?_ ?_ hHl ?_
            rotate_left
            · simp only [gA, gB, gC]; rfl
            · exact fun _ _ _ h => h
            · exact Or.inl ⟨by kernel_rfl, fun w hSw => by obtain ⟨s0, s1, s2⟩ := hSw; go_simp⟩
            try simp only [Act.put, gD, gE, gF]
            refine wpAnyH_ready (rs := [1]) (by kernel_rfl) (by simp) (AllReadyH.cons (o := ?ooe1) ?_ (fun K hK => ?_) AllReadyH.nil)
            rotate_left
            · simp only [gA, gB, gC]; rfl
            go_simp
            go_at_call 19
            refine (hca wr.drew (Below.drew (Below.refl _ _))).mono ?_
            rintro e y1 ⟨cv, rfl, oc, bq⟩
            have Y1 : Hid (Below wr.heap.size wr y1) := Below.trans (Below.drew (Below.refl _ _)) bq
            obtain ⟨cva, cvc, rfl⟩ := jp3 (jb8 oc)
            clear bq oc
            try go_wp2_with fail
            refine hK.out _ _ (HS9.out _ Y1.out) (fun hHl => ?_)
            clear hK K
            try simp only [Act.put, gD, gE, gF]
            refine wpAnyH_take (i := 2) (oi := ?oie2) (v := .int .i64 (CA.length : Int)) ?_ (by kernel_rfl) (by kernel_rfl) (by kernel_rfl) ?_ ?_ hHl ?_
            rotate_left
            · simp only [gA, gB, gC]; rfl
            · exact fun _ _ _ h => h
            · exact Or.inl ⟨by kernel_rfl, fun w hSw => by go_simp⟩
            try simp only [Act.put, gD, gE, gF]
            refine wpAnyH_take (i := 3) (oi := ?oie3) (v := .bool false) ?_ (by kernel_rfl) (by kernel_rfl) (by kernel_rfl) ?_ ?_ hHl ?_
            rotate_left
            · simp only [gA, gB, gC]; rfl
            · exact fun _ _ _ h => h
            · exact Or.inl ⟨by kernel_rfl, fun w hSw => by go_simp; (try omega)⟩
            try simp only [Act.put, gD, gE, gF]
            refine wpAnyH_take (i := 4) (oi := ?oie4) (v := .bool false) ?_ (by kernel_rfl) (by kernel_rfl) (by kernel_rfl) ?_ ?_ hHl ?_
            rotate_left
            · simp only [gA, gB, gC]; rfl
            · exact fun _ _ _ h => h
            · exact Or.inl ⟨by kernel_rfl, fun w hSw => by go_simp⟩
            try simp only [Act.put, gD, gE, gF]
            refine wpAnyH_take (i := 5) (oi := ?oie5) (v := .slice (some ⟨gf, 0, none⟩) A.length fc) ?_ (by kernel_rfl) (by kernel_rfl) (by kernel_rfl) ?_ ?_ hHl ?_
            rotate_left
            · simp only [gA, gB, gC]; rfl
            · exact fun _ _ _ h => h
            · exact Or.inl ⟨by kernel_rfl, fun w hSw => by go_simp⟩
            try simp only [Act.put, gD, gE, gF]
            refine wpAnyH_take (i := 6) (oi := ?oie6) (v := .pointer (some ⟨gf, 0, none⟩)) ?_ (by kernel_rfl) (by kernel_rfl) (by kernel_rfl) ?_ ?_ hHl ?_
            rotate_left
            · simp only [gA, gB, gC]; rfl
            · exact fun _ _ _ h => h
            · exact Or.inl ⟨by kernel_rfl, fun w hSw => by go_simp⟩
            try simp only [Act.put, gD, gE, gF]
            refine wpAnyH_take (i := 7) (oi := ?oie7) (v := uf) ?_ (by kernel_rfl) (by kernel_rfl) (by kernel_rfl) ?_ ?_ hHl ?_
            rotate_left
            · simp only [gA, gB, gC]; rfl
            · exact fun _ _ _ h => h
            · exact Or.inl ⟨by kernel_rfl, fun w hSw => by obtain ⟨s0, s1, s2⟩ := hSw; go_simp⟩
            try simp only [Act.put, gD, gE, gF]
            refine wpAnyH_take (i := 8) (oi := ?oie8) (v := .pointer (some ⟨bP, 0, none⟩)) ?_ (by kernel_rfl) (by kernel_rfl) (by kernel_rfl) ?_ ?_ hHl ?_
            rotate_left
            · simp only [gA, gB, gC]; rfl
            · exact fun _ _ _ h => h
            · exact Or.inl ⟨by kernel_rfl, fun w hSw => by go_simp⟩
            try simp only [Act.put, gD, gE, gF]
            refine wpAnyH_take (i := 9) (oi := ?oie9) (v := .slice (some ⟨gp, op, none⟩) ps.length pc) ?_ (by kernel_rfl) (by kernel_rfl) (by kernel_rfl) ?_ ?_ hHl ?_
            rotate_left
            · simp only [gA, gB, gC]; rfl
            · exact fun _ _ _ h => h
            · exact Or.inl ⟨by kernel_rfl, fun w hSw => by obtain ⟨s0, s1, s2⟩ := hSw; go_simp⟩
            try simp only [Act.put, gD, gE, gF]
            refine wpAnyH_take (i := 10) (oi := ?oie10) (v := .pointer (some ⟨gp, op, none⟩)) ?_ (by kernel_rfl) (by kernel_rfl) (by kernel_rfl) ?_ ?_ hHl ?_
            rotate_left
            · simp only [gA, gB, gC]; rfl
            · exact fun _ _ _ h => h
            · exact Or.inl ⟨by kernel_rfl, fun w hSw => by go_simp⟩
            try simp only [Act.put, gD, gE, gF]
            refine wpAnyH_take (i := 11) (oi := ?oie11) (v := .agg #[.slice pxa ss.length pxc]) ?_ (by kernel_rfl) (by kernel_rfl) (by kernel_rfl) ?_ ?_ hHl ?_
            rotate_left
            · simp only [gA, gB, gC]; rfl
            · exact fun _ _ _ h => h
            · exact Or.inl ⟨by kernel_rfl, fun w hSw => by obtain ⟨s0, s1, s2⟩ := hSw; go_simp⟩
            try simp only [Act.put, gD, gE, gF]
            refine wpAnyH_take (i := 12) (oi := ?oie12) (v := .int .i64 c) ?_ (by kernel_rfl) (by kernel_rfl) (by kernel_rfl) ?_ ?_ hHl ?_
            rotate_left
            · simp only [gA, gB, gC]; rfl
            · exact fun _ _ _ h => h
            · exact Or.inl ⟨by kernel_rfl, fun w hSw => by go_simp⟩
            try simp only [Act.put, gD, gE, gF]
            refine wpAnyH_take (i := 13) (oi := ?oie13) (v := .int .i64 c) ?_ (by kernel_rfl) (by kernel_rfl) (by kernel_rfl) ?_ ?_ hHl ?_
            rotate_left
            · simp only [gA, gB, gC]; rfl
            · exact fun _ _ _ h => h
            · exact Or.inl ⟨by kernel_rfl, fun w hSw => by go_simp⟩
            try simp only [Act.put, gD, gE, gF]
            refine wpAnyH_ready (rs := [14]) (by kernel_rfl) (by simp) (AllReadyH.cons (o := ?ooe14) ?_ (fun K hK => ?_) AllReadyH.nil)
            rotate_left
            · simp only [gA, gB, gC]; rfl
            go_simp
            go_at_call 21
            refine (hst y1 Y1.out).mono ?_
            rintro e y2 ⟨rfl, bq⟩
            have Y2 : Hid (Below wr.heap.size wr y2) := jd5 Y1.out bq
            clear bq 
            try go_wp2_with fail
            refine hK.out _ _ (HS9.out _ Y2.out) (fun hHl => ?_)
            clear hK K
            try simp only [Act.put, gD, gE, gF]
            refine wpAnyH_ready (rs := [15]) (by kernel_rfl) (by simp) (AllReadyH.cons (o := ?ooe15) ?_ (fun K hK => ?_) AllReadyH.nil)
            rotate_left
            · simp only [gA, gB, gC]; rfl
            go_simp
            go_at_call 20
            refine (hso y2 Y2.out).mono ?_
            rintro e y3 ⟨sv, rfl, os1, bq⟩
            have Y3 : Hid (Below wr.heap.size wr y3) := jd5 Y2.out bq
            have RS : Hid (jf2 y3 sv (ints S)) := jb8 os1
            clear bq os1
            try go_wp2_with fail
            refine hK.out _ _ (HS9.out _ Y3.out) (fun hHl => ?_)
            clear hK K
            try simp only [Act.put, gD, gE, gF]
            refine wpAnyH_ready (rs := [16]) (by kernel_rfl) (by simp) (AllReadyH.cons (o := ?ooe16) ?_ (fun K hK => ?_) AllReadyH.nil)
            rotate_left
            · simp only [gA, gB, gC]; rfl
            go_simp
            go_at_call 15
            refine (likeInts S uf sv y3 hSm (jb9 HUF.out Y3.out) RS.out).mono ?_
            rintro e y4 ⟨rfl, bq⟩
            have Y4 : Hid (Below wr.heap.size wr y4) := jd5 Y3.out bq
            clear bq RS
            try go_wp2_with fail
            refine hK.out _ _ (HS9.out _ Y4.out) (fun hHl => ?_)
            clear hK K
            try simp only [Act.put, gD, gE, gF]
            refine wpAnyH_take (i := 17) (oi := ?oie17) (v := .bool true) ?_ (by kernel_rfl) (by kernel_rfl) (by kernel_rfl) ?_ ?_ hHl ?_
            rotate_left
            · simp only [gA, gB, gC]; rfl
            · exact fun _ _ _ h => h
            · exact Or.inl ⟨by kernel_rfl, fun w hSw => by go_simp⟩
            try simp only [Act.put, gD, gE, gF]
            refine wpAnyH_take (i := 18) (oi := ?oie18) (v := .bool true) ?_ (by kernel_rfl) (by kernel_rfl) (by kernel_rfl) ?_ ?_ hHl ?_
            rotate_left
            · simp only [gA, gB, gC]; rfl
            · exact fun _ _ _ h => h
            · exact Or.inl ⟨by kernel_rfl, fun w hSw => by go_simp⟩
            try simp only [Act.put, gD, gE, gF]
            refine wpAnyH_done (by kernel_rfl) ?_ _
            go_wp2
            go_ret
            exact ⟨rfl, jd5 HLE.out Y4.out⟩
          · have hc0' : (0 : Int) < (CA.length : Int) := by omega
            go_wp2_with fail
            refine wp_region_held_drew (S := fun X => X.cell? ⟨bP, 0, none⟩ = some (.slice (some ⟨gp, op, none⟩) ps.length pc) ∧ X.cell? ⟨gf, 0, none⟩ = some (uf) ∧ X.cell? ⟨gp, op, none⟩ = some (.slice pxa ss.length pxc)) (by kernel_rfl) hS9 (fun hHl => ?_)
            refine wpAnyH_take (i := 0) (oi := ?oif0) (v := .agg #[.slice (some ⟨gp, op, none⟩) ps.length pc]) ?_ (by kernel_rfl) (by kernel_rfl) (by kernel_rfl) ?_ ?_ hHl ?_
            rotate_left
            · simp only [gA, gB, gC]; rfl
            · exact fun _ _ _ h => h
            · exact Or.inl ⟨by kernel_rfl, fun w hSw => by obtain ⟨s0, s1, s2⟩ := hSw; go_simp⟩
            try simp only [Act.put, gD, gE, gF]
            refine wpAnyH_ready (rs := [1]) (by kernel_rfl) (by simp) (AllReadyH.cons (o := ?oof1) ?_ (fun K hK => ?_) AllReadyH.nil)
            rotate_left
            · simp only [gA, gB, gC]; rfl
            go_simp
            go_at_call 19
            refine (hca wr.drew (Below.drew (Below.refl _ _))).mono ?_
            rintro e y1 ⟨cv, rfl, oc, bq⟩
            have Y1 : Hid (Below wr.heap.size wr y1) := Below.trans (Below.drew (Below.refl _ _)) bq
            obtain ⟨cva, cvc, rfl⟩ := jp3 (jb8 oc)
            clear bq oc
            try go_wp2_with fail
            refine hK.out _ _ (HS9.out _ Y1.out) (fun hHl => ?_)
            clear hK K
            try simp only [Act.put, gD, gE, gF]
            refine wpAnyH_take (i := 2) (oi := ?oif2) (v := .int .i64 (CA.length : Int)) ?_ (by kernel_rfl) (by kernel_rfl) (by kernel_rfl) ?_ ?_ hHl ?_
            rotate_left
            · simp only [gA, gB, gC]; rfl
            · exact fun _ _ _ h => h
            · exact Or.inl ⟨by kernel_rfl, fun w hSw => by go_simp⟩
            try simp only [Act.put, gD, gE, gF]
            refine wpAnyH_take (i := 3) (oi := ?oif3) (v := .bool true) ?_ (by kernel_rfl) (by kernel_rfl) (by kernel_rfl) ?_ ?_ hHl ?_
            rotate_left
            · simp only [gA, gB, gC]; rfl
            · exact fun _ _ _ h => h
            · exact Or.inl ⟨by kernel_rfl, fun w hSw => by go_simp; (try omega)⟩
            try simp only [Act.put, gD, gE, gF]
            refine wpAnyH_take (i := 4) (oi := ?oif4) (v := .bool true) ?_ (by kernel_rfl) (by kernel_rfl) (by kernel_rfl) ?_ ?_ hHl ?_
            rotate_left
            · simp only [gA, gB, gC]; rfl
            · exact fun _ _ _ h => h
            · exact Or.inl ⟨by kernel_rfl, fun w hSw => by go_simp⟩
            try simp only [Act.put, gD, gE, gF]
            refine wpAnyH_take (i := 5) (oi := ?oif5) (v := undef) ?_ (by kernel_rfl) (by kernel_rfl) (by kernel_rfl) ?_ ?_ hHl ?_
            rotate_left
            · simp only [gA, gB, gC]; rfl
            · exact fun _ _ _ h => h
            · exact Or.inr ⟨by kernel_rfl, rfl⟩
            try simp only [Act.put, gD, gE, gF]
            refine wpAnyH_take (i := 6) (oi := ?oif6) (v := undef) ?_ (by kernel_rfl) (by kernel_rfl) (by kernel_rfl) ?_ ?_ hHl ?_
            rotate_left
            · simp only [gA, gB, gC]; rfl
            · exact fun _ _ _ h => h
            · exact Or.inr ⟨by kernel_rfl, rfl⟩
            try simp only [Act.put, gD, gE, gF]
            refine wpAnyH_take (i := 7) (oi := ?oif7) (v := undef) ?_ (by kernel_rfl) (by kernel_rfl) (by kernel_rfl) ?_ ?_ hHl ?_
            rotate_left
            · simp only [gA, gB, gC]; rfl
            · exact fun _ _ _ h => h
            · exact Or.inr ⟨by kernel_rfl, rfl⟩
            try simp only [Act.put, gD, gE, gF]
            refine wpAnyH_take (i := 8) (oi := ?oif8) (v := undef) ?_ (by kernel_rfl) (by kernel_rfl) (by kernel_rfl) ?_ ?_ hHl ?_
            rotate_left
            · simp only [gA, gB, gC]; rfl
            · exact fun _ _ _ h => h
            · exact Or.inr ⟨by kernel_rfl, rfl⟩
            try simp only [Act.put, gD, gE, gF]
            refine wpAnyH_take (i := 9) (oi := ?oif9) (v := undef) ?_ (by kernel_rfl) (by kernel_rfl) (by kernel_rfl) ?_ ?_ hHl ?_
            rotate_left
            · simp only [gA, gB, gC]; rfl
            · exact fun _ _ _ h => h
            · exact Or.inr ⟨by kernel_rfl, rfl⟩
            try simp only [Act.put, gD, gE, gF]
            refine wpAnyH_take (i := 10) (oi := ?oif10) (v := undef) ?_ (by kernel_rfl) (by kernel_rfl) (by kernel_rfl) ?_ ?_ hHl ?_
            rotate_left
            · simp only [gA, gB, gC]; rfl
            · exact fun _ _ _ h => h
            · exact Or.inr ⟨by kernel_rfl, rfl⟩
            try simp only [Act.put, gD, gE, gF]
            refine wpAnyH_take (i := 11) (oi := ?oif11) (v := undef) ?_ (by kernel_rfl) (by kernel_rfl) (by kernel_rfl) ?_ ?_ hHl ?_
            rotate_left
            · simp only [gA, gB, gC]; rfl
            · exact fun _ _ _ h => h
            · exact Or.inr ⟨by kernel_rfl, rfl⟩
            try simp only [Act.put, gD, gE, gF]
            refine wpAnyH_take (i := 12) (oi := ?oif12) (v := undef) ?_ (by kernel_rfl) (by kernel_rfl) (by kernel_rfl) ?_ ?_ hHl ?_
            rotate_left
            · simp only [gA, gB, gC]; rfl
            · exact fun _ _ _ h => h
            · exact Or.inr ⟨by kernel_rfl, rfl⟩
            try simp only [Act.put, gD, gE, gF]
            refine wpAnyH_take (i := 13) (oi := ?oif13) (v := undef) ?_ (by kernel_rfl) (by kernel_rfl) (by kernel_rfl) ?_ ?_ hHl ?_
            rotate_left
            · simp only [gA, gB, gC]; rfl
            · exact fun _ _ _ h => h
            · exact Or.inr ⟨by kernel_rfl, rfl⟩
            try simp only [Act.put, gD, gE, gF]
            refine wpAnyH_take (i := 14) (oi := ?oif14) (v := undef) ?_ (by kernel_rfl) (by kernel_rfl) (by kernel_rfl) ?_ ?_ hHl ?_
            rotate_left
            · simp only [gA, gB, gC]; rfl
            · exact fun _ _ _ h => h
            · exact Or.inr ⟨by kernel_rfl, rfl⟩
            try simp only [Act.put, gD, gE, gF]
            refine wpAnyH_take (i := 15) (oi := ?oif15) (v := undef) ?_ (by kernel_rfl) (by kernel_rfl) (by kernel_rfl) ?_ ?_ hHl ?_
            rotate_left
            · simp only [gA, gB, gC]; rfl
            · exact fun _ _ _ h => h
            · exact Or.inr ⟨by kernel_rfl, rfl⟩
            try simp only [Act.put, gD, gE, gF]
            refine wpAnyH_take (i := 16) (oi := ?oif16) (v := undef) ?_ (by kernel_rfl) (by kernel_rfl) (by kernel_rfl) ?_ ?_ hHl ?_
            rotate_left
            · simp only [gA, gB, gC]; rfl
            · exact fun _ _ _ h => h
            · exact Or.inr ⟨by kernel_rfl, rfl⟩
            try simp only [Act.put, gD, gE, gF]
            refine wpAnyH_take (i := 17) (oi := ?oif17) (v := .bool true) ?_ (by kernel_rfl) (by kernel_rfl) (by kernel_rfl) ?_ ?_ hHl ?_
            rotate_left
            · simp only [gA, gB, gC]; rfl
            · exact fun _ _ _ h => h
            · exact Or.inl ⟨by kernel_rfl, fun w hSw => by go_simp⟩
            try simp only [Act.put, gD, gE, gF]
            refine wpAnyH_take (i := 18) (oi := ?oif18) (v := .bool true) ?_ (by kernel_rfl) (by kernel_rfl) (by kernel_rfl) ?_ ?_ hHl ?_
            rotate_left
            · simp only [gA, gB, gC]; rfl
            · exact fun _ _ _ h => h
            · exact Or.inl ⟨by kernel_rfl, fun w hSw => by go_simp⟩
            try simp only [Act.put, gD, gE, gF]
            refine wpAnyH_done (by kernel_rfl) ?_ _
            go_wp2
            go_ret
            exact ⟨rfl, jd5 HLE.out Y1.out⟩
set_option maxRecDepth 100000 in
theorem liftedFnFacts (os : Os) (started : os.Started) (H : Type) (enc : TypeId × Value → H) :
 ReturnsInHanded {} Tryz.checked os 3 .any (Rows.fnFactsSpec.pre6 enc Tryz.prog Tryz.f3 Rows.fnFactsRow.domain false) (Rows.fnFactsSpec.post enc Tryz.prog Tryz.f3 false true false false) := by
 refine returnsInHanded_of_change (C := Tryz.checked) own started (by kernel_rfl) Tryz.func3
  (ChangeSpec.witness6 (enc := enc) (C := Tryz.checked) false ⟨#[], #[.slice none 0 0], []⟩ 8 (by kernel_rfl) (by kernel_rfl) (by kernel_rfl) (by kernel_rfl)) ?_
 intro W base args ds gs before hval0 hW hcnd _
 have hval : ∀ (j : Nat) t v, Tryz.f3.params[j]? = some t → args[j]? = some v → Value.okWide Tryz.prog W .any base t v := hval0
 have hW' := hW
 obtain ⟨p, q, hA0, hV, rfl, hfz, hnd⟩ := hW
 have hA : DataW.TrodAll enc Tryz.prog W 0 (fun _ => true) true Tryz.f3.params.toList args.toList ds p := hA0
 rw [Tryz.params3] at hA hval
 obtain ⟨v0, vs0, d0, ds0, p0, q0, hargs, rfl, rfl, h0, r0⟩ := trodAll_cons hA
 obtain ⟨rfl, rfl, rfl⟩ := trodAll_nil r0
 obtain rfl : args = #[v0] := by cases args; simp_all
 obtain ⟨rfl, rfl⟩ := trodVars_none hV
 obtain ⟨bs, hr, hl, hs⟩ := open_code Tryz.underlying22 Tryz.underlying5 cellsByte (hval 0 22 v0 rfl rfl) h0
 refine (walkFnFacts bs v0 W hl hr).mono fun e W' ⟨he, hb⟩ => ?_
 subst he
 refine ⟨_, rfl, law_post (tb := 4) laidOut ?_ hW' rfl Tryz.underlying4 rfl rfl hb⟩
 exact all_readable (P := Tryz.prog) (by kernel_rfl)
theorem overFnFacts : Rows.fnFactsRow.holds Tryz.pinned (OpenSpec.ofChange Rows.fnFactsSpec) :=
 OpenClaim.holds_of_wide 3 Tryz.f3 rfl rfl rfl rfl rfl rfl rfl ⟨rfl, rfl, rfl, rfl, rfl⟩ rfl rfl rfl rfl rfl (by kernel_rfl) Tryz.func3 (by kernel_rfl)
  (of_decide_eq_true (by kernel_rfl)) (by unfold Func.isWrapper; first | (rw [if_pos (by decide +kernel)]; kernel_rfl) | (rw [if_neg (by decide +kernel)]; exact ⟨rfl, rfl⟩))
  (fun os started H enc _ => liftedFnFacts os started H enc)
theorem fnFactsHolds : Rows.FnFactsSaid :=
 overFnFacts
#print axioms fnFactsHolds
end Go.Proofs.YtdkdhjhhbkcciaaGreat
