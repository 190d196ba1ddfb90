/-
  The law FnCircles.
-/
import Derived.Test.YtmloeldgeegddaaG34DrawKit
import Derived.Test.YtmloeldgeegddaaDrawProgs
import Derived.Test.YtmloeldgeegddaaG52FnKit
import Derived.Test.YtmloeldgeegddaaG33FnProgM
import Derived.Test.YtmloeldgeegddaaSpecOrder
import Derived.Test.YtmloeldgeegddaaSpecReach9
import Derived.Test.YtmloeldgeegddaaImplReach9
import Derived.Test.YtmloeldgeegddaaG06CallsBoth
import Derived.Test.YtmloeldgeegddaaRelTab
import Derived.Test.YtmloeldgeegddaaG03Progs
import Derived.Laws.AppendOwnNone
namespace Go.Proofs.Ytmloeldgeegddaa
open Go.ChangeShapes Go.WideShapes Go.ChangeAt Go.RowKit
set_option linter.unusedVariables false
set_option linter.unusedSimpArgs false
set_option maxHeartbeats 8000000
set_option maxRecDepth 20000
theorem own_shapeC {w : World} {base : Nat} {e : TypeId} {v : Value} {n : Nat} {xs : List Value} (h : w.ownsRow base e 1 v n xs) :
    (v = .slice none 0 0 ∧ n = 0 ∧ xs = []) ∨ ∃ g cap, v = .slice (some ⟨g, 0, none⟩) n cap ∧ xs.length = n ∧ (∀ j u, xs[j]? = some u → w.cell? ((⟨g, 0, none⟩ : Addr).add j) = some u) := by
  have hl := h.1
  simp only [Nat.mul_one] at hl
  rcases h.2 with ⟨rfl, rfl⟩ | ⟨g, cap, cur, rfl, _⟩
  · exact .inl ⟨rfl, rfl, List.eq_nil_of_length_eq_zero hl⟩
  · exact .inr ⟨g, cap, rfl, hl, h.cells rfl⟩
theorem low_step' {w W W' : World} (h : Below w.heap.size w W) (hb : Below W.heap.size W W') : Below w.heap.size w W' := low_step h hb
theorem low_box' {w W : World} {o : Obj} (h : Below w.heap.size w W) : Below w.heap.size w (W.alloc o) := low_box h o
theorem wpList_append_rowsC {P : Program} (w : World) {ops : Array Oper} {rest : List Oper} {o : Oper} {a : Act} {Q : Exit → Act → World → Prop} (hgd : o.guard = none) (s x : Operand) (t : TypeId)
    (ho : o.op = .call { callee := .builtin .append, args := #[s, x], argTypes := #[t, t] })
    (base : Nat) (e : TypeId) (i : TypeInfo) (z : Value) (bytes : Nat) (ht : P.underlying t = some (.slice e)) (hi : P.info? e = some i) (hz : i.zero = some z)
    (hsize : i.size = 1) (hby : i.bytes = bytes) (hzs : z.cells.size = 1)
    (v : Value) (n : Nat) (xs : List Value) (hs : a.eval s = v) (hown : w.ownsRow base e 1 v n xs)
    (u : Value) (base' m : Nat) (ys : List Value) (hx : a.eval x = u) (hsrc : w.ownsRow base' e 1 u m ys) (h1 : ∀ y ∈ ys, y.oneCell' = true)
    (h63 : n + m ≤ maxLen) (hbytes : (n + m) * bytes ≤ 140737488355328) (hbase : base ≤ w.heap.size)
    (h : ∀ v' w', w'.ownsRow base e 1 v' (n + m) (xs ++ ys) → w.grownBy w' v.ownBlock → wpList P ops Q rest (a.put o.dst v') w') : wpList P ops Q (o :: rest) a w := by
  rcases own_shapeC hsrc with ⟨rfl, rfl, rfl⟩ | ⟨g, cap, rfl, hl, hc⟩
  · exact wpList_append_own_none hgd s x t ho base e i 1 ht hi v n xs hs hown hx (h v w (by simpa using hown) (World.grownBy.refl _ _))
  · exact wpList_append_own w hgd s x t ho base e i z 1 bytes ht hi hz hsize hby hzs (by decide) v n xs hs hown ⟨g, 0, none⟩ m cap ys hx (by simpa using hl) hc h1 h63 hbytes hbase (fun v' w' a1 a2 _ => h v' w' a1 a2)
theorem below_row {X w w' : World} {row : Option Nat} (h : Below X.heap.size X w) (hg : w.grownBy w' row) (hr : ∀ k, row = some k → X.heap.size ≤ k) : Below X.heap.size X w' :=
  h.grown hg h.size hr
theorem flat_snoc {A : List (List Int)} {i : Nat} {xs : List Int} (h : A[i]? = some xs) : (A.take (i + 1)).flatten = (A.take i).flatten ++ xs := by
  rw [List.take_add_one, h]
  simp
theorem flat_le : ∀ (A : List (List Int)) (i : Nat), (A.take i).flatten.length ≤ A.flatten.length
  | [], i => by simp
  | a :: A, 0 => by simp
  | a :: A, i + 1 => by
    have := flat_le A i
    simp only [List.take_succ_cons, List.flatten_cons, List.length_append]
    omega

theorem walkFnCircles (bs : List Int) (v : Value) (w : World) (hl : bs.length ≤ maxLen) (hv : Reads w v (bs.map (Value.int .u8))) :
    Calls Try.prog 5 #[v] w fun e w' => e = .returned (.bool true) ∧ Below w.heap.size w w' := by
  have hbig := lawBig bs v w hl hv
  by_cases hb : (4096 : Int) < (bs.length : Int)
  · rw [decide_eq_true hb] at hbig
    go_enter Try.func5, Try.ntmps5
    go_wp2_with (go_at_call 6; refine hbig.mono ?_; rintro e w1 ⟨rfl, rfl⟩)
    go_ret
    exact ⟨rfl, Below.refl _ _⟩
  rw [decide_eq_false hb] at hbig
  go_enter Try.func5, Try.ntmps5
  go_wp2_with fail
  go_at_call 6
  refine hbig.mono ?_
  rintro e w1 ⟨rfl, rfl⟩
  clear hbig
  go_wp2_with fail
  go_at_call 33
  refine (drawCircles bs v w (by omega) hv).mono ?_
  rintro r w1 ⟨up, Lp, rfl, hp5, hp14, prp, b1⟩
  obtain ⟨ps, rp, hpL⟩ := prp.reads
  obtain ⟨hps, hpe⟩ := drawn_lensK hpL hp5 hp14
  obtain ⟨pa, pn, pc, rfl⟩ := prp.slice
  obtain rfl := readsP_len rp
  obtain ⟨c, o, rr, hcA, hoA, hrA, hN, hF⟩ := circles_asked ps
  obtain ⟨hAl, hAx⟩ := circA_len hcA
  obtain ⟨hOl, hOx⟩ := ordA_len hoA
  have him1 := fun W hW => implCircles ps c hcA (.slice pa ps.length pc) W hps hpe hW
  have hsm1 := fun W hW => specCircles ps c hcA (.slice pa ps.length pc) W hps hpe hW
  have him2 := fun W hW => implOrder ps o hoA (.slice pa ps.length pc) W hps hpe hW
  have hsm2 := fun W hW => specOrder ps o hoA (.slice pa ps.length pc) W hps hpe hW
  obtain ⟨A, hA⟩ : ∃ A, castLL c = A := ⟨_, rfl⟩
  obtain ⟨O, hO⟩ : ∃ O, castLL o = O := ⟨_, rfl⟩
  rw [hA] at him1 hsm1 hN hF hAl hAx
  rw [hO] at him2 hsm2 hN hF hOl hOx
  have HN : Hid (A.length = 0 → programOk ps = false ∧ O.length = 0) := hN
  have HF : Hid (0 < A.length → CirF ps A O rr) := hF
  have HRA : Hid (RelA ps rr) := hrA
  have hAm : A.length ≤ maxLen := by unfold maxLen; omega
  have hAxm : ∀ xs ∈ A, xs.length ≤ maxLen := fun xs hx => by have := hAx xs hx; unfold maxLen; omega
  have hOm : O.length ≤ maxLen := by unfold maxLen; omega
  have hOxm : ∀ xs ∈ O, xs.length ≤ maxLen := fun xs hx => by have := hOx xs hx; unfold maxLen; omega
  clear hN hF hrA hcA hoA hA hO
  have RV : Hid (Reads w1 v (bs.map (Value.int .u8))) := reads_below hv b1
  have LW : Hid (Below w.heap.size w w1) := b1
  have RP : Hid (ReadsP w1 (.slice pa ps.length pc) ps) := rp
  clear prp rp b1 hpL hp5 hp14
  obtain ⟨w2, hAw2⟩ : ∃ W, w1.alloc (.cells #[.slice pa ps.length pc] 26) = W := ⟨_, rfl⟩
  have bb : Below w1.heap.size w1 w2 := by rw [← hAw2]; go_grown
  obtain ⟨bP, hBw2⟩ : ∃ n, w1.heap.size = n := ⟨_, rfl⟩
  have Pn : Hid (w2.heap[bP]? = some (.cells #[.slice pa ps.length pc] 26 (0, 0))) := by
    show w2.heap[bP]? = _
    rw [← hAw2, ← hBw2]; exact heap_alloc_new w1 _
  have RVx : Hid (Reads w2 v (bs.map (Value.int .u8))) := reads_below RV.out bb
  have LWx : Hid (Below w.heap.size w w2) := low_step LW.out bb
  have RPx : Hid (ReadsP w2 (.slice pa ps.length pc) ps) := readsP_below RP.out bb
  clear RV LW RP
  have RV : Hid (Reads w2 v (bs.map (Value.int .u8))) := RVx.out
  have LW : Hid (Below w.heap.size w w2) := LWx.out
  have RP : Hid (ReadsP w2 (.slice pa ps.length pc) ps) := RPx.out
  clear RVx LWx RPx
  clear bb
  have P : Hid (w2.heap[bP]? = some (.cells #[.slice pa ps.length pc] 26 (0, 0))) := Pn.out
  clear Pn
  obtain ⟨cP, -⟩ := one_cell P.out
  have hcall := him1 w2 RP.out
  go_wp2_with fail
  go_at_call 34
  clear hAw2 hBw2
  refine hcall.mono ?_
  rintro r w3 ⟨lv, lus, rfl, ol, _, bc⟩
  clear hcall cP
  have RVx : Hid (Reads w3 v (bs.map (Value.int .u8))) := reads_below RV.out bc
  have LWx : Hid (Below w.heap.size w w3) := low_step LW.out bc
  have RPx : Hid (ReadsP w3 (.slice pa ps.length pc) ps) := readsP_below RP.out bc
  have Px : Hid (w3.heap[bP]? = some (.cells #[.slice pa ps.length pc] 26 (0, 0))) := box_step P.out bc
  clear RV LW RP P
  have RV : Hid (Reads w3 v (bs.map (Value.int .u8))) := RVx.out
  have LW : Hid (Below w.heap.size w w3) := LWx.out
  have RP : Hid (ReadsP w3 (.slice pa ps.length pc) ps) := RPx.out
  have P : Hid (w3.heap[bP]? = some (.cells #[.slice pa ps.length pc] 26 (0, 0))) := Px.out
  clear RVx LWx RPx Px
  obtain ⟨la, ln, lc, rfl⟩ := own_slice ol.row
  obtain rfl := ownSS_len ol
  have OL : Hid (OwnSS w3 (w2.heap.size) (.slice la A.length lc) lus A) := ol
  clear ol bc him1
  obtain ⟨cP, -⟩ := one_cell P.out
  have hcall := him2 w3 RP.out
  go_wp2_with fail
  go_at_call 35
  refine hcall.mono ?_
  rintro r w4 ⟨ov, ous, rfl, oo, _, bc⟩
  clear hcall cP
  have RVx : Hid (Reads w4 v (bs.map (Value.int .u8))) := reads_below RV.out bc
  have LWx : Hid (Below w.heap.size w w4) := low_step LW.out bc
  have RPx : Hid (ReadsP w4 (.slice pa ps.length pc) ps) := readsP_below RP.out bc
  have Px : Hid (w4.heap[bP]? = some (.cells #[.slice pa ps.length pc] 26 (0, 0))) := box_step P.out bc
  have OLx : Hid (OwnSS w4 (w2.heap.size) (.slice la A.length lc) lus A) := OwnSS.below OL.out bc
  clear RV LW RP P OL
  have RV : Hid (Reads w4 v (bs.map (Value.int .u8))) := RVx.out
  have LW : Hid (Below w.heap.size w w4) := LWx.out
  have RP : Hid (ReadsP w4 (.slice pa ps.length pc) ps) := RPx.out
  have P : Hid (w4.heap[bP]? = some (.cells #[.slice pa ps.length pc] 26 (0, 0))) := Px.out
  have OL : Hid (OwnSS w4 (w2.heap.size) (.slice la A.length lc) lus A) := OLx.out
  clear RVx LWx RPx Px OLx
  obtain ⟨oa, on, oc, rfl⟩ := own_slice oo.row
  obtain rfl := ownSS_len oo
  have OO : Hid (OwnSS w4 (w3.heap.size) (.slice oa O.length oc) ous O) := oo
  clear oo bc him2
  have hcall := drawReach bs v w4 (by omega) RV.out
  go_wp2_with fail
  go_at_call 36
  refine hcall.mono ?_
  rintro r w5 ⟨uq, Lq, i0, rfl, hq5, hq14, prq, bc⟩
  clear hcall
  have RVx : Hid (Reads w5 v (bs.map (Value.int .u8))) := reads_below RV.out bc
  have LWx : Hid (Below w.heap.size w w5) := low_step LW.out bc
  have RPx : Hid (ReadsP w5 (.slice pa ps.length pc) ps) := readsP_below RP.out bc
  have Px : Hid (w5.heap[bP]? = some (.cells #[.slice pa ps.length pc] 26 (0, 0))) := box_step P.out bc
  have OLx : Hid (OwnSS w5 (w2.heap.size) (.slice la A.length lc) lus A) := OwnSS.below OL.out bc
  have OOx : Hid (OwnSS w5 (w3.heap.size) (.slice oa O.length oc) ous O) := OwnSS.below OO.out bc
  clear RV LW RP P OL OO
  have RV : Hid (Reads w5 v (bs.map (Value.int .u8))) := RVx.out
  have LW : Hid (Below w.heap.size w w5) := LWx.out
  have RP : Hid (ReadsP w5 (.slice pa ps.length pc) ps) := RPx.out
  have P : Hid (w5.heap[bP]? = some (.cells #[.slice pa ps.length pc] 26 (0, 0))) := Px.out
  have OL : Hid (OwnSS w5 (w2.heap.size) (.slice la A.length lc) lus A) := OLx.out
  have OO : Hid (OwnSS w5 (w3.heap.size) (.slice oa O.length oc) ous O) := OOx.out
  clear RVx LWx RPx Px OLx OOx
  obtain ⟨qs, rq, hqL⟩ := prq.reads
  obtain ⟨hqs, hqe⟩ := drawn_lensK hqL hq5 hq14
  obtain ⟨qa, qn, qc, rfl⟩ := prq.slice
  obtain rfl := readsP_len rq
  obtain ⟨RA, hRA, hR4⟩ := reachA_some qs i0
  have HRR : Hid (Rises RA) := reach_rises hRA
  have hRm : RA.length ≤ maxLen := by unfold maxLen; omega
  obtain ⟨rq9, hrq⟩ := relA_some qs
  clear RV
  have RQ : Hid (ReadsP w5 (.slice qa qs.length qc) qs) := rq
  clear prq rq bc hqL hq5 hq14
  obtain ⟨w6, hAw6⟩ : ∃ W, w5.alloc (.cells #[.slice qa qs.length qc] 26) = W := ⟨_, rfl⟩
  have bb : Below w5.heap.size w5 w6 := by rw [← hAw6]; go_grown
  obtain ⟨bQ, hBw6⟩ : ∃ n, w5.heap.size = n := ⟨_, rfl⟩
  have Qn : Hid (w6.heap[bQ]? = some (.cells #[.slice qa qs.length qc] 26 (0, 0))) := by
    show w6.heap[bQ]? = _
    rw [← hAw6, ← hBw6]; exact heap_alloc_new w5 _
  have LWx : Hid (Below w.heap.size w w6) := low_step LW.out bb
  have RPx : Hid (ReadsP w6 (.slice pa ps.length pc) ps) := readsP_below RP.out bb
  have Px : Hid (w6.heap[bP]? = some (.cells #[.slice pa ps.length pc] 26 (0, 0))) := box_step P.out bb
  have OLx : Hid (OwnSS w6 (w2.heap.size) (.slice la A.length lc) lus A) := OwnSS.below OL.out bb
  have OOx : Hid (OwnSS w6 (w3.heap.size) (.slice oa O.length oc) ous O) := OwnSS.below OO.out bb
  have RQx : Hid (ReadsP w6 (.slice qa qs.length qc) qs) := readsP_below RQ.out bb
  clear LW RP P OL OO RQ
  have LW : Hid (Below w.heap.size w w6) := LWx.out
  have RP : Hid (ReadsP w6 (.slice pa ps.length pc) ps) := RPx.out
  have P : Hid (w6.heap[bP]? = some (.cells #[.slice pa ps.length pc] 26 (0, 0))) := Px.out
  have OL : Hid (OwnSS w6 (w2.heap.size) (.slice la A.length lc) lus A) := OLx.out
  have OO : Hid (OwnSS w6 (w3.heap.size) (.slice oa O.length oc) ous O) := OOx.out
  have RQ : Hid (ReadsP w6 (.slice qa qs.length qc) qs) := RQx.out
  clear LWx RPx Px OLx OOx RQx
  clear bb
  have Q : Hid (w6.heap[bQ]? = some (.cells #[.slice qa qs.length qc] 26 (0, 0))) := Qn.out
  clear Qn
  obtain ⟨cQ, -⟩ := one_cell Q.out
  have hcall := implReach qs i0 RA hRA (.slice qa qs.length qc) w6 hqs hqe RQ.out
  go_wp2_with fail
  go_at_call 37
  clear hAw6 hBw6
  refine hcall.mono ?_
  rintro r w7 ⟨rv, rfl, orr, bc⟩
  clear hcall cQ
  have LWx : Hid (Below w.heap.size w w7) := low_step LW.out bc
  have RPx : Hid (ReadsP w7 (.slice pa ps.length pc) ps) := readsP_below RP.out bc
  have Px : Hid (w7.heap[bP]? = some (.cells #[.slice pa ps.length pc] 26 (0, 0))) := box_step P.out bc
  have OLx : Hid (OwnSS w7 (w2.heap.size) (.slice la A.length lc) lus A) := OwnSS.below OL.out bc
  have OOx : Hid (OwnSS w7 (w3.heap.size) (.slice oa O.length oc) ous O) := OwnSS.below OO.out bc
  have RQx : Hid (ReadsP w7 (.slice qa qs.length qc) qs) := readsP_below RQ.out bc
  have Qx : Hid (w7.heap[bQ]? = some (.cells #[.slice qa qs.length qc] 26 (0, 0))) := box_step Q.out bc
  clear LW RP P OL OO RQ Q
  have LW : Hid (Below w.heap.size w w7) := LWx.out
  have RP : Hid (ReadsP w7 (.slice pa ps.length pc) ps) := RPx.out
  have P : Hid (w7.heap[bP]? = some (.cells #[.slice pa ps.length pc] 26 (0, 0))) := Px.out
  have OL : Hid (OwnSS w7 (w2.heap.size) (.slice la A.length lc) lus A) := OLx.out
  have OO : Hid (OwnSS w7 (w3.heap.size) (.slice oa O.length oc) ous O) := OOx.out
  have RQ : Hid (ReadsP w7 (.slice qa qs.length qc) qs) := RQx.out
  have Q : Hid (w7.heap[bQ]? = some (.cells #[.slice qa qs.length qc] 26 (0, 0))) := Qx.out
  clear LWx RPx Px OLx OOx RQx Qx
  have RR : Hid (Reads w7 rv (ints RA)) := reads_own orr
  clear orr bc
  have HS : Hid (∀ X, Below w7.heap.size w7 X → X.cell? ⟨bP, 0, none⟩ = some (.slice pa ps.length pc) ∧ X.cell? ⟨bQ, 0, none⟩ = some (.slice qa qs.length qc)) := fun X hX => ⟨(one_cell (box_step P.out hX)).1, (one_cell (box_step Q.out hX)).1⟩
  have hS0 := HS.out w7 (Below.refl _ _)
  have hs1 := fun X (hX : Below w7.heap.size w7 X) => hsm1 X (readsP_below RP.out hX)
  have hs2 := fun X (hX : Below w7.heap.size w7 X) => hsm2 X (readsP_below RP.out hX)
  have hs3 := fun X (hX : Below w7.heap.size w7 X) => specReach qs i0 RA hRA (.slice qa qs.length qc) X hqs hqe (readsP_below RQ.out hX)
  have hs4 := fun X (hX : Below w7.heap.size w7 X) => implRecursive qs rq9 i0 hrq (.slice qa qs.length qc) X hqs hqe (readsP_below RQ.out hX)
  have hs5 := fun X (hX : Below w7.heap.size w7 X) => specRecursive qs rq9 i0 hrq (.slice qa qs.length qc) X hqs hqe (readsP_below RQ.out hX)
  obtain ⟨rb, hrb⟩ : ∃ b, recAns qs rq9 i0 = b := ⟨_, rfl⟩
  rw [hrb] at hs4 hs5
  clear hrb hrq hRA hsm1 hsm2
  obtain ⟨c1, c2⟩ := id hS0
  go_wp2_with fail
  refine wp_region_held_drew (S := fun X => X.cell? ⟨bP, 0, none⟩ = some (.slice pa ps.length pc) ∧ X.cell? ⟨bQ, 0, none⟩ = some (.slice qa qs.length qc)) (by kernel_rfl) hS0 (fun hHeld => ?_)
  refine wpAnyH_take (i := 0) (oi := ?oia0) (v := .slice la A.length lc) ?hia0 (by kernel_rfl) (by kernel_rfl) (by kernel_rfl) ?hqa0 ?hya0 hHeld ?hra0
  case hia0 =>
    simp only [List.getElem?_toArray, List.getElem?_cons_succ, List.getElem?_cons_zero]
    rfl
  case hqa0 => exact fun _ _ _ h => h
  case hya0 => exact Or.inl ⟨by kernel_rfl, fun w hSw => by go_simp⟩
  try simp only [Act.put, List.setIfInBounds_toArray, List.set_cons_zero, List.set_cons_succ]
  refine wpAnyH_take (i := 1) (oi := ?oia1) (v := .agg #[.slice pa ps.length pc]) ?hia1 (by kernel_rfl) (by kernel_rfl) (by kernel_rfl) ?hqa1 ?hya1 hHeld ?hra1
  case hia1 =>
    simp only [List.getElem?_toArray, List.getElem?_cons_succ, List.getElem?_cons_zero]
    rfl
  case hqa1 => exact fun _ _ _ h => h
  case hya1 => exact Or.inl ⟨by kernel_rfl, fun w hSw => by obtain ⟨s0, s1⟩ := hSw; go_simp⟩
  try simp only [Act.put, List.setIfInBounds_toArray, List.set_cons_zero, List.set_cons_succ]
  refine wpAnyH_ready (rs := [2]) (by kernel_rfl) (by simp) ?_
  refine (AllReadyH.cons (o := ?ooa2) ?hoa2 (fun K hK => ?hka2) AllReadyH.nil)
  case hoa2 =>
    simp only [List.getElem?_toArray, List.getElem?_cons_succ, List.getElem?_cons_zero]
    rfl
  case hka2 =>
    go_simp
    go_at_call 39
    refine (hs1 w7.drew (Below.drew (Below.refl _ _))).mono ?_
    rintro e x1 ⟨sv, sus, rfl, os1, bq⟩
    have X1 : Hid (Below w7.heap.size w7 x1) := Below.trans (Below.drew (Below.refl _ _)) bq
    have RS : Hid (ReadsSS x1 sv A) := os1.reads
    clear bq os1
    try go_wp2_with fail
    refine hK.out _ _ (HS.out _ X1.out) (fun hHeld => ?_)
    clear hK K
    try simp only [Act.put, List.setIfInBounds_toArray, List.set_cons_zero, List.set_cons_succ]
    refine wpAnyH_ready (rs := [3]) (by kernel_rfl) (by simp) ?_
    refine (AllReadyH.cons (o := ?ooa3) ?hoa3 (fun K hK => ?hka3) AllReadyH.nil)
    case hoa3 =>
      simp only [List.getElem?_toArray, List.getElem?_cons_succ, List.getElem?_cons_zero]
      rfl
    case hka3 =>
      go_simp
      go_at_call 38
      refine (likeLists A _ sv x1 hAm hAxm (OL.out.below X1.out).reads RS.out).mono ?_
      rintro e x2 ⟨rfl, bq⟩
      have X2 : Hid (Below w7.heap.size w7 x2) := low_step X1.out bq
      clear bq RS
      try go_wp2_with fail
      refine hK.out _ _ (HS.out _ X2.out) (fun hHeld => ?_)
      clear hK K
      try simp only [Act.put, List.setIfInBounds_toArray, List.set_cons_zero, List.set_cons_succ]
      refine wpAnyH_take (i := 4) (oi := ?oia4) (v := .bool false) ?hia4 (by kernel_rfl) (by kernel_rfl) (by kernel_rfl) ?hqa4 ?hya4 hHeld ?hra4
      case hia4 =>
        simp only [List.getElem?_toArray, List.getElem?_cons_succ, List.getElem?_cons_zero]
        rfl
      case hqa4 => exact fun _ _ _ h => h
      case hya4 => exact Or.inl ⟨by kernel_rfl, fun w hSw => by go_simp⟩
      try simp only [Act.put, List.setIfInBounds_toArray, List.set_cons_zero, List.set_cons_succ]
      refine wpAnyH_take (i := 5) (oi := ?oia5) (v := .bool false) ?hia5 (by kernel_rfl) (by kernel_rfl) (by kernel_rfl) ?hqa5 ?hya5 hHeld ?hra5
      case hia5 =>
        simp only [List.getElem?_toArray, List.getElem?_cons_succ, List.getElem?_cons_zero]
        rfl
      case hqa5 => exact fun _ _ _ h => h
      case hya5 => exact Or.inl ⟨by kernel_rfl, fun w hSw => by go_simp⟩
      try simp only [Act.put, List.setIfInBounds_toArray, List.set_cons_zero, List.set_cons_succ]
      refine wpAnyH_take (i := 6) (oi := ?oia6) (v := .slice oa O.length oc) ?hia6 (by kernel_rfl) (by kernel_rfl) (by kernel_rfl) ?hqa6 ?hya6 hHeld ?hra6
      case hia6 =>
        simp only [List.getElem?_toArray, List.getElem?_cons_succ, List.getElem?_cons_zero]
        rfl
      case hqa6 => exact fun _ _ _ h => h
      case hya6 => exact Or.inl ⟨by kernel_rfl, fun w hSw => by go_simp⟩
      try simp only [Act.put, List.setIfInBounds_toArray, List.set_cons_zero, List.set_cons_succ]
      refine wpAnyH_take (i := 7) (oi := ?oia7) (v := .agg #[.slice pa ps.length pc]) ?hia7 (by kernel_rfl) (by kernel_rfl) (by kernel_rfl) ?hqa7 ?hya7 hHeld ?hra7
      case hia7 =>
        simp only [List.getElem?_toArray, List.getElem?_cons_succ, List.getElem?_cons_zero]
        rfl
      case hqa7 => exact fun _ _ _ h => h
      case hya7 => exact Or.inl ⟨by kernel_rfl, fun w hSw => by obtain ⟨s0, s1⟩ := hSw; go_simp⟩
      try simp only [Act.put, List.setIfInBounds_toArray, List.set_cons_zero, List.set_cons_succ]
      refine wpAnyH_ready (rs := [8]) (by kernel_rfl) (by simp) ?_
      refine (AllReadyH.cons (o := ?ooa8) ?hoa8 (fun K hK => ?hka8) AllReadyH.nil)
      case hoa8 =>
        simp only [List.getElem?_toArray, List.getElem?_cons_succ, List.getElem?_cons_zero]
        rfl
      case hka8 =>
        go_simp
        go_at_call 40
        refine (hs2 x2 X2.out).mono ?_
        rintro e x3 ⟨tv, tus, rfl, ot1, bq⟩
        have X3 : Hid (Below w7.heap.size w7 x3) := low_step X2.out bq
        have RT : Hid (ReadsSS x3 tv O) := ot1.reads
        clear bq ot1
        try go_wp2_with fail
        refine hK.out _ _ (HS.out _ X3.out) (fun hHeld => ?_)
        clear hK K
        try simp only [Act.put, List.setIfInBounds_toArray, List.set_cons_zero, List.set_cons_succ]
        refine wpAnyH_ready (rs := [9]) (by kernel_rfl) (by simp) ?_
        refine (AllReadyH.cons (o := ?ooa9) ?hoa9 (fun K hK => ?hka9) AllReadyH.nil)
        case hoa9 =>
          simp only [List.getElem?_toArray, List.getElem?_cons_succ, List.getElem?_cons_zero]
          rfl
        case hka9 =>
          go_simp
          go_at_call 38
          refine (likeLists O _ tv x3 hOm hOxm (OO.out.below X3.out).reads RT.out).mono ?_
          rintro e x4 ⟨rfl, bq⟩
          have X4 : Hid (Below w7.heap.size w7 x4) := low_step X3.out bq
          clear bq RT
          try go_wp2_with fail
          refine hK.out _ _ (HS.out _ X4.out) (fun hHeld => ?_)
          clear hK K
          try simp only [Act.put, List.setIfInBounds_toArray, List.set_cons_zero, List.set_cons_succ]
          refine wpAnyH_take (i := 10) (oi := ?oia10) (v := .bool false) ?hia10 (by kernel_rfl) (by kernel_rfl) (by kernel_rfl) ?hqa10 ?hya10 hHeld ?hra10
          case hia10 =>
            simp only [List.getElem?_toArray, List.getElem?_cons_succ, List.getElem?_cons_zero]
            rfl
          case hqa10 => exact fun _ _ _ h => h
          case hya10 => exact Or.inl ⟨by kernel_rfl, fun w hSw => by go_simp⟩
          try simp only [Act.put, List.setIfInBounds_toArray, List.set_cons_zero, List.set_cons_succ]
          refine wpAnyH_take (i := 11) (oi := ?oia11) (v := .bool false) ?hia11 (by kernel_rfl) (by kernel_rfl) (by kernel_rfl) ?hqa11 ?hya11 hHeld ?hra11
          case hia11 =>
            simp only [List.getElem?_toArray, List.getElem?_cons_succ, List.getElem?_cons_zero]
            rfl
          case hqa11 => exact fun _ _ _ h => h
          case hya11 => exact Or.inl ⟨by kernel_rfl, fun w hSw => by go_simp⟩
          try simp only [Act.put, List.setIfInBounds_toArray, List.set_cons_zero, List.set_cons_succ]
          refine wpAnyH_take (i := 12) (oi := ?oia12) (v := .bool false) ?hia12 (by kernel_rfl) (by kernel_rfl) (by kernel_rfl) ?hqa12 ?hya12 hHeld ?hra12
          case hia12 =>
            simp only [List.getElem?_toArray, List.getElem?_cons_succ, List.getElem?_cons_zero]
            rfl
          case hqa12 => exact fun _ _ _ h => h
          case hya12 => exact Or.inl ⟨by kernel_rfl, fun w hSw => by go_simp⟩
          try simp only [Act.put, List.setIfInBounds_toArray, List.set_cons_zero, List.set_cons_succ]
          refine wpAnyH_take (i := 13) (oi := ?oia13) (v := rv) ?hia13 (by kernel_rfl) (by kernel_rfl) (by kernel_rfl) ?hqa13 ?hya13 hHeld ?hra13
          case hia13 =>
            simp only [List.getElem?_toArray, List.getElem?_cons_succ, List.getElem?_cons_zero]
            rfl
          case hqa13 => exact fun _ _ _ h => h
          case hya13 => exact Or.inl ⟨by kernel_rfl, fun w hSw => by go_simp⟩
          try simp only [Act.put, List.setIfInBounds_toArray, List.set_cons_zero, List.set_cons_succ]
          refine wpAnyH_take (i := 14) (oi := ?oia14) (v := .agg #[.slice qa qs.length qc]) ?hia14 (by kernel_rfl) (by kernel_rfl) (by kernel_rfl) ?hqa14 ?hya14 hHeld ?hra14
          case hia14 =>
            simp only [List.getElem?_toArray, List.getElem?_cons_succ, List.getElem?_cons_zero]
            rfl
          case hqa14 => exact fun _ _ _ h => h
          case hya14 => exact Or.inl ⟨by kernel_rfl, fun w hSw => by obtain ⟨s0, s1⟩ := hSw; go_simp⟩
          try simp only [Act.put, List.setIfInBounds_toArray, List.set_cons_zero, List.set_cons_succ]
          refine wpAnyH_take (i := 15) (oi := ?oia15) (v := .int .i64 i0) ?hia15 (by kernel_rfl) (by kernel_rfl) (by kernel_rfl) ?hqa15 ?hya15 hHeld ?hra15
          case hia15 =>
            simp only [List.getElem?_toArray, List.getElem?_cons_succ, List.getElem?_cons_zero]
            rfl
          case hqa15 => exact fun _ _ _ h => h
          case hya15 => exact Or.inl ⟨by kernel_rfl, fun w hSw => by go_simp⟩
          try simp only [Act.put, List.setIfInBounds_toArray, List.set_cons_zero, List.set_cons_succ]
          refine wpAnyH_ready (rs := [16]) (by kernel_rfl) (by simp) ?_
          refine (AllReadyH.cons (o := ?ooa16) ?hoa16 (fun K hK => ?hka16) AllReadyH.nil)
          case hoa16 =>
            simp only [List.getElem?_toArray, List.getElem?_cons_succ, List.getElem?_cons_zero]
            rfl
          case hka16 =>
            go_simp
            go_at_call 41
            refine (hs3 x4 X4.out).mono ?_
            rintro e x5 ⟨yv, rfl, oy, bq⟩
            have X5 : Hid (Below w7.heap.size w7 x5) := low_step X4.out bq
            have RY : Hid (Reads x5 yv (ints RA)) := reads_own oy
            clear bq oy
            try go_wp2_with fail
            refine hK.out _ _ (HS.out _ X5.out) (fun hHeld => ?_)
            clear hK K
            try simp only [Act.put, List.setIfInBounds_toArray, List.set_cons_zero, List.set_cons_succ]
            refine wpAnyH_ready (rs := [17]) (by kernel_rfl) (by simp) ?_
            refine (AllReadyH.cons (o := ?ooa17) ?hoa17 (fun K hK => ?hka17) AllReadyH.nil)
            case hoa17 =>
              simp only [List.getElem?_toArray, List.getElem?_cons_succ, List.getElem?_cons_zero]
              rfl
            case hka17 =>
              go_simp
              go_at_call 14
              refine (likeInts RA rv yv x5 hRm (reads_below RR.out X5.out) RY.out).mono ?_
              rintro e x6 ⟨rfl, bq⟩
              have X6 : Hid (Below w7.heap.size w7 x6) := low_step X5.out bq
              clear bq RY
              try go_wp2_with fail
              refine hK.out _ _ (HS.out _ X6.out) (fun hHeld => ?_)
              clear hK K
              try simp only [Act.put, List.setIfInBounds_toArray, List.set_cons_zero, List.set_cons_succ]
              refine wpAnyH_take (i := 18) (oi := ?oia18) (v := .bool false) ?hia18 (by kernel_rfl) (by kernel_rfl) (by kernel_rfl) ?hqa18 ?hya18 hHeld ?hra18
              case hia18 =>
                simp only [List.getElem?_toArray, List.getElem?_cons_succ, List.getElem?_cons_zero]
                rfl
              case hqa18 => exact fun _ _ _ h => h
              case hya18 => exact Or.inl ⟨by kernel_rfl, fun w hSw => by go_simp⟩
              try simp only [Act.put, List.setIfInBounds_toArray, List.set_cons_zero, List.set_cons_succ]
              refine wpAnyH_take (i := 19) (oi := ?oia19) (v := .bool false) ?hia19 (by kernel_rfl) (by kernel_rfl) (by kernel_rfl) ?hqa19 ?hya19 hHeld ?hra19
              case hia19 =>
                simp only [List.getElem?_toArray, List.getElem?_cons_succ, List.getElem?_cons_zero]
                rfl
              case hqa19 => exact fun _ _ _ h => h
              case hya19 => exact Or.inl ⟨by kernel_rfl, fun w hSw => by go_simp⟩
              try simp only [Act.put, List.setIfInBounds_toArray, List.set_cons_zero, List.set_cons_succ]
              refine wpAnyH_take (i := 20) (oi := ?oia20) (v := .bool false) ?hia20 (by kernel_rfl) (by kernel_rfl) (by kernel_rfl) ?hqa20 ?hya20 hHeld ?hra20
              case hia20 =>
                simp only [List.getElem?_toArray, List.getElem?_cons_succ, List.getElem?_cons_zero]
                rfl
              case hqa20 => exact fun _ _ _ h => h
              case hya20 => exact Or.inl ⟨by kernel_rfl, fun w hSw => by go_simp⟩
              try simp only [Act.put, List.setIfInBounds_toArray, List.set_cons_zero, List.set_cons_succ]
              refine wpAnyH_take (i := 21) (oi := ?oia21) (v := .agg #[.slice qa qs.length qc]) ?hia21 (by kernel_rfl) (by kernel_rfl) (by kernel_rfl) ?hqa21 ?hya21 hHeld ?hra21
              case hia21 =>
                simp only [List.getElem?_toArray, List.getElem?_cons_succ, List.getElem?_cons_zero]
                rfl
              case hqa21 => exact fun _ _ _ h => h
              case hya21 => exact Or.inl ⟨by kernel_rfl, fun w hSw => by obtain ⟨s0, s1⟩ := hSw; go_simp⟩
              try simp only [Act.put, List.setIfInBounds_toArray, List.set_cons_zero, List.set_cons_succ]
              refine wpAnyH_take (i := 22) (oi := ?oia22) (v := .int .i64 i0) ?hia22 (by kernel_rfl) (by kernel_rfl) (by kernel_rfl) ?hqa22 ?hya22 hHeld ?hra22
              case hia22 =>
                simp only [List.getElem?_toArray, List.getElem?_cons_succ, List.getElem?_cons_zero]
                rfl
              case hqa22 => exact fun _ _ _ h => h
              case hya22 => exact Or.inl ⟨by kernel_rfl, fun w hSw => by go_simp⟩
              try simp only [Act.put, List.setIfInBounds_toArray, List.set_cons_zero, List.set_cons_succ]
              refine wpAnyH_take (i := 24) (oi := ?oia24) (v := .agg #[.slice qa qs.length qc]) ?hia24 (by kernel_rfl) (by kernel_rfl) (by kernel_rfl) ?hqa24 ?hya24 hHeld ?hra24
              case hia24 =>
                simp only [List.getElem?_toArray, List.getElem?_cons_succ, List.getElem?_cons_zero]
                rfl
              case hqa24 => exact fun _ _ _ h => h
              case hya24 => exact Or.inl ⟨by kernel_rfl, fun w hSw => by obtain ⟨s0, s1⟩ := hSw; go_simp⟩
              try simp only [Act.put, List.setIfInBounds_toArray, List.set_cons_zero, List.set_cons_succ]
              refine wpAnyH_take (i := 25) (oi := ?oia25) (v := .int .i64 i0) ?hia25 (by kernel_rfl) (by kernel_rfl) (by kernel_rfl) ?hqa25 ?hya25 hHeld ?hra25
              case hia25 =>
                simp only [List.getElem?_toArray, List.getElem?_cons_succ, List.getElem?_cons_zero]
                rfl
              case hqa25 => exact fun _ _ _ h => h
              case hya25 => exact Or.inl ⟨by kernel_rfl, fun w hSw => by go_simp⟩
              try simp only [Act.put, List.setIfInBounds_toArray, List.set_cons_zero, List.set_cons_succ]
              refine wpAnyH_ready (rs := [23]) (by kernel_rfl) (by simp) ?_
              refine (AllReadyH.cons (o := ?ooa23) ?hoa23 (fun K hK => ?hka23) AllReadyH.nil)
              case hoa23 =>
                simp only [List.getElem?_toArray, List.getElem?_cons_succ, List.getElem?_cons_zero]
                rfl
              case hka23 =>
                go_simp
                go_at_call 42
                refine (hs4 x6 X6.out).mono ?_
                rintro e x7 ⟨rfl, bq⟩
                have X7 : Hid (Below w7.heap.size w7 x7) := low_step X6.out bq
                clear bq 
                try go_wp2_with fail
                refine hK.out _ _ (HS.out _ X7.out) (fun hHeld => ?_)
                clear hK K
                try simp only [Act.put, List.setIfInBounds_toArray, List.set_cons_zero, List.set_cons_succ]
                refine wpAnyH_ready (rs := [26]) (by kernel_rfl) (by simp) ?_
                refine (AllReadyH.cons (o := ?ooa26) ?hoa26 (fun K hK => ?hka26) AllReadyH.nil)
                case hoa26 =>
                  simp only [List.getElem?_toArray, List.getElem?_cons_succ, List.getElem?_cons_zero]
                  rfl
                case hka26 =>
                  go_simp
                  go_at_call 43
                  refine (hs5 x7 X7.out).mono ?_
                  rintro e x8 ⟨rfl, bq⟩
                  have X8 : Hid (Below w7.heap.size w7 x8) := low_step X7.out bq
                  clear bq 
                  try go_wp2_with fail
                  refine hK.out _ _ (HS.out _ X8.out) (fun hHeld => ?_)
                  clear hK K
                  try simp only [Act.put, List.setIfInBounds_toArray, List.set_cons_zero, List.set_cons_succ]
                  refine wpAnyH_take (i := 27) (oi := ?oia27) (v := .bool false) ?hia27 (by kernel_rfl) (by kernel_rfl) (by kernel_rfl) ?hqa27 ?hya27 hHeld ?hra27
                  case hia27 =>
                    simp only [List.getElem?_toArray, List.getElem?_cons_succ, List.getElem?_cons_zero]
                    rfl
                  case hqa27 => exact fun _ _ _ h => h
                  case hya27 => exact Or.inl ⟨by kernel_rfl, fun w hSw => by go_simp; (try cases rb <;> rfl)⟩
                  try simp only [Act.put, List.setIfInBounds_toArray, List.set_cons_zero, List.set_cons_succ]
                  refine wpAnyH_take (i := 28) (oi := ?oia28) (v := .bool false) ?hia28 (by kernel_rfl) (by kernel_rfl) (by kernel_rfl) ?hqa28 ?hya28 hHeld ?hra28
                  case hia28 =>
                    simp only [List.getElem?_toArray, List.getElem?_cons_succ, List.getElem?_cons_zero]
                    rfl
                  case hqa28 => exact fun _ _ _ h => h
                  case hya28 => exact Or.inl ⟨by kernel_rfl, fun w hSw => by go_simp⟩
                  try simp only [Act.put, List.setIfInBounds_toArray, List.set_cons_zero, List.set_cons_succ]
                  refine wpAnyH_take (i := 29) (oi := ?oia29) (v := .bool false) ?hia29 (by kernel_rfl) (by kernel_rfl) (by kernel_rfl) ?hqa29 ?hya29 hHeld ?hra29
                  case hia29 =>
                    simp only [List.getElem?_toArray, List.getElem?_cons_succ, List.getElem?_cons_zero]
                    rfl
                  case hqa29 => exact fun _ _ _ h => h
                  case hya29 => exact Or.inl ⟨by kernel_rfl, fun w hSw => by go_simp⟩
                  try simp only [Act.put, List.setIfInBounds_toArray, List.set_cons_zero, List.set_cons_succ]
                  refine wpAnyH_take (i := 30) (oi := ?oia30) (v := rv) ?hia30 (by kernel_rfl) (by kernel_rfl) (by kernel_rfl) ?hqa30 ?hya30 hHeld ?hra30
                  case hia30 =>
                    simp only [List.getElem?_toArray, List.getElem?_cons_succ, List.getElem?_cons_zero]
                    rfl
                  case hqa30 => exact fun _ _ _ h => h
                  case hya30 => exact Or.inl ⟨by kernel_rfl, fun w hSw => by go_simp⟩
                  try simp only [Act.put, List.setIfInBounds_toArray, List.set_cons_zero, List.set_cons_succ]
                  refine wpAnyH_ready (rs := [31]) (by kernel_rfl) (by simp) ?_
                  refine (AllReadyH.cons (o := ?ooa31) ?hoa31 (fun K hK => ?hka31) AllReadyH.nil)
                  case hoa31 =>
                    simp only [List.getElem?_toArray, List.getElem?_cons_succ, List.getElem?_cons_zero]
                    rfl
                  case hka31 =>
                    go_simp
                    go_at_call 22
                    refine (lawRises RA rv x8 hRm HRR.out (reads_below RR.out X8.out)).mono ?_
                    rintro e x9 ⟨rfl, bq⟩
                    have X9 : Hid (Below w7.heap.size w7 x9) := low_step X8.out bq
                    clear bq 
                    try go_wp2_with fail
                    refine hK.out _ _ (HS.out _ X9.out) (fun hHeld => ?_)
                    clear hK K
                    try simp only [Act.put, List.setIfInBounds_toArray, List.set_cons_zero, List.set_cons_succ]
                    refine wpAnyH_take (i := 32) (oi := ?oia32) (v := .bool false) ?hia32 (by kernel_rfl) (by kernel_rfl) (by kernel_rfl) ?hqa32 ?hya32 hHeld ?hra32
                    case hia32 =>
                      simp only [List.getElem?_toArray, List.getElem?_cons_succ, List.getElem?_cons_zero]
                      rfl
                    case hqa32 => exact fun _ _ _ h => h
                    case hya32 => exact Or.inl ⟨by kernel_rfl, fun w hSw => by go_simp⟩
                    try simp only [Act.put, List.setIfInBounds_toArray, List.set_cons_zero, List.set_cons_succ]
                    refine wpAnyH_take (i := 33) (oi := ?oia33) (v := .bool false) ?hia33 (by kernel_rfl) (by kernel_rfl) (by kernel_rfl) ?hqa33 ?hya33 hHeld ?hra33
                    case hia33 =>
                      simp only [List.getElem?_toArray, List.getElem?_cons_succ, List.getElem?_cons_zero]
                      rfl
                    case hqa33 => exact fun _ _ _ h => h
                    case hya33 => exact Or.inl ⟨by kernel_rfl, fun w hSw => by go_simp⟩
                    try simp only [Act.put, List.setIfInBounds_toArray, List.set_cons_zero, List.set_cons_succ]
                    refine wpAnyH_done (by kernel_rfl) ?_ _
                    have Px : Hid (x9.heap[bP]? = some (.cells #[.slice pa ps.length pc] 26 (0, 0))) := box_step P.out X9.out
                    have RPx : Hid (ReadsP x9 (.slice pa ps.length pc) ps) := readsP_below RP.out X9.out
                    have OLx : Hid (OwnSS x9 (w2.heap.size) (.slice la A.length lc) lus A) := OL.out.below X9.out
                    have OOx : Hid (OwnSS x9 (w3.heap.size) (.slice oa O.length oc) ous O) := OO.out.below X9.out
                    have LWx : Hid (Below w.heap.size w x9) := low_step LW.out X9.out
                    clear P RP OL OO LW RQ RR Q HS hS0 hs1 hs2 hs3 hs4 hs5 c1 c2 X1 X2 X3 X4 X5 X6 X7 X8 X9 HRR
                    obtain ⟨cP, -⟩ := one_cell Px.out
                    by_cases h0 : A.length = 0
                    · have h0' : (A.length : Int) = 0 := by omega
                      obtain ⟨hno, hO0⟩ := HN.out h0
                      have hO0' : (O.length : Int) = 0 := by omega
                      have hso := specProgramOk ps (.slice pa ps.length pc) x9 hps hpe RPx.out
                      rw [hno] at hso
                      clear hno
                      go_wp2_with fail
                      go_at_call 13
                      refine hso.mono ?_
                      rintro r z9 ⟨rfl, bc⟩
                      have HE : Hid (Below w.heap.size w z9) := low_step LWx.out bc
                      clear bc hso
                      go_wp2
                      go_ret
                      exact ⟨rfl, HE.out⟩
                    have h0' : ¬ (A.length : Int) = 0 := by omega
                    have h0b : ((A.length : Int) == 0) = false := beq_eq_false_iff_ne.2 h0'
                    have hf := HF.out (by omega)
                    have HFF : Hid (CirF ps A O rr) := hf
                    have hcn := hf.cn
                    have hon4 := hf.on
                    have h4 := hf.four
                    obtain ⟨gc, hgc⟩ := ownSS_some OLx.out (by omega)
                    subst hgc
                    have hO0 : 0 < O.length := by have := hf.lenO; omega
                    obtain ⟨go, hgo⟩ := ownSS_some OOx.out hO0
                    subst hgo
                    have HCN : Hid (A.flatten.length = ps.length) := hcn
                    have HON : Hid (O.flatten.length = ps.length) := hon4
                    obtain ⟨i0', hi0, hz0, hz1, hz2⟩ := info_parts infoInt
                    have M0 : Hid ((x9.alloc (.cells #[] 2)).ownsRow x9.heap.size 2 1 (.slice (some ⟨x9.heap.size, 0, none⟩) 0 0) 0 []) := made0 x9
                    have BM : Hid (Below x9.heap.size x9 (x9.alloc (.cells #[] 2))) := by
                      show Below x9.heap.size x9 (x9.alloc (.cells #[] 2))
                      go_grown
                    clear hf hcn hon4 HF HN
                    go_wp2_with fail
                    go_loopw [9, 10] (fun a q wr => ∃ i : Nat, i ≤ A.length ∧ q = .int .i64 i ∧ wr.ownsRow x9.heap.size 2 1 a ((A.take i).flatten).length (ints (A.take i).flatten) ∧ Below x9.heap.size x9 wr) (fun _ q _ => A.length - (intOf q).toNat)
                    case atStart => exact ⟨0, Nat.zero_le _, rfl, by simpa [ints] using M0.out, BM.out⟩
                    case round =>
                      obtain ⟨i, hil, rfl, hown, hbr⟩ := hrel
                      obtain ⟨av, hav⟩ : ∃ t, t = u9 := ⟨_, rfl⟩
                      subst hav
                      have HOW : Hid (wr.ownsRow x9.heap.size 2 1 av ((A.take i).flatten).length (ints (A.take i).flatten)) := hown
                      have HBI : Hid (Below x9.heap.size x9 wr) := hbr
                      clear hown cP M0 BM
                      by_cases hi : i < A.length
                      · have hi' : (i : Int) < (A.length : Int) := by omega
                        have hi00 : (0 : Int) ≤ (i : Int) := by omega
                        obtain ⟨xs, hxs⟩ : ∃ xs, A[i]? = some xs := ⟨A[i], by simp [hi]⟩
                        have hxe : A[i]'hi = xs := by simpa [hi] using hxs
                        have hxm : xs ∈ A := List.mem_of_getElem? hxs
                        have hx1000 := hAx xs hxm
                        have hxm' := hAxm xs hxm
                        obtain ⟨ux, hux, cx, ox⟩ := OLx.out.at (j := i) hi
                        rw [hxe] at ox
                        obtain ⟨xa, xn, xc, rfl⟩ := own_slice ox
                        obtain ⟨xa', xc', hxf⟩ := reads_form (reads_own ox)
                        injection hxf with q1 q2 q3
                        subst q2
                        clear q1 q3
                        have OX : Hid (Reads x9 (.slice xa xs.length xc) (ints xs)) := reads_own ox
                        have HXA : Hid (0 < xs.length → ∃ g, xa = some ⟨g, 0, none⟩) := fun h9 => by
                          rcases ox.2 with ⟨e, h8⟩ | ⟨g, cap, cur, e, _⟩
                          · omega
                          · injection e with e1; exact ⟨g, e1⟩
                        have CX : Hid (x9.cell? ⟨gc, i, none⟩ = some (.slice xa xs.length xc)) := cx
                        have HXS : Hid (A[i]? = some xs) := hxs
                        obtain ⟨PF, hPF⟩ : ∃ PF, (A.take i).flatten = PF := ⟨_, rfl⟩
                        have HPF : Hid ((A.take i).flatten = PF) := hPF
                        rw [hPF] at HOW
                        have cx1 := cell_step cx hbr
                        have HPL : Hid (PF.length + xs.length ≤ 4) := by
                          show PF.length + xs.length ≤ 4
                          have := flat_le A (i + 1)
                          rw [flat_snoc hxs, hPF, List.length_append] at this
                          have h9 := HCN.out
                          omega
                        clear hPF ox hxe hux hbr hxs cx
                        go_wp2_with fail
                        obtain ⟨wi, hwi⟩ : ∃ x, x = wr := ⟨_, rfl⟩
                        subst hwi
                        go_loopw [9, 11] (fun a q wr => ∃ k : Nat, k ≤ xs.length ∧ q = .int .i64 k ∧ wr.ownsRow x9.heap.size 2 1 a (PF ++ xs.take k).length (ints (PF ++ xs.take k)) ∧ Below x9.heap.size x9 wr) (fun _ q _ => xs.length - (intOf q).toNat)
                        case atStart => exact ⟨0, Nat.zero_le _, rfl, by simpa using HOW.out, HBI.out⟩
                        case round =>
                          obtain ⟨k, hkl, rfl, hown, hbr⟩ := hrel
                          obtain ⟨av, hav⟩ : ∃ t, t = u9 := ⟨_, rfl⟩
                          subst hav
                          clear HOW HBI cx1
                          have HOW : Hid (wr.ownsRow x9.heap.size 2 1 av (PF ++ xs.take k).length (ints (PF ++ xs.take k))) := hown
                          have HBI : Hid (Below x9.heap.size x9 wr) := hbr
                          have cx1 := cell_step CX.out hbr
                          clear hown hbr
                          by_cases hk : k < xs.length
                          · have hk' : (k : Int) < (xs.length : Int) := by omega
                            have hk0 : (0 : Int) ≤ (k : Int) := by omega
                            obtain ⟨gi, hgi⟩ := HXA.out (by omega)
                            subst hgi
                            obtain ⟨RB, hRB', hRB4⟩ := reachA_some ps (xs[k]'hk)
                            have hRB : RB.length ≤ maxLen := by unfold maxLen; omega
                            have hre0 := fun X hX => implReach ps (xs[k]'hk) RB hRB' (.slice pa ps.length pc) X hps hpe hX
                            have HRE : Hid (∀ y ∈ xs, RB.any (fun z => decide (z = y)) = true) := fun y hy => HFF.out.reach xs hxm _ (List.getElem_mem hk) y hy RB hRB'
                            clear hRB'
                            go_wp2_with fail
                            obtain ⟨wk, hwk⟩ : ∃ x, x = wr := ⟨_, rfl⟩
                            subst hwk
                            go_loopw [12] (fun q wr => ∃ m : Nat, m ≤ xs.length ∧ q = .int .i64 m ∧ Below wk.heap.size wk wr) (fun q _ => xs.length - (intOf q).toNat)
                            case atStart => exact ⟨0, Nat.zero_le _, rfl, Below.refl _ _⟩
                            case round =>
                              obtain ⟨m, hml, rfl, hbr⟩ := hrel
                              have HB3 : Hid (Below wk.heap.size wk wr) := hbr
                              have HBX : Hid (Below x9.heap.size x9 wr) := low_step HBI.out hbr
                              clear cx1
                              have cx1 := cell_step CX.out HBX.out
                              obtain ⟨cPr, -⟩ := one_cell (box_step Px.out HBX.out)
                              have ck := cell_step (reads_cell OX.out hk) HBX.out
                              rw [Nat.zero_add] at ck
                              clear hbr
                              by_cases hm : m < xs.length
                              · have hm' : (m : Int) < (xs.length : Int) := by omega
                                have hm0 : (0 : Int) ≤ (m : Int) := by omega
                                have cm := cell_step (reads_cell OX.out hm) HBX.out
                                rw [Nat.zero_add] at cm
                                have hany := HRE.out (xs[m]'hm) (List.getElem_mem hm)
                                have hre := fun X (hX : Below wr.heap.size wr X) => hre0 X (readsP_below RPx.out (low_step HBX.out hX))
                                have HS9 : Hid (∀ X, Below wr.heap.size wr X → X.cell? ⟨bP, 0, none⟩ = some (.slice pa ps.length pc) ∧ X.cell? ⟨gc, i, none⟩ = some (.slice (some ⟨gi, 0, none⟩) xs.length xc) ∧ X.cell? ⟨gi, k, none⟩ = some (.int .i64 (xs[k]'hk)) ∧ X.cell? ⟨gi, m, none⟩ = some (.int .i64 (xs[m]'hm))) := fun X hX => ⟨cell_step cPr hX, cell_step cx1 hX, cell_step ck hX, cell_step cm hX⟩
                                have hS9 := HS9.out wr (Below.refl _ _)
                                clear hre0
                                go_wp2_with fail
                                refine wp_region_held_drew (S := fun X => X.cell? ⟨bP, 0, none⟩ = some (.slice pa ps.length pc) ∧ X.cell? ⟨gc, i, none⟩ = some (.slice (some ⟨gi, 0, none⟩) xs.length xc) ∧ X.cell? ⟨gi, k, none⟩ = some (.int .i64 (xs[k]'hk)) ∧ X.cell? ⟨gi, m, none⟩ = some (.int .i64 (xs[m]'hm))) (by kernel_rfl) hS9 (fun hHeld => ?_)
                                refine wpAnyH_take (i := 0) (oi := ?oib0) (v := .agg #[.slice pa ps.length pc]) ?hib0 (by kernel_rfl) (by kernel_rfl) (by kernel_rfl) ?hqb0 ?hyb0 hHeld ?hrb0
                                case hib0 =>
                                  simp only [List.getElem?_toArray, List.getElem?_cons_succ, List.getElem?_cons_zero]
                                  rfl
                                case hqb0 => exact fun _ _ _ h => h
                                case hyb0 => exact Or.inl ⟨by kernel_rfl, fun w hSw => by obtain ⟨s0, s1, s2, s3⟩ := hSw; go_simp⟩
                                try simp only [Act.put, List.setIfInBounds_toArray, List.set_cons_zero, List.set_cons_succ]
                                refine wpAnyH_take (i := 1) (oi := ?oib1) (v := .slice (some ⟨gc, 0, none⟩) A.length lc) ?hib1 (by kernel_rfl) (by kernel_rfl) (by kernel_rfl) ?hqb1 ?hyb1 hHeld ?hrb1
                                case hib1 =>
                                  simp only [List.getElem?_toArray, List.getElem?_cons_succ, List.getElem?_cons_zero]
                                  rfl
                                case hqb1 => exact fun _ _ _ h => h
                                case hyb1 => exact Or.inl ⟨by kernel_rfl, fun w hSw => by go_simp⟩
                                try simp only [Act.put, List.setIfInBounds_toArray, List.set_cons_zero, List.set_cons_succ]
                                refine wpAnyH_take (i := 2) (oi := ?oib2) (v := .int .i64 (i : Int)) ?hib2 (by kernel_rfl) (by kernel_rfl) (by kernel_rfl) ?hqb2 ?hyb2 hHeld ?hrb2
                                case hib2 =>
                                  simp only [List.getElem?_toArray, List.getElem?_cons_succ, List.getElem?_cons_zero]
                                  rfl
                                case hqb2 => exact fun _ _ _ h => h
                                case hyb2 => exact Or.inl ⟨by kernel_rfl, fun w hSw => by go_simp⟩
                                try simp only [Act.put, List.setIfInBounds_toArray, List.set_cons_zero, List.set_cons_succ]
                                refine wpAnyH_take (i := 3) (oi := ?oib3) (v := .pointer (some ⟨gc, i, none⟩)) ?hib3 (by kernel_rfl) (by kernel_rfl) (by kernel_rfl) ?hqb3 ?hyb3 hHeld ?hrb3
                                case hib3 =>
                                  simp only [List.getElem?_toArray, List.getElem?_cons_succ, List.getElem?_cons_zero]
                                  rfl
                                case hqb3 => exact fun _ _ _ h => h
                                case hyb3 => exact Or.inl ⟨by kernel_rfl, fun w hSw => by go_simp⟩
                                try simp only [Act.put, List.setIfInBounds_toArray, List.set_cons_zero, List.set_cons_succ]
                                refine wpAnyH_take (i := 4) (oi := ?oib4) (v := .slice (some ⟨gi, 0, none⟩) xs.length xc) ?hib4 (by kernel_rfl) (by kernel_rfl) (by kernel_rfl) ?hqb4 ?hyb4 hHeld ?hrb4
                                case hib4 =>
                                  simp only [List.getElem?_toArray, List.getElem?_cons_succ, List.getElem?_cons_zero]
                                  rfl
                                case hqb4 => exact fun _ _ _ h => h
                                case hyb4 => exact Or.inl ⟨by kernel_rfl, fun w hSw => by obtain ⟨s0, s1, s2, s3⟩ := hSw; go_simp⟩
                                try simp only [Act.put, List.setIfInBounds_toArray, List.set_cons_zero, List.set_cons_succ]
                                refine wpAnyH_take (i := 5) (oi := ?oib5) (v := .int .i64 (k : Int)) ?hib5 (by kernel_rfl) (by kernel_rfl) (by kernel_rfl) ?hqb5 ?hyb5 hHeld ?hrb5
                                case hib5 =>
                                  simp only [List.getElem?_toArray, List.getElem?_cons_succ, List.getElem?_cons_zero]
                                  rfl
                                case hqb5 => exact fun _ _ _ h => h
                                case hyb5 => exact Or.inl ⟨by kernel_rfl, fun w hSw => by go_simp⟩
                                try simp only [Act.put, List.setIfInBounds_toArray, List.set_cons_zero, List.set_cons_succ]
                                refine wpAnyH_take (i := 6) (oi := ?oib6) (v := .pointer (some ⟨gi, k, none⟩)) ?hib6 (by kernel_rfl) (by kernel_rfl) (by kernel_rfl) ?hqb6 ?hyb6 hHeld ?hrb6
                                case hib6 =>
                                  simp only [List.getElem?_toArray, List.getElem?_cons_succ, List.getElem?_cons_zero]
                                  rfl
                                case hqb6 => exact fun _ _ _ h => h
                                case hyb6 => exact Or.inl ⟨by kernel_rfl, fun w hSw => by go_simp⟩
                                try simp only [Act.put, List.setIfInBounds_toArray, List.set_cons_zero, List.set_cons_succ]
                                refine wpAnyH_take (i := 7) (oi := ?oib7) (v := .int .i64 (xs[k]'hk)) ?hib7 (by kernel_rfl) (by kernel_rfl) (by kernel_rfl) ?hqb7 ?hyb7 hHeld ?hrb7
                                case hib7 =>
                                  simp only [List.getElem?_toArray, List.getElem?_cons_succ, List.getElem?_cons_zero]
                                  rfl
                                case hqb7 => exact fun _ _ _ h => h
                                case hyb7 => exact Or.inl ⟨by kernel_rfl, fun w hSw => by obtain ⟨s0, s1, s2, s3⟩ := hSw; go_simp⟩
                                try simp only [Act.put, List.setIfInBounds_toArray, List.set_cons_zero, List.set_cons_succ]
                                refine wpAnyH_take (i := 9) (oi := ?oib9) (v := .slice (some ⟨gc, 0, none⟩) A.length lc) ?hib9 (by kernel_rfl) (by kernel_rfl) (by kernel_rfl) ?hqb9 ?hyb9 hHeld ?hrb9
                                case hib9 =>
                                  simp only [List.getElem?_toArray, List.getElem?_cons_succ, List.getElem?_cons_zero]
                                  rfl
                                case hqb9 => exact fun _ _ _ h => h
                                case hyb9 => exact Or.inl ⟨by kernel_rfl, fun w hSw => by go_simp⟩
                                try simp only [Act.put, List.setIfInBounds_toArray, List.set_cons_zero, List.set_cons_succ]
                                refine wpAnyH_take (i := 10) (oi := ?oib10) (v := .int .i64 (i : Int)) ?hib10 (by kernel_rfl) (by kernel_rfl) (by kernel_rfl) ?hqb10 ?hyb10 hHeld ?hrb10
                                case hib10 =>
                                  simp only [List.getElem?_toArray, List.getElem?_cons_succ, List.getElem?_cons_zero]
                                  rfl
                                case hqb10 => exact fun _ _ _ h => h
                                case hyb10 => exact Or.inl ⟨by kernel_rfl, fun w hSw => by go_simp⟩
                                try simp only [Act.put, List.setIfInBounds_toArray, List.set_cons_zero, List.set_cons_succ]
                                refine wpAnyH_take (i := 11) (oi := ?oib11) (v := .pointer (some ⟨gc, i, none⟩)) ?hib11 (by kernel_rfl) (by kernel_rfl) (by kernel_rfl) ?hqb11 ?hyb11 hHeld ?hrb11
                                case hib11 =>
                                  simp only [List.getElem?_toArray, List.getElem?_cons_succ, List.getElem?_cons_zero]
                                  rfl
                                case hqb11 => exact fun _ _ _ h => h
                                case hyb11 => exact Or.inl ⟨by kernel_rfl, fun w hSw => by go_simp⟩
                                try simp only [Act.put, List.setIfInBounds_toArray, List.set_cons_zero, List.set_cons_succ]
                                refine wpAnyH_take (i := 12) (oi := ?oib12) (v := .slice (some ⟨gi, 0, none⟩) xs.length xc) ?hib12 (by kernel_rfl) (by kernel_rfl) (by kernel_rfl) ?hqb12 ?hyb12 hHeld ?hrb12
                                case hib12 =>
                                  simp only [List.getElem?_toArray, List.getElem?_cons_succ, List.getElem?_cons_zero]
                                  rfl
                                case hqb12 => exact fun _ _ _ h => h
                                case hyb12 => exact Or.inl ⟨by kernel_rfl, fun w hSw => by obtain ⟨s0, s1, s2, s3⟩ := hSw; go_simp⟩
                                try simp only [Act.put, List.setIfInBounds_toArray, List.set_cons_zero, List.set_cons_succ]
                                refine wpAnyH_take (i := 13) (oi := ?oib13) (v := .int .i64 (m : Int)) ?hib13 (by kernel_rfl) (by kernel_rfl) (by kernel_rfl) ?hqb13 ?hyb13 hHeld ?hrb13
                                case hib13 =>
                                  simp only [List.getElem?_toArray, List.getElem?_cons_succ, List.getElem?_cons_zero]
                                  rfl
                                case hqb13 => exact fun _ _ _ h => h
                                case hyb13 => exact Or.inl ⟨by kernel_rfl, fun w hSw => by go_simp⟩
                                try simp only [Act.put, List.setIfInBounds_toArray, List.set_cons_zero, List.set_cons_succ]
                                refine wpAnyH_take (i := 14) (oi := ?oib14) (v := .pointer (some ⟨gi, m, none⟩)) ?hib14 (by kernel_rfl) (by kernel_rfl) (by kernel_rfl) ?hqb14 ?hyb14 hHeld ?hrb14
                                case hib14 =>
                                  simp only [List.getElem?_toArray, List.getElem?_cons_succ, List.getElem?_cons_zero]
                                  rfl
                                case hqb14 => exact fun _ _ _ h => h
                                case hyb14 => exact Or.inl ⟨by kernel_rfl, fun w hSw => by go_simp⟩
                                try simp only [Act.put, List.setIfInBounds_toArray, List.set_cons_zero, List.set_cons_succ]
                                refine wpAnyH_take (i := 15) (oi := ?oib15) (v := .int .i64 (xs[m]'hm)) ?hib15 (by kernel_rfl) (by kernel_rfl) (by kernel_rfl) ?hqb15 ?hyb15 hHeld ?hrb15
                                case hib15 =>
                                  simp only [List.getElem?_toArray, List.getElem?_cons_succ, List.getElem?_cons_zero]
                                  rfl
                                case hqb15 => exact fun _ _ _ h => h
                                case hyb15 => exact Or.inl ⟨by kernel_rfl, fun w hSw => by obtain ⟨s0, s1, s2, s3⟩ := hSw; go_simp⟩
                                try simp only [Act.put, List.setIfInBounds_toArray, List.set_cons_zero, List.set_cons_succ]
                                refine wpAnyH_ready (rs := [8]) (by kernel_rfl) (by simp) ?_
                                refine (AllReadyH.cons (o := ?oob8) ?hob8 (fun K hK => ?hkb8) AllReadyH.nil)
                                case hob8 =>
                                  simp only [List.getElem?_toArray, List.getElem?_cons_succ, List.getElem?_cons_zero]
                                  rfl
                                case hkb8 =>
                                  go_simp
                                  go_at_call 37
                                  refine (hre wr.drew (Below.drew (Below.refl _ _))).mono ?_
                                  rintro e y1 ⟨zv, rfl, oz, bq⟩
                                  have Y1 : Hid (Below wr.heap.size wr y1) := Below.trans (Below.drew (Below.refl _ _)) bq
                                  have RZ : Hid (Reads y1 zv (ints RB)) := reads_own oz
                                  clear bq oz
                                  try go_wp2_with fail
                                  refine hK.out _ _ (HS9.out _ Y1.out) (fun hHeld => ?_)
                                  clear hK K
                                  try simp only [Act.put, List.setIfInBounds_toArray, List.set_cons_zero, List.set_cons_succ]
                                  refine wpAnyH_ready (rs := [16]) (by kernel_rfl) (by simp) ?_
                                  refine (AllReadyH.cons (o := ?oob16) ?hob16 (fun K hK => ?hkb16) AllReadyH.nil)
                                  case hob16 =>
                                    simp only [List.getElem?_toArray, List.getElem?_cons_succ, List.getElem?_cons_zero]
                                    rfl
                                  case hkb16 =>
                                    go_simp
                                    go_at_call 23
                                    refine (lawHas RB (xs[m]'hm) zv y1 hRB RZ.out).mono ?_
                                    rintro e y2 ⟨rfl, bq⟩
                                    have Y2 : Hid (Below wr.heap.size wr y2) := low_step Y1.out bq
                                    rw [hany]
                                    clear bq RZ
                                    try go_wp2_with fail
                                    refine hK.out _ _ (HS9.out _ Y2.out) (fun hHeld => ?_)
                                    clear hK K
                                    try simp only [Act.put, List.setIfInBounds_toArray, List.set_cons_zero, List.set_cons_succ]
                                    refine wpAnyH_take (i := 17) (oi := ?oib17) (v := .bool false) ?hib17 (by kernel_rfl) (by kernel_rfl) (by kernel_rfl) ?hqb17 ?hyb17 hHeld ?hrb17
                                    case hib17 =>
                                      simp only [List.getElem?_toArray, List.getElem?_cons_succ, List.getElem?_cons_zero]
                                      rfl
                                    case hqb17 => exact fun _ _ _ h => h
                                    case hyb17 => exact Or.inl ⟨by kernel_rfl, fun w hSw => by go_simp⟩
                                    try simp only [Act.put, List.setIfInBounds_toArray, List.set_cons_zero, List.set_cons_succ]
                                    refine wpAnyH_done (by kernel_rfl) ?_ _
                                    have BZ : Hid (Below wk.heap.size wk y2) := low_step HB3.out Y2.out
                                    go_wp2
                                    go_roundw
                                    case rel => exact ⟨m + 1, by omega, by go_num, BZ.out⟩
                                    case measure => simp [intOf]; omega
                              · obtain rfl : m = xs.length := by omega
                                have hnm : ¬ (xs.length : Int) < (xs.length : Int) := by omega
                                have hon := HFF.out.once i xs k (xs[k]'hk) HXS.out (by simp [hk])
                                rw [HPF.out] at hon
                                obtain ⟨AL, hAL⟩ : ∃ L, PF ++ xs.take k = L := ⟨_, rfl⟩
                                rw [hAL] at hon
                                have HOWk : Hid (wr.ownsRow x9.heap.size 2 1 av AL.length (ints AL)) := by
                                  show wr.ownsRow x9.heap.size 2 1 av AL.length (ints AL)
                                  rw [← hAL]
                                  exact own_kept HOW.out HB3.out
                                have HAV : Hid (Reads wr av (ints AL)) := reads_own HOWk.out
                                have HAL : Hid (PF ++ xs.take k = AL) := hAL
                                have HAL4 : Hid (AL.length ≤ 4) := by
                                  show AL.length ≤ 4
                                  have h9 := HPL.out
                                  rw [← hAL, List.length_append, List.length_take]
                                  omega
                                have hALm : AL.length ≤ maxLen := by have := HAL4.out; unfold maxLen; omega
                                have HS9 : Hid (∀ X, Below wr.heap.size wr X → X.cell? ⟨bP, 0, none⟩ = some (.slice pa ps.length pc) ∧ X.cell? ⟨gc, i, none⟩ = some (.slice (some ⟨gi, 0, none⟩) xs.length xc) ∧ X.cell? ⟨gi, k, none⟩ = some (.int .i64 (xs[k]'hk))) := fun X hX => ⟨cell_step cPr hX, cell_step cx1 hX, cell_step ck hX⟩
                                have hS9 := HS9.out wr (Below.refl _ _)
                                clear hAL hre0 HRE
                                by_cases hbg : 1 < xs.length
                                · have hbg' : (1 : Int) < (xs.length : Int) := by omega
                                  have hrc := fun X (hX : Below wr.heap.size wr X) => implRecursive ps rr (xs[k]'hk) HRA.out (.slice pa ps.length pc) X hps hpe (readsP_below RPx.out (low_step HBX.out hX))
                                  rw [HFF.out.recu xs hxm hbg _ (List.getElem_mem hk)] at hrc
                                  go_wp2_with fail
                                  refine wp_region_held_drew (S := fun X => X.cell? ⟨bP, 0, none⟩ = some (.slice pa ps.length pc) ∧ X.cell? ⟨gc, i, none⟩ = some (.slice (some ⟨gi, 0, none⟩) xs.length xc) ∧ X.cell? ⟨gi, k, none⟩ = some (.int .i64 (xs[k]'hk))) (by kernel_rfl) hS9 (fun hHeld => ?_)
                                  refine wpAnyH_take (i := 0) (oi := ?oic0) (v := av) ?hic0 (by kernel_rfl) (by kernel_rfl) (by kernel_rfl) ?hqc0 ?hyc0 hHeld ?hrc0
                                  case hic0 =>
                                    simp only [List.getElem?_toArray, List.getElem?_cons_succ, List.getElem?_cons_zero]
                                    rfl
                                  case hqc0 => exact fun _ _ _ h => h
                                  case hyc0 => exact Or.inl ⟨by kernel_rfl, fun w hSw => by go_simp⟩
                                  try simp only [Act.put, List.setIfInBounds_toArray, List.set_cons_zero, List.set_cons_succ]
                                  refine wpAnyH_take (i := 1) (oi := ?oic1) (v := .slice (some ⟨gc, 0, none⟩) A.length lc) ?hic1 (by kernel_rfl) (by kernel_rfl) (by kernel_rfl) ?hqc1 ?hyc1 hHeld ?hrc1
                                  case hic1 =>
                                    simp only [List.getElem?_toArray, List.getElem?_cons_succ, List.getElem?_cons_zero]
                                    rfl
                                  case hqc1 => exact fun _ _ _ h => h
                                  case hyc1 => exact Or.inl ⟨by kernel_rfl, fun w hSw => by go_simp⟩
                                  try simp only [Act.put, List.setIfInBounds_toArray, List.set_cons_zero, List.set_cons_succ]
                                  refine wpAnyH_take (i := 2) (oi := ?oic2) (v := .int .i64 (i : Int)) ?hic2 (by kernel_rfl) (by kernel_rfl) (by kernel_rfl) ?hqc2 ?hyc2 hHeld ?hrc2
                                  case hic2 =>
                                    simp only [List.getElem?_toArray, List.getElem?_cons_succ, List.getElem?_cons_zero]
                                    rfl
                                  case hqc2 => exact fun _ _ _ h => h
                                  case hyc2 => exact Or.inl ⟨by kernel_rfl, fun w hSw => by go_simp⟩
                                  try simp only [Act.put, List.setIfInBounds_toArray, List.set_cons_zero, List.set_cons_succ]
                                  refine wpAnyH_take (i := 3) (oi := ?oic3) (v := .pointer (some ⟨gc, i, none⟩)) ?hic3 (by kernel_rfl) (by kernel_rfl) (by kernel_rfl) ?hqc3 ?hyc3 hHeld ?hrc3
                                  case hic3 =>
                                    simp only [List.getElem?_toArray, List.getElem?_cons_succ, List.getElem?_cons_zero]
                                    rfl
                                  case hqc3 => exact fun _ _ _ h => h
                                  case hyc3 => exact Or.inl ⟨by kernel_rfl, fun w hSw => by go_simp⟩
                                  try simp only [Act.put, List.setIfInBounds_toArray, List.set_cons_zero, List.set_cons_succ]
                                  refine wpAnyH_take (i := 4) (oi := ?oic4) (v := .slice (some ⟨gi, 0, none⟩) xs.length xc) ?hic4 (by kernel_rfl) (by kernel_rfl) (by kernel_rfl) ?hqc4 ?hyc4 hHeld ?hrc4
                                  case hic4 =>
                                    simp only [List.getElem?_toArray, List.getElem?_cons_succ, List.getElem?_cons_zero]
                                    rfl
                                  case hqc4 => exact fun _ _ _ h => h
                                  case hyc4 => exact Or.inl ⟨by kernel_rfl, fun w hSw => by obtain ⟨s0, s1, s2⟩ := hSw; go_simp⟩
                                  try simp only [Act.put, List.setIfInBounds_toArray, List.set_cons_zero, List.set_cons_succ]
                                  refine wpAnyH_take (i := 5) (oi := ?oic5) (v := .int .i64 (k : Int)) ?hic5 (by kernel_rfl) (by kernel_rfl) (by kernel_rfl) ?hqc5 ?hyc5 hHeld ?hrc5
                                  case hic5 =>
                                    simp only [List.getElem?_toArray, List.getElem?_cons_succ, List.getElem?_cons_zero]
                                    rfl
                                  case hqc5 => exact fun _ _ _ h => h
                                  case hyc5 => exact Or.inl ⟨by kernel_rfl, fun w hSw => by go_simp⟩
                                  try simp only [Act.put, List.setIfInBounds_toArray, List.set_cons_zero, List.set_cons_succ]
                                  refine wpAnyH_take (i := 6) (oi := ?oic6) (v := .pointer (some ⟨gi, k, none⟩)) ?hic6 (by kernel_rfl) (by kernel_rfl) (by kernel_rfl) ?hqc6 ?hyc6 hHeld ?hrc6
                                  case hic6 =>
                                    simp only [List.getElem?_toArray, List.getElem?_cons_succ, List.getElem?_cons_zero]
                                    rfl
                                  case hqc6 => exact fun _ _ _ h => h
                                  case hyc6 => exact Or.inl ⟨by kernel_rfl, fun w hSw => by go_simp⟩
                                  try simp only [Act.put, List.setIfInBounds_toArray, List.set_cons_zero, List.set_cons_succ]
                                  refine wpAnyH_take (i := 7) (oi := ?oic7) (v := .int .i64 (xs[k]'hk)) ?hic7 (by kernel_rfl) (by kernel_rfl) (by kernel_rfl) ?hqc7 ?hyc7 hHeld ?hrc7
                                  case hic7 =>
                                    simp only [List.getElem?_toArray, List.getElem?_cons_succ, List.getElem?_cons_zero]
                                    rfl
                                  case hqc7 => exact fun _ _ _ h => h
                                  case hyc7 => exact Or.inl ⟨by kernel_rfl, fun w hSw => by obtain ⟨s0, s1, s2⟩ := hSw; go_simp⟩
                                  try simp only [Act.put, List.setIfInBounds_toArray, List.set_cons_zero, List.set_cons_succ]
                                  refine wpAnyH_ready (rs := [8]) (by kernel_rfl) (by simp) ?_
                                  refine (AllReadyH.cons (o := ?ooc8) ?hoc8 (fun K hK => ?hkc8) AllReadyH.nil)
                                  case hoc8 =>
                                    simp only [List.getElem?_toArray, List.getElem?_cons_succ, List.getElem?_cons_zero]
                                    rfl
                                  case hkc8 =>
                                    go_simp
                                    go_at_call 23
                                    refine (lawHas AL (xs[k]'hk) av wr.drew hALm (reads_below HAV.out (Below.drew (Below.refl _ _)))).mono ?_
                                    rintro e y1 ⟨rfl, bq⟩
                                    have Y1 : Hid (Below wr.heap.size wr y1) := Below.trans (Below.drew (Below.refl _ _)) bq
                                    rw [hon]
                                    clear bq 
                                    try go_wp2_with fail
                                    refine hK.out _ _ (HS9.out _ Y1.out) (fun hHeld => ?_)
                                    clear hK K
                                    try simp only [Act.put, List.setIfInBounds_toArray, List.set_cons_zero, List.set_cons_succ]
                                    refine wpAnyH_take (i := 9) (oi := ?oic9) (v := .bool false) ?hic9 (by kernel_rfl) (by kernel_rfl) (by kernel_rfl) ?hqc9 ?hyc9 hHeld ?hrc9
                                    case hic9 =>
                                      simp only [List.getElem?_toArray, List.getElem?_cons_succ, List.getElem?_cons_zero]
                                      rfl
                                    case hqc9 => exact fun _ _ _ h => h
                                    case hyc9 => exact Or.inl ⟨by kernel_rfl, fun w hSw => by go_simp⟩
                                    try simp only [Act.put, List.setIfInBounds_toArray, List.set_cons_zero, List.set_cons_succ]
                                    refine wpAnyH_take (i := 10) (oi := ?oic10) (v := .slice (some ⟨gc, 0, none⟩) A.length lc) ?hic10 (by kernel_rfl) (by kernel_rfl) (by kernel_rfl) ?hqc10 ?hyc10 hHeld ?hrc10
                                    case hic10 =>
                                      simp only [List.getElem?_toArray, List.getElem?_cons_succ, List.getElem?_cons_zero]
                                      rfl
                                    case hqc10 => exact fun _ _ _ h => h
                                    case hyc10 => exact Or.inl ⟨by kernel_rfl, fun w hSw => by go_simp⟩
                                    try simp only [Act.put, List.setIfInBounds_toArray, List.set_cons_zero, List.set_cons_succ]
                                    refine wpAnyH_take (i := 11) (oi := ?oic11) (v := .int .i64 (i : Int)) ?hic11 (by kernel_rfl) (by kernel_rfl) (by kernel_rfl) ?hqc11 ?hyc11 hHeld ?hrc11
                                    case hic11 =>
                                      simp only [List.getElem?_toArray, List.getElem?_cons_succ, List.getElem?_cons_zero]
                                      rfl
                                    case hqc11 => exact fun _ _ _ h => h
                                    case hyc11 => exact Or.inl ⟨by kernel_rfl, fun w hSw => by go_simp⟩
                                    try simp only [Act.put, List.setIfInBounds_toArray, List.set_cons_zero, List.set_cons_succ]
                                    refine wpAnyH_take (i := 12) (oi := ?oic12) (v := .pointer (some ⟨gc, i, none⟩)) ?hic12 (by kernel_rfl) (by kernel_rfl) (by kernel_rfl) ?hqc12 ?hyc12 hHeld ?hrc12
                                    case hic12 =>
                                      simp only [List.getElem?_toArray, List.getElem?_cons_succ, List.getElem?_cons_zero]
                                      rfl
                                    case hqc12 => exact fun _ _ _ h => h
                                    case hyc12 => exact Or.inl ⟨by kernel_rfl, fun w hSw => by go_simp⟩
                                    try simp only [Act.put, List.setIfInBounds_toArray, List.set_cons_zero, List.set_cons_succ]
                                    refine wpAnyH_take (i := 13) (oi := ?oic13) (v := .slice (some ⟨gi, 0, none⟩) xs.length xc) ?hic13 (by kernel_rfl) (by kernel_rfl) (by kernel_rfl) ?hqc13 ?hyc13 hHeld ?hrc13
                                    case hic13 =>
                                      simp only [List.getElem?_toArray, List.getElem?_cons_succ, List.getElem?_cons_zero]
                                      rfl
                                    case hqc13 => exact fun _ _ _ h => h
                                    case hyc13 => exact Or.inl ⟨by kernel_rfl, fun w hSw => by obtain ⟨s0, s1, s2⟩ := hSw; go_simp⟩
                                    try simp only [Act.put, List.setIfInBounds_toArray, List.set_cons_zero, List.set_cons_succ]
                                    refine wpAnyH_take (i := 14) (oi := ?oic14) (v := .int .i64 (xs.length : Int)) ?hic14 (by kernel_rfl) (by kernel_rfl) (by kernel_rfl) ?hqc14 ?hyc14 hHeld ?hrc14
                                    case hic14 =>
                                      simp only [List.getElem?_toArray, List.getElem?_cons_succ, List.getElem?_cons_zero]
                                      rfl
                                    case hqc14 => exact fun _ _ _ h => h
                                    case hyc14 => exact Or.inl ⟨by kernel_rfl, fun w hSw => by go_simp⟩
                                    try simp only [Act.put, List.setIfInBounds_toArray, List.set_cons_zero, List.set_cons_succ]
                                    refine wpAnyH_take (i := 15) (oi := ?oic15) (v := .bool true) ?hic15 (by kernel_rfl) (by kernel_rfl) (by kernel_rfl) ?hqc15 ?hyc15 hHeld ?hrc15
                                    case hic15 =>
                                      simp only [List.getElem?_toArray, List.getElem?_cons_succ, List.getElem?_cons_zero]
                                      rfl
                                    case hqc15 => exact fun _ _ _ h => h
                                    case hyc15 => exact Or.inl ⟨by kernel_rfl, fun w hSw => by go_simp⟩
                                    try simp only [Act.put, List.setIfInBounds_toArray, List.set_cons_zero, List.set_cons_succ]
                                    refine wpAnyH_take (i := 16) (oi := ?oic16) (v := .bool true) ?hic16 (by kernel_rfl) (by kernel_rfl) (by kernel_rfl) ?hqc16 ?hyc16 hHeld ?hrc16
                                    case hic16 =>
                                      simp only [List.getElem?_toArray, List.getElem?_cons_succ, List.getElem?_cons_zero]
                                      rfl
                                    case hqc16 => exact fun _ _ _ h => h
                                    case hyc16 => exact Or.inl ⟨by kernel_rfl, fun w hSw => by go_simp⟩
                                    try simp only [Act.put, List.setIfInBounds_toArray, List.set_cons_zero, List.set_cons_succ]
                                    refine wpAnyH_take (i := 17) (oi := ?oic17) (v := .agg #[.slice pa ps.length pc]) ?hic17 (by kernel_rfl) (by kernel_rfl) (by kernel_rfl) ?hqc17 ?hyc17 hHeld ?hrc17
                                    case hic17 =>
                                      simp only [List.getElem?_toArray, List.getElem?_cons_succ, List.getElem?_cons_zero]
                                      rfl
                                    case hqc17 => exact fun _ _ _ h => h
                                    case hyc17 => exact Or.inl ⟨by kernel_rfl, fun w hSw => by obtain ⟨s0, s1, s2⟩ := hSw; go_simp⟩
                                    try simp only [Act.put, List.setIfInBounds_toArray, List.set_cons_zero, List.set_cons_succ]
                                    refine wpAnyH_take (i := 18) (oi := ?oic18) (v := .slice (some ⟨gc, 0, none⟩) A.length lc) ?hic18 (by kernel_rfl) (by kernel_rfl) (by kernel_rfl) ?hqc18 ?hyc18 hHeld ?hrc18
                                    case hic18 =>
                                      simp only [List.getElem?_toArray, List.getElem?_cons_succ, List.getElem?_cons_zero]
                                      rfl
                                    case hqc18 => exact fun _ _ _ h => h
                                    case hyc18 => exact Or.inl ⟨by kernel_rfl, fun w hSw => by go_simp⟩
                                    try simp only [Act.put, List.setIfInBounds_toArray, List.set_cons_zero, List.set_cons_succ]
                                    refine wpAnyH_take (i := 19) (oi := ?oic19) (v := .int .i64 (i : Int)) ?hic19 (by kernel_rfl) (by kernel_rfl) (by kernel_rfl) ?hqc19 ?hyc19 hHeld ?hrc19
                                    case hic19 =>
                                      simp only [List.getElem?_toArray, List.getElem?_cons_succ, List.getElem?_cons_zero]
                                      rfl
                                    case hqc19 => exact fun _ _ _ h => h
                                    case hyc19 => exact Or.inl ⟨by kernel_rfl, fun w hSw => by go_simp⟩
                                    try simp only [Act.put, List.setIfInBounds_toArray, List.set_cons_zero, List.set_cons_succ]
                                    refine wpAnyH_take (i := 20) (oi := ?oic20) (v := .pointer (some ⟨gc, i, none⟩)) ?hic20 (by kernel_rfl) (by kernel_rfl) (by kernel_rfl) ?hqc20 ?hyc20 hHeld ?hrc20
                                    case hic20 =>
                                      simp only [List.getElem?_toArray, List.getElem?_cons_succ, List.getElem?_cons_zero]
                                      rfl
                                    case hqc20 => exact fun _ _ _ h => h
                                    case hyc20 => exact Or.inl ⟨by kernel_rfl, fun w hSw => by go_simp⟩
                                    try simp only [Act.put, List.setIfInBounds_toArray, List.set_cons_zero, List.set_cons_succ]
                                    refine wpAnyH_take (i := 21) (oi := ?oic21) (v := .slice (some ⟨gi, 0, none⟩) xs.length xc) ?hic21 (by kernel_rfl) (by kernel_rfl) (by kernel_rfl) ?hqc21 ?hyc21 hHeld ?hrc21
                                    case hic21 =>
                                      simp only [List.getElem?_toArray, List.getElem?_cons_succ, List.getElem?_cons_zero]
                                      rfl
                                    case hqc21 => exact fun _ _ _ h => h
                                    case hyc21 => exact Or.inl ⟨by kernel_rfl, fun w hSw => by obtain ⟨s0, s1, s2⟩ := hSw; go_simp⟩
                                    try simp only [Act.put, List.setIfInBounds_toArray, List.set_cons_zero, List.set_cons_succ]
                                    refine wpAnyH_take (i := 22) (oi := ?oic22) (v := .int .i64 (k : Int)) ?hic22 (by kernel_rfl) (by kernel_rfl) (by kernel_rfl) ?hqc22 ?hyc22 hHeld ?hrc22
                                    case hic22 =>
                                      simp only [List.getElem?_toArray, List.getElem?_cons_succ, List.getElem?_cons_zero]
                                      rfl
                                    case hqc22 => exact fun _ _ _ h => h
                                    case hyc22 => exact Or.inl ⟨by kernel_rfl, fun w hSw => by go_simp⟩
                                    try simp only [Act.put, List.setIfInBounds_toArray, List.set_cons_zero, List.set_cons_succ]
                                    refine wpAnyH_take (i := 23) (oi := ?oic23) (v := .pointer (some ⟨gi, k, none⟩)) ?hic23 (by kernel_rfl) (by kernel_rfl) (by kernel_rfl) ?hqc23 ?hyc23 hHeld ?hrc23
                                    case hic23 =>
                                      simp only [List.getElem?_toArray, List.getElem?_cons_succ, List.getElem?_cons_zero]
                                      rfl
                                    case hqc23 => exact fun _ _ _ h => h
                                    case hyc23 => exact Or.inl ⟨by kernel_rfl, fun w hSw => by go_simp⟩
                                    try simp only [Act.put, List.setIfInBounds_toArray, List.set_cons_zero, List.set_cons_succ]
                                    refine wpAnyH_take (i := 24) (oi := ?oic24) (v := .int .i64 (xs[k]'hk)) ?hic24 (by kernel_rfl) (by kernel_rfl) (by kernel_rfl) ?hqc24 ?hyc24 hHeld ?hrc24
                                    case hic24 =>
                                      simp only [List.getElem?_toArray, List.getElem?_cons_succ, List.getElem?_cons_zero]
                                      rfl
                                    case hqc24 => exact fun _ _ _ h => h
                                    case hyc24 => exact Or.inl ⟨by kernel_rfl, fun w hSw => by obtain ⟨s0, s1, s2⟩ := hSw; go_simp⟩
                                    try simp only [Act.put, List.setIfInBounds_toArray, List.set_cons_zero, List.set_cons_succ]
                                    refine wpAnyH_ready (rs := [25]) (by kernel_rfl) (by simp) ?_
                                    refine (AllReadyH.cons (o := ?ooc25) ?hoc25 (fun K hK => ?hkc25) AllReadyH.nil)
                                    case hoc25 =>
                                      simp only [List.getElem?_toArray, List.getElem?_cons_succ, List.getElem?_cons_zero]
                                      rfl
                                    case hkc25 =>
                                      go_simp
                                      go_at_call 42
                                      refine (hrc y1 Y1.out).mono ?_
                                      rintro e y2 ⟨rfl, bq⟩
                                      have Y2 : Hid (Below wr.heap.size wr y2) := low_step Y1.out bq
                                      clear bq 
                                      try go_wp2_with fail
                                      refine hK.out _ _ (HS9.out _ Y2.out) (fun hHeld => ?_)
                                      clear hK K
                                      try simp only [Act.put, List.setIfInBounds_toArray, List.set_cons_zero, List.set_cons_succ]
                                      refine wpAnyH_take (i := 26) (oi := ?oic26) (v := .bool false) ?hic26 (by kernel_rfl) (by kernel_rfl) (by kernel_rfl) ?hqc26 ?hyc26 hHeld ?hrc26
                                      case hic26 =>
                                        simp only [List.getElem?_toArray, List.getElem?_cons_succ, List.getElem?_cons_zero]
                                        rfl
                                      case hqc26 => exact fun _ _ _ h => h
                                      case hyc26 => exact Or.inl ⟨by kernel_rfl, fun w hSw => by go_simp⟩
                                      try simp only [Act.put, List.setIfInBounds_toArray, List.set_cons_zero, List.set_cons_succ]
                                      refine wpAnyH_take (i := 27) (oi := ?oic27) (v := .bool false) ?hic27 (by kernel_rfl) (by kernel_rfl) (by kernel_rfl) ?hqc27 ?hyc27 hHeld ?hrc27
                                      case hic27 =>
                                        simp only [List.getElem?_toArray, List.getElem?_cons_succ, List.getElem?_cons_zero]
                                        rfl
                                      case hqc27 => exact fun _ _ _ h => h
                                      case hyc27 => exact Or.inl ⟨by kernel_rfl, fun w hSw => by go_simp⟩
                                      try simp only [Act.put, List.setIfInBounds_toArray, List.set_cons_zero, List.set_cons_succ]
                                      refine wpAnyH_take (i := 28) (oi := ?oic28) (v := .bool false) ?hic28 (by kernel_rfl) (by kernel_rfl) (by kernel_rfl) ?hqc28 ?hyc28 hHeld ?hrc28
                                      case hic28 =>
                                        simp only [List.getElem?_toArray, List.getElem?_cons_succ, List.getElem?_cons_zero]
                                        rfl
                                      case hqc28 => exact fun _ _ _ h => h
                                      case hyc28 => exact Or.inl ⟨by kernel_rfl, fun w hSw => by go_simp⟩
                                      try simp only [Act.put, List.setIfInBounds_toArray, List.set_cons_zero, List.set_cons_succ]
                                      refine wpAnyH_done (by kernel_rfl) ?_ _
                                      have HBy : Hid (Below x9.heap.size x9 y2) := low_step HBX.out Y2.out
                                      have HOy : Hid (y2.ownsRow x9.heap.size 2 1 av AL.length (ints AL)) := own_kept HOWk.out Y2.out
                                      obtain ⟨t0, t1, t2⟩ := HS9.out y2 Y2.out
                                      have hALl := HAL4.out
                                      have hsz : x9.heap.size ≤ (y2.alloc (.cells #[.int .i64 (xs[k]'hk)] 2)).heap.size := by have := HBy.out.size; simp; omega
                                      go_wp2_with (at_builtin; refine wpList_append_own _ rfl (.tmp 151) (.tmp 159) 30 rfl x9.heap.size 2 i0' (.int .i64 0) 1 8 Try.underlying30 hi0 hz0 hz1 hz2 rfl (by decide) _ AL.length (ints AL) rfl (HOy.out.alloc _) ⟨y2.heap.size, 0, none⟩ 1 1 [.int .i64 (xs[k]'hk)] rfl rfl (cell_one y2 (xs[k]'hk)) (ints_oneCell [xs[k]'hk]) (by unfold maxLen; omega) (by omega) hsz ?_; intro v6 w6 own6 grow6 _; refine stop_of ?_)
                                      unfold Stop
                                      have B6 : Hid (Below x9.heap.size x9 w6) := below_row (low_box' HBy.out) grow6 (fun k e => (HOy.out.lt k e).1)
                                      have O6 : Hid (w6.ownsRow x9.heap.size 2 1 v6 (PF ++ xs.take (k + 1)).length (ints (PF ++ xs.take (k + 1)))) := by
                                        show w6.ownsRow x9.heap.size 2 1 v6 (PF ++ xs.take (k + 1)).length (ints (PF ++ xs.take (k + 1)))
                                        have e : PF ++ xs.take (k + 1) = AL ++ [xs[k]'hk] := by rw [List.take_succ_eq_append_getElem hk, ← HAL.out, List.append_assoc]
                                        rw [e]
                                        have h9 := own6
                                        simpa [ints] using h9
                                      clear own6 grow6
                                      go_wp2
                                      go_roundw
                                      case rel => exact ⟨k + 1, by omega, by go_num, O6.out, B6.out⟩
                                      case measure => simp [intOf]; omega
                                · have hbg' : ¬ (1 : Int) < (xs.length : Int) := by omega
                                  go_wp2_with fail
                                  refine wp_region_held_drew (S := fun X => X.cell? ⟨bP, 0, none⟩ = some (.slice pa ps.length pc) ∧ X.cell? ⟨gc, i, none⟩ = some (.slice (some ⟨gi, 0, none⟩) xs.length xc) ∧ X.cell? ⟨gi, k, none⟩ = some (.int .i64 (xs[k]'hk))) (by kernel_rfl) hS9 (fun hHeld => ?_)
                                  refine wpAnyH_take (i := 0) (oi := ?oid0) (v := av) ?hid0 (by kernel_rfl) (by kernel_rfl) (by kernel_rfl) ?hqd0 ?hyd0 hHeld ?hrd0
                                  case hid0 =>
                                    simp only [List.getElem?_toArray, List.getElem?_cons_succ, List.getElem?_cons_zero]
                                    rfl
                                  case hqd0 => exact fun _ _ _ h => h
                                  case hyd0 => exact Or.inl ⟨by kernel_rfl, fun w hSw => by go_simp⟩
                                  try simp only [Act.put, List.setIfInBounds_toArray, List.set_cons_zero, List.set_cons_succ]
                                  refine wpAnyH_take (i := 1) (oi := ?oid1) (v := .slice (some ⟨gc, 0, none⟩) A.length lc) ?hid1 (by kernel_rfl) (by kernel_rfl) (by kernel_rfl) ?hqd1 ?hyd1 hHeld ?hrd1
                                  case hid1 =>
                                    simp only [List.getElem?_toArray, List.getElem?_cons_succ, List.getElem?_cons_zero]
                                    rfl
                                  case hqd1 => exact fun _ _ _ h => h
                                  case hyd1 => exact Or.inl ⟨by kernel_rfl, fun w hSw => by go_simp⟩
                                  try simp only [Act.put, List.setIfInBounds_toArray, List.set_cons_zero, List.set_cons_succ]
                                  refine wpAnyH_take (i := 2) (oi := ?oid2) (v := .int .i64 (i : Int)) ?hid2 (by kernel_rfl) (by kernel_rfl) (by kernel_rfl) ?hqd2 ?hyd2 hHeld ?hrd2
                                  case hid2 =>
                                    simp only [List.getElem?_toArray, List.getElem?_cons_succ, List.getElem?_cons_zero]
                                    rfl
                                  case hqd2 => exact fun _ _ _ h => h
                                  case hyd2 => exact Or.inl ⟨by kernel_rfl, fun w hSw => by go_simp⟩
                                  try simp only [Act.put, List.setIfInBounds_toArray, List.set_cons_zero, List.set_cons_succ]
                                  refine wpAnyH_take (i := 3) (oi := ?oid3) (v := .pointer (some ⟨gc, i, none⟩)) ?hid3 (by kernel_rfl) (by kernel_rfl) (by kernel_rfl) ?hqd3 ?hyd3 hHeld ?hrd3
                                  case hid3 =>
                                    simp only [List.getElem?_toArray, List.getElem?_cons_succ, List.getElem?_cons_zero]
                                    rfl
                                  case hqd3 => exact fun _ _ _ h => h
                                  case hyd3 => exact Or.inl ⟨by kernel_rfl, fun w hSw => by go_simp⟩
                                  try simp only [Act.put, List.setIfInBounds_toArray, List.set_cons_zero, List.set_cons_succ]
                                  refine wpAnyH_take (i := 4) (oi := ?oid4) (v := .slice (some ⟨gi, 0, none⟩) xs.length xc) ?hid4 (by kernel_rfl) (by kernel_rfl) (by kernel_rfl) ?hqd4 ?hyd4 hHeld ?hrd4
                                  case hid4 =>
                                    simp only [List.getElem?_toArray, List.getElem?_cons_succ, List.getElem?_cons_zero]
                                    rfl
                                  case hqd4 => exact fun _ _ _ h => h
                                  case hyd4 => exact Or.inl ⟨by kernel_rfl, fun w hSw => by obtain ⟨s0, s1, s2⟩ := hSw; go_simp⟩
                                  try simp only [Act.put, List.setIfInBounds_toArray, List.set_cons_zero, List.set_cons_succ]
                                  refine wpAnyH_take (i := 5) (oi := ?oid5) (v := .int .i64 (k : Int)) ?hid5 (by kernel_rfl) (by kernel_rfl) (by kernel_rfl) ?hqd5 ?hyd5 hHeld ?hrd5
                                  case hid5 =>
                                    simp only [List.getElem?_toArray, List.getElem?_cons_succ, List.getElem?_cons_zero]
                                    rfl
                                  case hqd5 => exact fun _ _ _ h => h
                                  case hyd5 => exact Or.inl ⟨by kernel_rfl, fun w hSw => by go_simp⟩
                                  try simp only [Act.put, List.setIfInBounds_toArray, List.set_cons_zero, List.set_cons_succ]
                                  refine wpAnyH_take (i := 6) (oi := ?oid6) (v := .pointer (some ⟨gi, k, none⟩)) ?hid6 (by kernel_rfl) (by kernel_rfl) (by kernel_rfl) ?hqd6 ?hyd6 hHeld ?hrd6
                                  case hid6 =>
                                    simp only [List.getElem?_toArray, List.getElem?_cons_succ, List.getElem?_cons_zero]
                                    rfl
                                  case hqd6 => exact fun _ _ _ h => h
                                  case hyd6 => exact Or.inl ⟨by kernel_rfl, fun w hSw => by go_simp⟩
                                  try simp only [Act.put, List.setIfInBounds_toArray, List.set_cons_zero, List.set_cons_succ]
                                  refine wpAnyH_take (i := 7) (oi := ?oid7) (v := .int .i64 (xs[k]'hk)) ?hid7 (by kernel_rfl) (by kernel_rfl) (by kernel_rfl) ?hqd7 ?hyd7 hHeld ?hrd7
                                  case hid7 =>
                                    simp only [List.getElem?_toArray, List.getElem?_cons_succ, List.getElem?_cons_zero]
                                    rfl
                                  case hqd7 => exact fun _ _ _ h => h
                                  case hyd7 => exact Or.inl ⟨by kernel_rfl, fun w hSw => by obtain ⟨s0, s1, s2⟩ := hSw; go_simp⟩
                                  try simp only [Act.put, List.setIfInBounds_toArray, List.set_cons_zero, List.set_cons_succ]
                                  refine wpAnyH_ready (rs := [8]) (by kernel_rfl) (by simp) ?_
                                  refine (AllReadyH.cons (o := ?ood8) ?hod8 (fun K hK => ?hkd8) AllReadyH.nil)
                                  case hod8 =>
                                    simp only [List.getElem?_toArray, List.getElem?_cons_succ, List.getElem?_cons_zero]
                                    rfl
                                  case hkd8 =>
                                    go_simp
                                    go_at_call 23
                                    refine (lawHas AL (xs[k]'hk) av wr.drew hALm (reads_below HAV.out (Below.drew (Below.refl _ _)))).mono ?_
                                    rintro e y1 ⟨rfl, bq⟩
                                    have Y1 : Hid (Below wr.heap.size wr y1) := Below.trans (Below.drew (Below.refl _ _)) bq
                                    rw [hon]
                                    clear bq 
                                    try go_wp2_with fail
                                    refine hK.out _ _ (HS9.out _ Y1.out) (fun hHeld => ?_)
                                    clear hK K
                                    try simp only [Act.put, List.setIfInBounds_toArray, List.set_cons_zero, List.set_cons_succ]
                                    refine wpAnyH_take (i := 9) (oi := ?oid9) (v := .bool false) ?hid9 (by kernel_rfl) (by kernel_rfl) (by kernel_rfl) ?hqd9 ?hyd9 hHeld ?hrd9
                                    case hid9 =>
                                      simp only [List.getElem?_toArray, List.getElem?_cons_succ, List.getElem?_cons_zero]
                                      rfl
                                    case hqd9 => exact fun _ _ _ h => h
                                    case hyd9 => exact Or.inl ⟨by kernel_rfl, fun w hSw => by go_simp⟩
                                    try simp only [Act.put, List.setIfInBounds_toArray, List.set_cons_zero, List.set_cons_succ]
                                    refine wpAnyH_take (i := 10) (oi := ?oid10) (v := .slice (some ⟨gc, 0, none⟩) A.length lc) ?hid10 (by kernel_rfl) (by kernel_rfl) (by kernel_rfl) ?hqd10 ?hyd10 hHeld ?hrd10
                                    case hid10 =>
                                      simp only [List.getElem?_toArray, List.getElem?_cons_succ, List.getElem?_cons_zero]
                                      rfl
                                    case hqd10 => exact fun _ _ _ h => h
                                    case hyd10 => exact Or.inl ⟨by kernel_rfl, fun w hSw => by go_simp⟩
                                    try simp only [Act.put, List.setIfInBounds_toArray, List.set_cons_zero, List.set_cons_succ]
                                    refine wpAnyH_take (i := 11) (oi := ?oid11) (v := .int .i64 (i : Int)) ?hid11 (by kernel_rfl) (by kernel_rfl) (by kernel_rfl) ?hqd11 ?hyd11 hHeld ?hrd11
                                    case hid11 =>
                                      simp only [List.getElem?_toArray, List.getElem?_cons_succ, List.getElem?_cons_zero]
                                      rfl
                                    case hqd11 => exact fun _ _ _ h => h
                                    case hyd11 => exact Or.inl ⟨by kernel_rfl, fun w hSw => by go_simp⟩
                                    try simp only [Act.put, List.setIfInBounds_toArray, List.set_cons_zero, List.set_cons_succ]
                                    refine wpAnyH_take (i := 12) (oi := ?oid12) (v := .pointer (some ⟨gc, i, none⟩)) ?hid12 (by kernel_rfl) (by kernel_rfl) (by kernel_rfl) ?hqd12 ?hyd12 hHeld ?hrd12
                                    case hid12 =>
                                      simp only [List.getElem?_toArray, List.getElem?_cons_succ, List.getElem?_cons_zero]
                                      rfl
                                    case hqd12 => exact fun _ _ _ h => h
                                    case hyd12 => exact Or.inl ⟨by kernel_rfl, fun w hSw => by go_simp⟩
                                    try simp only [Act.put, List.setIfInBounds_toArray, List.set_cons_zero, List.set_cons_succ]
                                    refine wpAnyH_take (i := 13) (oi := ?oid13) (v := .slice (some ⟨gi, 0, none⟩) xs.length xc) ?hid13 (by kernel_rfl) (by kernel_rfl) (by kernel_rfl) ?hqd13 ?hyd13 hHeld ?hrd13
                                    case hid13 =>
                                      simp only [List.getElem?_toArray, List.getElem?_cons_succ, List.getElem?_cons_zero]
                                      rfl
                                    case hqd13 => exact fun _ _ _ h => h
                                    case hyd13 => exact Or.inl ⟨by kernel_rfl, fun w hSw => by obtain ⟨s0, s1, s2⟩ := hSw; go_simp⟩
                                    try simp only [Act.put, List.setIfInBounds_toArray, List.set_cons_zero, List.set_cons_succ]
                                    refine wpAnyH_take (i := 14) (oi := ?oid14) (v := .int .i64 (xs.length : Int)) ?hid14 (by kernel_rfl) (by kernel_rfl) (by kernel_rfl) ?hqd14 ?hyd14 hHeld ?hrd14
                                    case hid14 =>
                                      simp only [List.getElem?_toArray, List.getElem?_cons_succ, List.getElem?_cons_zero]
                                      rfl
                                    case hqd14 => exact fun _ _ _ h => h
                                    case hyd14 => exact Or.inl ⟨by kernel_rfl, fun w hSw => by go_simp⟩
                                    try simp only [Act.put, List.setIfInBounds_toArray, List.set_cons_zero, List.set_cons_succ]
                                    refine wpAnyH_take (i := 15) (oi := ?oid15) (v := .bool false) ?hid15 (by kernel_rfl) (by kernel_rfl) (by kernel_rfl) ?hqd15 ?hyd15 hHeld ?hrd15
                                    case hid15 =>
                                      simp only [List.getElem?_toArray, List.getElem?_cons_succ, List.getElem?_cons_zero]
                                      rfl
                                    case hqd15 => exact fun _ _ _ h => h
                                    case hyd15 => exact Or.inl ⟨by kernel_rfl, fun w hSw => by go_simp⟩
                                    try simp only [Act.put, List.setIfInBounds_toArray, List.set_cons_zero, List.set_cons_succ]
                                    refine wpAnyH_take (i := 16) (oi := ?oid16) (v := .bool false) ?hid16 (by kernel_rfl) (by kernel_rfl) (by kernel_rfl) ?hqd16 ?hyd16 hHeld ?hrd16
                                    case hid16 =>
                                      simp only [List.getElem?_toArray, List.getElem?_cons_succ, List.getElem?_cons_zero]
                                      rfl
                                    case hqd16 => exact fun _ _ _ h => h
                                    case hyd16 => exact Or.inl ⟨by kernel_rfl, fun w hSw => by go_simp⟩
                                    try simp only [Act.put, List.setIfInBounds_toArray, List.set_cons_zero, List.set_cons_succ]
                                    refine wpAnyH_take (i := 17) (oi := ?oid17) (v := undef) ?hid17 (by kernel_rfl) (by kernel_rfl) (by kernel_rfl) ?hqd17 ?hyd17 hHeld ?hrd17
                                    case hid17 =>
                                      simp only [List.getElem?_toArray, List.getElem?_cons_succ, List.getElem?_cons_zero]
                                      rfl
                                    case hqd17 => exact fun _ _ _ h => h
                                    case hyd17 => exact Or.inr ⟨by kernel_rfl, rfl⟩
                                    try simp only [Act.put, List.setIfInBounds_toArray, List.set_cons_zero, List.set_cons_succ]
                                    refine wpAnyH_take (i := 18) (oi := ?oid18) (v := undef) ?hid18 (by kernel_rfl) (by kernel_rfl) (by kernel_rfl) ?hqd18 ?hyd18 hHeld ?hrd18
                                    case hid18 =>
                                      simp only [List.getElem?_toArray, List.getElem?_cons_succ, List.getElem?_cons_zero]
                                      rfl
                                    case hqd18 => exact fun _ _ _ h => h
                                    case hyd18 => exact Or.inr ⟨by kernel_rfl, rfl⟩
                                    try simp only [Act.put, List.setIfInBounds_toArray, List.set_cons_zero, List.set_cons_succ]
                                    refine wpAnyH_take (i := 19) (oi := ?oid19) (v := undef) ?hid19 (by kernel_rfl) (by kernel_rfl) (by kernel_rfl) ?hqd19 ?hyd19 hHeld ?hrd19
                                    case hid19 =>
                                      simp only [List.getElem?_toArray, List.getElem?_cons_succ, List.getElem?_cons_zero]
                                      rfl
                                    case hqd19 => exact fun _ _ _ h => h
                                    case hyd19 => exact Or.inr ⟨by kernel_rfl, rfl⟩
                                    try simp only [Act.put, List.setIfInBounds_toArray, List.set_cons_zero, List.set_cons_succ]
                                    refine wpAnyH_take (i := 20) (oi := ?oid20) (v := undef) ?hid20 (by kernel_rfl) (by kernel_rfl) (by kernel_rfl) ?hqd20 ?hyd20 hHeld ?hrd20
                                    case hid20 =>
                                      simp only [List.getElem?_toArray, List.getElem?_cons_succ, List.getElem?_cons_zero]
                                      rfl
                                    case hqd20 => exact fun _ _ _ h => h
                                    case hyd20 => exact Or.inr ⟨by kernel_rfl, rfl⟩
                                    try simp only [Act.put, List.setIfInBounds_toArray, List.set_cons_zero, List.set_cons_succ]
                                    refine wpAnyH_take (i := 21) (oi := ?oid21) (v := undef) ?hid21 (by kernel_rfl) (by kernel_rfl) (by kernel_rfl) ?hqd21 ?hyd21 hHeld ?hrd21
                                    case hid21 =>
                                      simp only [List.getElem?_toArray, List.getElem?_cons_succ, List.getElem?_cons_zero]
                                      rfl
                                    case hqd21 => exact fun _ _ _ h => h
                                    case hyd21 => exact Or.inr ⟨by kernel_rfl, rfl⟩
                                    try simp only [Act.put, List.setIfInBounds_toArray, List.set_cons_zero, List.set_cons_succ]
                                    refine wpAnyH_take (i := 22) (oi := ?oid22) (v := undef) ?hid22 (by kernel_rfl) (by kernel_rfl) (by kernel_rfl) ?hqd22 ?hyd22 hHeld ?hrd22
                                    case hid22 =>
                                      simp only [List.getElem?_toArray, List.getElem?_cons_succ, List.getElem?_cons_zero]
                                      rfl
                                    case hqd22 => exact fun _ _ _ h => h
                                    case hyd22 => exact Or.inr ⟨by kernel_rfl, rfl⟩
                                    try simp only [Act.put, List.setIfInBounds_toArray, List.set_cons_zero, List.set_cons_succ]
                                    refine wpAnyH_take (i := 23) (oi := ?oid23) (v := undef) ?hid23 (by kernel_rfl) (by kernel_rfl) (by kernel_rfl) ?hqd23 ?hyd23 hHeld ?hrd23
                                    case hid23 =>
                                      simp only [List.getElem?_toArray, List.getElem?_cons_succ, List.getElem?_cons_zero]
                                      rfl
                                    case hqd23 => exact fun _ _ _ h => h
                                    case hyd23 => exact Or.inr ⟨by kernel_rfl, rfl⟩
                                    try simp only [Act.put, List.setIfInBounds_toArray, List.set_cons_zero, List.set_cons_succ]
                                    refine wpAnyH_take (i := 24) (oi := ?oid24) (v := undef) ?hid24 (by kernel_rfl) (by kernel_rfl) (by kernel_rfl) ?hqd24 ?hyd24 hHeld ?hrd24
                                    case hid24 =>
                                      simp only [List.getElem?_toArray, List.getElem?_cons_succ, List.getElem?_cons_zero]
                                      rfl
                                    case hqd24 => exact fun _ _ _ h => h
                                    case hyd24 => exact Or.inr ⟨by kernel_rfl, rfl⟩
                                    try simp only [Act.put, List.setIfInBounds_toArray, List.set_cons_zero, List.set_cons_succ]
                                    refine wpAnyH_take (i := 25) (oi := ?oid25) (v := undef) ?hid25 (by kernel_rfl) (by kernel_rfl) (by kernel_rfl) ?hqd25 ?hyd25 hHeld ?hrd25
                                    case hid25 =>
                                      simp only [List.getElem?_toArray, List.getElem?_cons_succ, List.getElem?_cons_zero]
                                      rfl
                                    case hqd25 => exact fun _ _ _ h => h
                                    case hyd25 => exact Or.inr ⟨by kernel_rfl, rfl⟩
                                    try simp only [Act.put, List.setIfInBounds_toArray, List.set_cons_zero, List.set_cons_succ]
                                    refine wpAnyH_take (i := 26) (oi := ?oid26) (v := undef) ?hid26 (by kernel_rfl) (by kernel_rfl) (by kernel_rfl) ?hqd26 ?hyd26 hHeld ?hrd26
                                    case hid26 =>
                                      simp only [List.getElem?_toArray, List.getElem?_cons_succ, List.getElem?_cons_zero]
                                      rfl
                                    case hqd26 => exact fun _ _ _ h => h
                                    case hyd26 => exact Or.inr ⟨by kernel_rfl, rfl⟩
                                    try simp only [Act.put, List.setIfInBounds_toArray, List.set_cons_zero, List.set_cons_succ]
                                    refine wpAnyH_take (i := 27) (oi := ?oid27) (v := .bool false) ?hid27 (by kernel_rfl) (by kernel_rfl) (by kernel_rfl) ?hqd27 ?hyd27 hHeld ?hrd27
                                    case hid27 =>
                                      simp only [List.getElem?_toArray, List.getElem?_cons_succ, List.getElem?_cons_zero]
                                      rfl
                                    case hqd27 => exact fun _ _ _ h => h
                                    case hyd27 => exact Or.inl ⟨by kernel_rfl, fun w hSw => by go_simp⟩
                                    try simp only [Act.put, List.setIfInBounds_toArray, List.set_cons_zero, List.set_cons_succ]
                                    refine wpAnyH_take (i := 28) (oi := ?oid28) (v := .bool false) ?hid28 (by kernel_rfl) (by kernel_rfl) (by kernel_rfl) ?hqd28 ?hyd28 hHeld ?hrd28
                                    case hid28 =>
                                      simp only [List.getElem?_toArray, List.getElem?_cons_succ, List.getElem?_cons_zero]
                                      rfl
                                    case hqd28 => exact fun _ _ _ h => h
                                    case hyd28 => exact Or.inl ⟨by kernel_rfl, fun w hSw => by go_simp⟩
                                    try simp only [Act.put, List.setIfInBounds_toArray, List.set_cons_zero, List.set_cons_succ]
                                    refine wpAnyH_done (by kernel_rfl) ?_ _
                                    have HBy : Hid (Below x9.heap.size x9 y1) := low_step HBX.out Y1.out
                                    have HOy : Hid (y1.ownsRow x9.heap.size 2 1 av AL.length (ints AL)) := own_kept HOWk.out Y1.out
                                    obtain ⟨t0, t1, t2⟩ := HS9.out y1 Y1.out
                                    have hALl := HAL4.out
                                    have hsz : x9.heap.size ≤ (y1.alloc (.cells #[.int .i64 (xs[k]'hk)] 2)).heap.size := by have := HBy.out.size; simp; omega
                                    go_wp2_with (at_builtin; refine wpList_append_own _ rfl (.tmp 151) (.tmp 159) 30 rfl x9.heap.size 2 i0' (.int .i64 0) 1 8 Try.underlying30 hi0 hz0 hz1 hz2 rfl (by decide) _ AL.length (ints AL) rfl (HOy.out.alloc _) ⟨y1.heap.size, 0, none⟩ 1 1 [.int .i64 (xs[k]'hk)] rfl rfl (cell_one y1 (xs[k]'hk)) (ints_oneCell [xs[k]'hk]) (by unfold maxLen; omega) (by omega) hsz ?_; intro v6 w6 own6 grow6 _; refine stop_of ?_)
                                    unfold Stop
                                    have B6 : Hid (Below x9.heap.size x9 w6) := below_row (low_box' HBy.out) grow6 (fun k e => (HOy.out.lt k e).1)
                                    have O6 : Hid (w6.ownsRow x9.heap.size 2 1 v6 (PF ++ xs.take (k + 1)).length (ints (PF ++ xs.take (k + 1)))) := by
                                      show w6.ownsRow x9.heap.size 2 1 v6 (PF ++ xs.take (k + 1)).length (ints (PF ++ xs.take (k + 1)))
                                      have e : PF ++ xs.take (k + 1) = AL ++ [xs[k]'hk] := by rw [List.take_succ_eq_append_getElem hk, ← HAL.out, List.append_assoc]
                                      rw [e]
                                      have h9 := own6
                                      simpa [ints] using h9
                                    clear own6 grow6
                                    go_wp2
                                    go_roundw
                                    case rel => exact ⟨k + 1, by omega, by go_num, O6.out, B6.out⟩
                                    case measure => simp [intOf]; omega
                          · obtain rfl : k = xs.length := by omega
                            have hnk : ¬ (xs.length : Int) < (xs.length : Int) := by omega
                            have HOE : Hid (wr.ownsRow x9.heap.size 2 1 av ((A.take (i + 1)).flatten).length (ints (A.take (i + 1)).flatten)) := by
                              show wr.ownsRow x9.heap.size 2 1 av ((A.take (i + 1)).flatten).length (ints (A.take (i + 1)).flatten)
                              rw [flat_snoc HXS.out, HPF.out]
                              have h9 := HOW.out
                              rw [List.take_length] at h9
                              exact h9
                            clear HOW
                            go_wp2
                            go_roundw
                            case rel => exact ⟨i + 1, by omega, by go_num, HOE.out, HBI.out⟩
                            case measure => simp [intOf]; omega
                      · obtain rfl : i = A.length := by omega
                        have hni : ¬ (A.length : Int) < (A.length : Int) := by omega
                        rw [List.take_length] at HOW
                        obtain ⟨aa, ac, rfl⟩ := reads_form (reads_own HOW.out)
                        rw [HCN.out]
                        have RPy : Hid (ReadsP wr (.slice pa ps.length pc) ps) := readsP_below RPx.out hbr
                        have Py : Hid (wr.heap[bP]? = some (.cells #[.slice pa ps.length pc] 26 (0, 0))) := box_step Px.out hbr
                        have OOy : Hid (OwnSS wr (w3.heap.size) (.slice (some ⟨go, 0, none⟩) O.length oc) ous O) := OOx.out.below hbr
                        have LWy : Hid (Below w.heap.size w wr) := low_step LWx.out hbr
                        clear hbr HOW
                        obtain ⟨wy, hwy⟩ : ∃ x, x = wr := ⟨_, rfl⟩
                        subst hwy
                        have M0 : Hid ((wy.alloc (.cells #[] 2)).ownsRow wy.heap.size 2 1 (.slice (some ⟨wy.heap.size, 0, none⟩) 0 0) 0 []) := made0 wy
                        have BM : Hid (Below wy.heap.size wy (wy.alloc (.cells #[] 2))) := by
                          show Below wy.heap.size wy (wy.alloc (.cells #[] 2))
                          go_grown
                        go_wp2_with fail
                        go_loopw [13, 14] (fun d q wr => ∃ i : Nat, i ≤ O.length ∧ q = .int .i64 i ∧ wr.ownsRow wy.heap.size 2 1 d ((O.take i).flatten).length (ints (O.take i).flatten) ∧ Below wy.heap.size wy wr) (fun _ q _ => O.length - (intOf q).toNat)
                        case atStart => exact ⟨0, Nat.zero_le _, rfl, by simpa [ints] using M0.out, BM.out⟩
                        case round =>
                          obtain ⟨i, hil, rfl, hown, hbr⟩ := hrel
                          obtain ⟨dv, hdv⟩ : ∃ t, t = u13 := ⟨_, rfl⟩
                          subst hdv
                          have HOW : Hid (wr.ownsRow wy.heap.size 2 1 dv ((O.take i).flatten).length (ints (O.take i).flatten)) := hown
                          have HBI : Hid (Below wy.heap.size wy wr) := hbr
                          clear hown M0 BM
                          by_cases hi : i < O.length
                          · have hi' : (i : Int) < (O.length : Int) := by omega
                            have hi00 : (0 : Int) ≤ (i : Int) := by omega
                            obtain ⟨ys, hys⟩ : ∃ ys, O[i]? = some ys := ⟨O[i], by simp [hi]⟩
                            have hye : O[i]'hi = ys := by simpa [hi] using hys
                            obtain ⟨uy, huy, cy, oy⟩ := OOy.out.at (j := i) hi
                            rw [hye] at oy
                            obtain ⟨ya, yn, yc, rfl⟩ := own_slice oy
                            obtain ⟨ya', yc', hyf⟩ := reads_form (reads_own oy)
                            injection hyf with q1 q2 q3
                            subst q2
                            clear q1 q3
                            have OYr : Hid (wr.ownsRow (w3.heap.size) 2 1 (.slice ya ys.length yc) ys.length (ints ys)) := own_kept oy hbr
                            have OY : Hid (Reads wy (.slice ya ys.length yc) (ints ys)) := reads_own oy
                            have HYA : Hid (0 < ys.length → ∃ g, ya = some ⟨g, 0, none⟩) := fun h9 => by
                              rcases oy.2 with ⟨e, h8⟩ | ⟨g, cap, cur, e, _⟩
                              · omega
                              · injection e with e1; exact ⟨g, e1⟩
                            have CY : Hid (wy.cell? ⟨go, i, none⟩ = some (.slice ya ys.length yc)) := cy
                            have cy1 := cell_step cy hbr
                            have hfs := flat_snoc hys
                            obtain ⟨PF, hPF⟩ : ∃ PF, (O.take i).flatten = PF := ⟨_, rfl⟩
                            rw [hPF] at HOW hfs
                            have HFS : Hid ((O.take (i + 1)).flatten = PF ++ ys) := hfs
                            have HBH : Hid (∀ x ∈ ys, ∀ y ∈ callsAns ps x, (PF ++ ys).any (fun z => decide (z = y)) = true) := by
                              have h9 := HFF.out.behind i ys hys
                              rw [hfs] at h9
                              exact h9
                            have hpl4 : PF.length + ys.length ≤ 4 := by
                              have := flat_le O (i + 1)
                              rw [hfs, List.length_append] at this
                              have h9 := HON.out
                              omega
                            have hsz := HBI.out.size
                            clear hPF oy hye huy hbr hfs cy hys
                            go_wp2_with (at_builtin; refine wpList_append_rowsC _ rfl (.tmp 168) (.tmp 172) 30 rfl wy.heap.size 2 i0' (.int .i64 0) 8 Try.underlying30 hi0 hz0 hz1 hz2 rfl _ PF.length (ints PF) rfl HOW.out _ (w3.heap.size) ys.length (ints ys) rfl OYr.out (ints_oneCell ys) (by unfold maxLen; omega) (by omega) hsz ?_; intro v6 w6 own6 grow6; refine stop_of ?_)
                            unfold Stop
                            have B6 : Hid (Below wy.heap.size wy w6) := below_row HBI.out grow6 (fun k e => (HOW.out.lt k e).1)
                            have O6 : Hid (w6.ownsRow wy.heap.size 2 1 v6 (PF ++ ys).length (ints (PF ++ ys))) := by
                              show w6.ownsRow wy.heap.size 2 1 v6 (PF ++ ys).length (ints (PF ++ ys))
                              have h9 := own6
                              simpa [ints] using h9
                            obtain ⟨DN, hDN⟩ : ∃ D, PF ++ ys = D := ⟨_, rfl⟩
                            rw [hDN] at O6 HBH HFS
                            have hDm : DN.length ≤ maxLen := by rw [← hDN, List.length_append]; unfold maxLen; omega
                            have cy6 := cell_step CY.out B6.out
                            clear own6 grow6 cy1 OYr HOW hDN
                            go_wp2_with fail
                            obtain ⟨wi, hwi⟩ : ∃ x, x = wr := ⟨_, rfl⟩
                            subst hwi
                            go_loopw [15] (fun q wr => ∃ k : Nat, k ≤ ys.length ∧ q = .int .i64 k ∧ Below w6.heap.size w6 wr) (fun q _ => ys.length - (intOf q).toNat)
                            case atStart => exact ⟨0, Nat.zero_le _, rfl, Below.refl _ _⟩
                            case round =>
                              obtain ⟨k, hkl, rfl, hbr⟩ := hrel
                              have HB5 : Hid (Below w6.heap.size w6 wr) := hbr
                              have HBY : Hid (Below wy.heap.size wy wr) := low_step' B6.out hbr
                              clear cy6 hbr
                              have cy6 := cell_step CY.out HBY.out
                              obtain ⟨cPr, -⟩ := one_cell (box_step Py.out HBY.out)
                              by_cases hk : k < ys.length
                              · have hk' : (k : Int) < (ys.length : Int) := by omega
                                have hk0 : (0 : Int) ≤ (k : Int) := by omega
                                obtain ⟨gi, hgi⟩ := HYA.out (by omega)
                                subst hgi
                                have ck := cell_step (reads_cell OY.out hk) HBY.out
                                rw [Nat.zero_add] at ck
                                have hca := fun X (hX : Below wr.heap.size wr X) => implCalls ps (ys[k]'hk) (.slice pa ps.length pc) X hps hpe (readsP_below RPy.out (low_step HBY.out hX))
                                have hCA := callsAns_length ps (ys[k]'hk)
                                have HBC : Hid (∀ y ∈ callsAns ps (ys[k]'hk), DN.any (fun z => decide (z = y)) = true) := HBH.out _ (List.getElem_mem hk)
                                obtain ⟨CA, hCAe⟩ : ∃ x, callsAns ps (ys[k]'hk) = x := ⟨_, rfl⟩
                                rw [hCAe] at hca hCA HBC
                                have HS9 : Hid (∀ X, Below wr.heap.size wr X → X.cell? ⟨bP, 0, none⟩ = some (.slice pa ps.length pc) ∧ X.cell? ⟨go, i, none⟩ = some (.slice (some ⟨gi, 0, none⟩) ys.length yc) ∧ X.cell? ⟨gi, k, none⟩ = some (.int .i64 (ys[k]'hk))) := fun X hX => ⟨cell_step cPr hX, cell_step cy6 hX, cell_step ck hX⟩
                                have hS9 := HS9.out wr (Below.refl _ _)
                                clear hCAe
                                go_wp2_with fail
                                refine wp_region_held_drew (S := fun X => X.cell? ⟨bP, 0, none⟩ = some (.slice pa ps.length pc) ∧ X.cell? ⟨go, i, none⟩ = some (.slice (some ⟨gi, 0, none⟩) ys.length yc) ∧ X.cell? ⟨gi, k, none⟩ = some (.int .i64 (ys[k]'hk))) (by kernel_rfl) hS9 (fun hHeld => ?_)
                                refine wpAnyH_take (i := 0) (oi := ?oie0) (v := .agg #[.slice pa ps.length pc]) ?hie0 (by kernel_rfl) (by kernel_rfl) (by kernel_rfl) ?hqe0 ?hye0 hHeld ?hre0
                                case hie0 =>
                                  simp only [List.getElem?_toArray, List.getElem?_cons_succ, List.getElem?_cons_zero]
                                  rfl
                                case hqe0 => exact fun _ _ _ h => h
                                case hye0 => exact Or.inl ⟨by kernel_rfl, fun w hSw => by obtain ⟨s0, s1, s2⟩ := hSw; go_simp⟩
                                try simp only [Act.put, List.setIfInBounds_toArray, List.set_cons_zero, List.set_cons_succ]
                                refine wpAnyH_take (i := 1) (oi := ?oie1) (v := .slice (some ⟨go, 0, none⟩) O.length oc) ?hie1 (by kernel_rfl) (by kernel_rfl) (by kernel_rfl) ?hqe1 ?hye1 hHeld ?hre1
                                case hie1 =>
                                  simp only [List.getElem?_toArray, List.getElem?_cons_succ, List.getElem?_cons_zero]
                                  rfl
                                case hqe1 => exact fun _ _ _ h => h
                                case hye1 => exact Or.inl ⟨by kernel_rfl, fun w hSw => by go_simp⟩
                                try simp only [Act.put, List.setIfInBounds_toArray, List.set_cons_zero, List.set_cons_succ]
                                refine wpAnyH_take (i := 2) (oi := ?oie2) (v := .int .i64 (i : Int)) ?hie2 (by kernel_rfl) (by kernel_rfl) (by kernel_rfl) ?hqe2 ?hye2 hHeld ?hre2
                                case hie2 =>
                                  simp only [List.getElem?_toArray, List.getElem?_cons_succ, List.getElem?_cons_zero]
                                  rfl
                                case hqe2 => exact fun _ _ _ h => h
                                case hye2 => exact Or.inl ⟨by kernel_rfl, fun w hSw => by go_simp⟩
                                try simp only [Act.put, List.setIfInBounds_toArray, List.set_cons_zero, List.set_cons_succ]
                                refine wpAnyH_take (i := 3) (oi := ?oie3) (v := .pointer (some ⟨go, i, none⟩)) ?hie3 (by kernel_rfl) (by kernel_rfl) (by kernel_rfl) ?hqe3 ?hye3 hHeld ?hre3
                                case hie3 =>
                                  simp only [List.getElem?_toArray, List.getElem?_cons_succ, List.getElem?_cons_zero]
                                  rfl
                                case hqe3 => exact fun _ _ _ h => h
                                case hye3 => exact Or.inl ⟨by kernel_rfl, fun w hSw => by go_simp⟩
                                try simp only [Act.put, List.setIfInBounds_toArray, List.set_cons_zero, List.set_cons_succ]
                                refine wpAnyH_take (i := 4) (oi := ?oie4) (v := .slice (some ⟨gi, 0, none⟩) ys.length yc) ?hie4 (by kernel_rfl) (by kernel_rfl) (by kernel_rfl) ?hqe4 ?hye4 hHeld ?hre4
                                case hie4 =>
                                  simp only [List.getElem?_toArray, List.getElem?_cons_succ, List.getElem?_cons_zero]
                                  rfl
                                case hqe4 => exact fun _ _ _ h => h
                                case hye4 => exact Or.inl ⟨by kernel_rfl, fun w hSw => by obtain ⟨s0, s1, s2⟩ := hSw; go_simp⟩
                                try simp only [Act.put, List.setIfInBounds_toArray, List.set_cons_zero, List.set_cons_succ]
                                refine wpAnyH_take (i := 5) (oi := ?oie5) (v := .int .i64 (k : Int)) ?hie5 (by kernel_rfl) (by kernel_rfl) (by kernel_rfl) ?hqe5 ?hye5 hHeld ?hre5
                                case hie5 =>
                                  simp only [List.getElem?_toArray, List.getElem?_cons_succ, List.getElem?_cons_zero]
                                  rfl
                                case hqe5 => exact fun _ _ _ h => h
                                case hye5 => exact Or.inl ⟨by kernel_rfl, fun w hSw => by go_simp⟩
                                try simp only [Act.put, List.setIfInBounds_toArray, List.set_cons_zero, List.set_cons_succ]
                                refine wpAnyH_take (i := 6) (oi := ?oie6) (v := .pointer (some ⟨gi, k, none⟩)) ?hie6 (by kernel_rfl) (by kernel_rfl) (by kernel_rfl) ?hqe6 ?hye6 hHeld ?hre6
                                case hie6 =>
                                  simp only [List.getElem?_toArray, List.getElem?_cons_succ, List.getElem?_cons_zero]
                                  rfl
                                case hqe6 => exact fun _ _ _ h => h
                                case hye6 => exact Or.inl ⟨by kernel_rfl, fun w hSw => by go_simp⟩
                                try simp only [Act.put, List.setIfInBounds_toArray, List.set_cons_zero, List.set_cons_succ]
                                refine wpAnyH_take (i := 7) (oi := ?oie7) (v := .int .i64 (ys[k]'hk)) ?hie7 (by kernel_rfl) (by kernel_rfl) (by kernel_rfl) ?hqe7 ?hye7 hHeld ?hre7
                                case hie7 =>
                                  simp only [List.getElem?_toArray, List.getElem?_cons_succ, List.getElem?_cons_zero]
                                  rfl
                                case hqe7 => exact fun _ _ _ h => h
                                case hye7 => exact Or.inl ⟨by kernel_rfl, fun w hSw => by obtain ⟨s0, s1, s2⟩ := hSw; go_simp⟩
                                try simp only [Act.put, List.setIfInBounds_toArray, List.set_cons_zero, List.set_cons_succ]
                                refine wpAnyH_ready (rs := [8]) (by kernel_rfl) (by simp) ?_
                                refine (AllReadyH.cons (o := ?ooe8) ?hoe8 (fun K hK => ?hke8) AllReadyH.nil)
                                case hoe8 =>
                                  simp only [List.getElem?_toArray, List.getElem?_cons_succ, List.getElem?_cons_zero]
                                  rfl
                                case hke8 =>
                                  go_simp
                                  go_at_call 9
                                  refine (hca wr.drew (Below.drew (Below.refl _ _))).mono ?_
                                  rintro e y1 ⟨zv, rfl, oz, bq⟩
                                  have Y1 : Hid (Below wr.heap.size wr y1) := Below.trans (Below.drew (Below.refl _ _)) bq
                                  have RZ : Hid (Reads y1 zv (ints CA)) := reads_own oz
                                  clear bq oz
                                  try go_wp2_with fail
                                  refine hK.out _ _ (HS9.out _ Y1.out) (fun hHeld => ?_)
                                  clear hK K
                                  try simp only [Act.put, List.setIfInBounds_toArray, List.set_cons_zero, List.set_cons_succ]
                                  refine wpAnyH_take (i := 9) (oi := ?oie9) (v := zv) ?hie9 (by kernel_rfl) (by kernel_rfl) (by kernel_rfl) ?hqe9 ?hye9 hHeld ?hre9
                                  case hie9 =>
                                    simp only [List.getElem?_toArray, List.getElem?_cons_succ, List.getElem?_cons_zero]
                                    rfl
                                  case hqe9 => exact fun _ _ _ h => h
                                  case hye9 => exact Or.inl ⟨by kernel_rfl, fun w hSw => by go_simp⟩
                                  try simp only [Act.put, List.setIfInBounds_toArray, List.set_cons_zero, List.set_cons_succ]
                                  refine wpAnyH_done (by kernel_rfl) ?_ _
                                  have HBy : Hid (Below w6.heap.size w6 y1) := low_step HB5.out Y1.out
                                  have O7 : Hid (Reads y1 v6 (ints DN)) := reads_own (own_kept O6.out HBy.out)
                                  obtain ⟨za, zc, rfl⟩ := reads_form RZ.out
                                  clear hS9 cPr cy6 ck hca
                                  go_wp2_with fail
                                  obtain ⟨wk, hwk⟩ : ∃ x, x = wr := ⟨_, rfl⟩
                                  subst hwk
                                  go_loopw [17] (fun q wr => ∃ n : Nat, n ≤ CA.length ∧ q = .int .i64 n ∧ Below y1.heap.size y1 wr) (fun q _ => CA.length - (intOf q).toNat)
                                  case atStart => exact ⟨0, Nat.zero_le _, rfl, Below.refl _ _⟩
                                  case round =>
                                    obtain ⟨n, hnl, rfl, hbr⟩ := hrel
                                    have HB6 : Hid (Below y1.heap.size y1 wr) := hbr
                                    by_cases hn : n < CA.length
                                    · have hn' : (n : Int) < (CA.length : Int) := by omega
                                      have hn0 : (0 : Int) ≤ (n : Int) := by omega
                                      obtain ⟨gz, oz, hza⟩ := reads_some RZ.out (by omega)
                                      subst hza
                                      have cz := cell_step (reads_cell RZ.out hn) hbr
                                      have hha := lawHas DN (CA[n]'hn) v6 wr hDm (reads_below O7.out hbr)
                                      rw [HBC.out _ (List.getElem_mem hn)] at hha
                                      clear hbr
                                      go_wp2_with fail
                                      go_at_call 23
                                      refine hha.mono ?_
                                      rintro r z9 ⟨rfl, bc⟩
                                      have BZ : Hid (Below y1.heap.size y1 z9) := low_step HB6.out bc
                                      clear bc hha cz
                                      go_wp2
                                      go_roundw
                                      case rel => exact ⟨n + 1, by omega, by go_num, BZ.out⟩
                                      case measure => simp [intOf]; omega
                                    · obtain rfl : n = CA.length := by omega
                                      have hnn : ¬ (CA.length : Int) < (CA.length : Int) := by omega
                                      have BZ : Hid (Below w6.heap.size w6 wr) := low_step HBy.out hbr
                                      clear hbr
                                      go_wp2
                                      go_roundw
                                      case rel => exact ⟨k + 1, by omega, by go_num, BZ.out⟩
                                      case measure => simp [intOf]; omega
                              · obtain rfl : k = ys.length := by omega
                                have hnk : ¬ (ys.length : Int) < (ys.length : Int) := by omega
                                have HOE : Hid (wr.ownsRow wy.heap.size 2 1 v6 ((O.take (i + 1)).flatten).length (ints (O.take (i + 1)).flatten)) := by
                                  show wr.ownsRow wy.heap.size 2 1 v6 ((O.take (i + 1)).flatten).length (ints (O.take (i + 1)).flatten)
                                  rw [HFS.out]
                                  exact own_kept O6.out HB5.out
                                go_wp2
                                go_roundw
                                case rel => exact ⟨i + 1, by omega, by go_num, HOE.out, HBY.out⟩
                                case measure => simp [intOf]; omega
                          · obtain rfl : i = O.length := by omega
                            have hni : ¬ (O.length : Int) < (O.length : Int) := by omega
                            rw [List.take_length] at HOW
                            obtain ⟨da, dc, rfl⟩ := reads_form (reads_own HOW.out)
                            rw [HON.out]
                            have HLE : Hid (Below w.heap.size w wr) := low_step LWy.out hbr
                            obtain ⟨cPr, -⟩ := one_cell (box_step Py.out hbr)
                            have hlen : (O.length : Int) = (A.length : Int) := by have := HFF.out.lenO; omega
                            have hd : decide ((O.length : Int) = (A.length : Int)) = true := decide_eq_true hlen
                            have hd' : ((O.length : Int) == (A.length : Int)) = true := by simpa using hlen
                            clear hbr HOW
                            go_wp2
                            go_ret
                            exact ⟨rfl, HLE.out⟩

set_option maxRecDepth 100000 in
theorem liftedFnCircles (os : Os) (started : os.Started) (H : Type) (enc : TypeId × Value → H) :
    ReturnsInHanded {} Try.checked os 5 .any (Rows.fnCirclesSpec.pre6 enc Try.prog Try.f5 Rows.fnCirclesRow.domain false) (Rows.fnCirclesSpec.post enc Try.prog Try.f5 false true false false) := by
  refine returnsInHanded_of_change (C := Try.checked) own started (by kernel_rfl) Try.func5
    (ChangeSpec.witness6 (enc := enc) (C := Try.checked) false ⟨#[], #[.slice none 0 0], []⟩ 8 (by kernel_rfl) (by kernel_rfl) (by kernel_rfl) (by kernel_rfl)) ?_
  intro W base args ds gs before hval0 hW hcnd _
  have hval : ∀ (j : Nat) t v, Try.f5.params[j]? = some t → args[j]? = some v → Value.okWide Try.prog W .any base t v := hval0
  have hW' := hW
  obtain ⟨p, q, hA0, hV, rfl, hfz, hnd⟩ := hW
  have hA : DataW.TrodAll enc Try.prog W 0 (fun _ => true) true Try.f5.params.toList args.toList ds p := hA0
  rw [Try.params5] at hA hval
  obtain ⟨v0, vs0, d0, ds0, p0, q0, hargs, rfl, rfl, h0, r0⟩ := trodAll_cons hA
  obtain ⟨rfl, rfl, rfl⟩ := trodAll_nil r0
  obtain rfl : args = #[v0] := by cases args; simp_all
  obtain ⟨rfl, rfl⟩ := trodVars_none hV
  obtain ⟨bs, hr, hl, hs⟩ := open_code Try.underlying22 Try.underlying5 cellsByte (hval 0 22 v0 rfl rfl) h0
  refine (walkFnCircles bs v0 W hl hr).mono fun e W' ⟨he, hb⟩ => ?_
  subst he
  refine ⟨_, rfl, law_post (tb := 4) laidOut ?_ hW' rfl Try.underlying4 rfl rfl hb⟩
  exact all_readable (P := Try.prog) (by kernel_rfl)

theorem overFnCircles : Rows.fnCirclesRow.holds Try.pinned (OpenSpec.ofChange Rows.fnCirclesSpec) :=
  OpenClaim.holds_of_wide 5 Try.f5 rfl rfl rfl rfl rfl rfl rfl ⟨rfl, rfl, rfl, rfl, rfl⟩ rfl rfl rfl rfl rfl (by kernel_rfl) Try.func5 (by kernel_rfl)
    (of_decide_eq_true (by kernel_rfl)) (by unfold Func.isWrapper; first | (rw [if_pos (by decide +kernel)]; kernel_rfl) | (rw [if_neg (by decide +kernel)]; exact ⟨rfl, rfl⟩))
    (fun os started H enc _ => liftedFnCircles os started H enc)

/-- ████ THE STATEMENT ████ -/
theorem fnCirclesHolds : Rows.FnCirclesSaid :=
  overFnCircles
#print axioms fnCirclesHolds

end Go.Proofs.Ytmloeldgeegddaa
