/-
  The law FnQueues.
-/
import Derived.Test.YtjlpjjddnkceoaaQueAllM
import Derived.Test.YtjlpjjddnkceoaaQueDrawC
import Derived.Test.YtjlpjjddnkceoaaLikeQue
import Derived.Test.YtjlpjjddnkceoaaLikeD
import Derived.Test.YtjlpjjddnkceoaaIntLaws
import Derived.Test.YtjlpjjddnkceoaaOpenCode
import Derived.Test.YtjlpjjddnkceoaaFnKit
import Derived.Test.YtjlpjjddnkceoaaQueCameS
import Derived.Test.YtjlpjjddnkceoaaLift
namespace Go.Proofs.Ytjlpjjddnkceoaa
open Go.ChangeShapes Go.WideShapes Go.ChangeAt Go.RowKit
set_option linter.unusedVariables false
set_option linter.unusedSimpArgs false
set_option maxHeartbeats 8000000
set_option maxRecDepth 20000
theorem below_rowU {X w w' : World} {row : Option Nat} (h : Below X.heap.size X w) (hg : w.grownBy w' row) (hr : ∀ k, row = some k → X.heap.size ≤ k) : Below X.heap.size X w' := h.grown hg h.size hr
theorem readsSS_atU {W : World} {a : Option Addr} {n c : Nat} {X : List (List Int)} (h : ReadsSS W (.slice a n c) X) {j : Nat} (hj : j < X.length) : ∃ g o u, a = some ⟨g, o, none⟩ ∧ W.cell? ⟨g, o + j, none⟩ = some u ∧ Reads W u (ints X[j]) := by
  obtain ⟨_, _, e, hc⟩ := h
  injection e with e1 e2 e3
  subst e1
  exact hc j X[j] (by simp [hj])
theorem readsSS_cellU {W : World} {g o n c : Nat} {X : List (List Int)} (h : ReadsSS W (.slice (some ⟨g, o, none⟩) n c) X) {j : Nat} (hj : j < X.length) : ∃ u, W.cell? ⟨g, o + j, none⟩ = some u ∧ Reads W u (ints X[j]) := by
  obtain ⟨g', o', u, e, h1, h2⟩ := readsSS_atU h hj
  injection e with e
  injection e with e1 e2 e3
  subst e1
  subst e2
  exact ⟨u, h1, h2⟩
theorem readsSS_nil (W : World) : ReadsSS W (.slice none 0 0) [] := ⟨none, 0, rfl, fun j xs hj => by simp at hj⟩

theorem walkFnQueues (bs : List Int) (v : Value) (w : World) (hl : bs.length ≤ maxLen) (hv : Reads w v (bs.map (Value.int .u8))) :
    Calls Try.prog 4 #[v] w fun e w' => e = .returned (.bool true) ∧ Below w.heap.size w w' := by
  have hbig := lawBig bs v w hl hv
  by_cases hb : (4096 : Int) < (bs.length : Int)
  · rw [decide_eq_true hb] at hbig
    go_enter Try.func4, Try.ntmps4
    go_wp2_with (go_at_call 5; refine hbig.mono ?_; rintro e w1 ⟨rfl, rfl⟩)
    go_ret
    exact ⟨rfl, Below.refl _ _⟩
  rw [decide_eq_false hb] at hbig
  go_enter Try.func4, Try.ntmps4
  go_wp2_with fail
  go_at_call 5
  refine hbig.mono ?_
  rintro e w1 ⟨rfl, rfl⟩
  clear hbig
  go_wp2_with fail
  go_at_call 15
  refine (drawCame bs v w (by omega) hv).mono ?_
  rintro r w1 ⟨t, s, n, uq, X, rfl, h8, h6, rq, b1⟩
  obtain ⟨qa, qc, rfl⟩ : ∃ a c, uq = .slice a X.length c := by obtain ⟨a, c, e, _⟩ := rq; exact ⟨_, _, e⟩
  have hlX : X.length ≤ maxLen := by unfold maxLen; omega
  have hxX : ∀ x ∈ X, x.length ≤ maxLen := fun x hx => by have := h6 x hx; unfold maxLen; omega
  obtain ⟨T1, YL, B1, hA⟩ : ∃ a b c, cameA t X s n = (a, b, c) := ⟨_, _, _, rfl⟩
  obtain ⟨h8y, h6y⟩ := came_small hA
  have hlY : YL.length ≤ maxLen := by unfold maxLen; omega
  have hxY : ∀ x ∈ YL, x.length ≤ maxLen := fun x hx => by have := h6y x hx; unfold maxLen; omega
  have him := fun W hW => implCame t s n X (.slice qa X.length qc) W hlX hxX hW
  have hsp := fun W hW => specCame t s n X (.slice qa X.length qc) W hlX hxX hW
  rw [hA] at him hsp
  simp only at him hsp
  have hqs := fun W hW => specQueueOk t X (.slice qa X.length qc) W hlX hxX hW
  obtain ⟨ok, hok⟩ : ∃ b, queB t X = b := ⟨_, rfl⟩
  rw [hok] at hqs
  have HOK : Hid (queB t X = ok) := hok
  have HA : Hid (cameA t X s n = (T1, YL, B1)) := hA
  have H8 : Hid (X.length ≤ 8) := h8
  clear hok hA h8y h6y h8 h6
  have LW : Hid (Below w.heap.size w w1) := b1
  have RQ : Hid (ReadsSS w1 (.slice qa X.length qc) X) := readsSS_below rq (Below.refl _ _)
  clear rq b1
  obtain ⟨w2, hAw2⟩ : ∃ W, w1.alloc (.cells #[.int .i64 t, .slice qa X.length qc] 26) = W := ⟨_, rfl⟩
  have bb : Below w1.heap.size w1 w2 := by rw [← hAw2]; go_grown
  obtain ⟨bQ, hBw2⟩ : ∃ n, w1.heap.size = n := ⟨_, rfl⟩
  have Qn : Hid (w2.heap[bQ]? = some (.cells #[.int .i64 t, .slice qa X.length qc] 26 (0, 0))) := by
    show w2.heap[bQ]? = _
    rw [← hAw2, ← hBw2]; exact heap_alloc_new w1 _
  have LWx : Hid (Below w.heap.size w w2) := low_step LW.out bb
  have RQx : Hid (ReadsSS w2 (.slice qa X.length qc) X) := readsSS_below RQ.out bb
  clear LW RQ
  have LW : Hid (Below w.heap.size w w2) := LWx.out
  have RQ : Hid (ReadsSS w2 (.slice qa X.length qc) X) := RQx.out
  clear LWx RQx
  clear bb
  have Q : Hid (w2.heap[bQ]? = some (.cells #[.int .i64 t, .slice qa X.length qc] 26 (0, 0))) := Qn.out
  clear Qn
  obtain ⟨cq0, cq1, -, -⟩ := two_cellsQ Q.out
  have hcall := him w2 RQ.out
  go_wp2_with fail
  go_at_call 16
  clear hAw2 hBw2
  refine hcall.mono ?_
  rintro r w3 ⟨u2, us2, rfl, ou2, ap2, bc⟩
  clear hcall cq0 cq1
  have LWx : Hid (Below w.heap.size w w3) := low_step LW.out bc
  have RQx : Hid (ReadsSS w3 (.slice qa X.length qc) X) := readsSS_below RQ.out bc
  have Qx : Hid (w3.heap[bQ]? = some (.cells #[.int .i64 t, .slice qa X.length qc] 26 (0, 0))) := box_step Q.out bc
  clear LW RQ Q
  have LW : Hid (Below w.heap.size w w3) := LWx.out
  have RQ : Hid (ReadsSS w3 (.slice qa X.length qc) X) := RQx.out
  have Q : Hid (w3.heap[bQ]? = some (.cells #[.int .i64 t, .slice qa X.length qc] 26 (0, 0))) := Qx.out
  clear LWx RQx Qx
  obtain ⟨xa, xc, rfl⟩ : ∃ a c, u2 = .slice a YL.length c := by obtain ⟨a, c, e, _⟩ := ou2.reads; exact ⟨_, _, e⟩
  have OX : Hid (OwnQ w3 0 (.slice xa YL.length xc) us2 YL) := ou2.mono (Nat.zero_le _)
  clear ou2 ap2 bc
  have LW3 : Hid (Below w.heap.size w w3) := LW.out
  have Q3 : Hid (w3.heap[bQ]? = some (.cells #[.int .i64 t, .slice qa X.length qc] 26 (0, 0))) := Q.out
  have RQ3 : Hid (ReadsSS w3 (.slice qa X.length qc) X) := RQ.out
  have B3 : Hid (Below w3.heap.size w3 w3) := Below.refl _ _
  obtain ⟨w4, hAw4⟩ : ∃ W, w3.alloc (.cells #[.int .i64 T1, .slice xa YL.length xc] 26) = W := ⟨_, rfl⟩
  have bb : Below w3.heap.size w3 w4 := by rw [← hAw4]; go_grown
  obtain ⟨bXB, hBw4⟩ : ∃ n, w3.heap.size = n := ⟨_, rfl⟩
  have XBn : Hid (w4.heap[bXB]? = some (.cells #[.int .i64 T1, .slice xa YL.length xc] 26 (0, 0))) := by
    show w4.heap[bXB]? = _
    rw [← hAw4, ← hBw4]; exact heap_alloc_new w3 _
  have LWx : Hid (Below w.heap.size w w4) := low_step LW.out bb
  have RQx : Hid (ReadsSS w4 (.slice qa X.length qc) X) := readsSS_below RQ.out bb
  have Qx : Hid (w4.heap[bQ]? = some (.cells #[.int .i64 t, .slice qa X.length qc] 26 (0, 0))) := box_step Q.out bb
  have OXx : Hid (OwnQ w4 0 (.slice xa YL.length xc) us2 YL) := OwnQ.below OX.out bb
  have B3x : Hid (Below w3.heap.size w3 w4) := low_step B3.out bb
  clear LW RQ Q OX B3
  have LW : Hid (Below w.heap.size w w4) := LWx.out
  have RQ : Hid (ReadsSS w4 (.slice qa X.length qc) X) := RQx.out
  have Q : Hid (w4.heap[bQ]? = some (.cells #[.int .i64 t, .slice qa X.length qc] 26 (0, 0))) := Qx.out
  have OX : Hid (OwnQ w4 0 (.slice xa YL.length xc) us2 YL) := OXx.out
  have B3 : Hid (Below w3.heap.size w3 w4) := B3x.out
  clear LWx RQx Qx OXx B3x
  clear bb
  have XB : Hid (w4.heap[bXB]? = some (.cells #[.int .i64 T1, .slice xa YL.length xc] 26 (0, 0))) := XBn.out
  clear XBn
  have hXB : Hid (w3.heap.size = bXB) := hBw4
  obtain ⟨cq0, cq1, -, -⟩ := two_cellsQ Q.out
  have hcall := hsp w4 RQ.out
  go_wp2_with fail
  go_at_call 17
  clear hAw4 hBw4
  refine hcall.mono ?_
  rintro r w5 ⟨u4, us4, rfl, ou4, ap4, bc⟩
  clear hcall cq0 cq1
  have LWx : Hid (Below w.heap.size w w5) := low_step LW.out bc
  have RQx : Hid (ReadsSS w5 (.slice qa X.length qc) X) := readsSS_below RQ.out bc
  have Qx : Hid (w5.heap[bQ]? = some (.cells #[.int .i64 t, .slice qa X.length qc] 26 (0, 0))) := box_step Q.out bc
  have OXx : Hid (OwnQ w5 0 (.slice xa YL.length xc) us2 YL) := OwnQ.below OX.out bc
  have B3x : Hid (Below w3.heap.size w3 w5) := low_step B3.out bc
  have XBx : Hid (w5.heap[bXB]? = some (.cells #[.int .i64 T1, .slice xa YL.length xc] 26 (0, 0))) := box_step XB.out bc
  clear LW RQ Q OX B3 XB
  have LW : Hid (Below w.heap.size w w5) := LWx.out
  have RQ : Hid (ReadsSS w5 (.slice qa X.length qc) X) := RQx.out
  have Q : Hid (w5.heap[bQ]? = some (.cells #[.int .i64 t, .slice qa X.length qc] 26 (0, 0))) := Qx.out
  have OX : Hid (OwnQ w5 0 (.slice xa YL.length xc) us2 YL) := OXx.out
  have B3 : Hid (Below w3.heap.size w3 w5) := B3x.out
  have XB : Hid (w5.heap[bXB]? = some (.cells #[.int .i64 T1, .slice xa YL.length xc] 26 (0, 0))) := XBx.out
  clear LWx RQx Qx OXx B3x XBx
  obtain ⟨ya, yc, rfl⟩ : ∃ a c, u4 = .slice a YL.length c := by obtain ⟨a, c, e, _⟩ := ou4.reads; exact ⟨_, _, e⟩
  have RY : Hid (ReadsSS w5 (.slice ya YL.length yc) YL) := ou4.reads
  clear ou4 ap4 bc
  obtain ⟨w6, hAw6⟩ : ∃ W, w5.alloc (.cells #[.int .i64 T1, .slice ya YL.length yc] 26) = W := ⟨_, rfl⟩
  have bb : Below w5.heap.size w5 w6 := by rw [← hAw6]; go_grown
  obtain ⟨bYB, hBw6⟩ : ∃ n, w5.heap.size = n := ⟨_, rfl⟩
  have YBn : Hid (w6.heap[bYB]? = some (.cells #[.int .i64 T1, .slice ya YL.length yc] 26 (0, 0))) := by
    show w6.heap[bYB]? = _
    rw [← hAw6, ← hBw6]; exact heap_alloc_new w5 _
  have LWx : Hid (Below w.heap.size w w6) := low_step LW.out bb
  have RQx : Hid (ReadsSS w6 (.slice qa X.length qc) X) := readsSS_below RQ.out bb
  have Qx : Hid (w6.heap[bQ]? = some (.cells #[.int .i64 t, .slice qa X.length qc] 26 (0, 0))) := box_step Q.out bb
  have OXx : Hid (OwnQ w6 0 (.slice xa YL.length xc) us2 YL) := OwnQ.below OX.out bb
  have B3x : Hid (Below w3.heap.size w3 w6) := low_step B3.out bb
  have XBx : Hid (w6.heap[bXB]? = some (.cells #[.int .i64 T1, .slice xa YL.length xc] 26 (0, 0))) := box_step XB.out bb
  have RYx : Hid (ReadsSS w6 (.slice ya YL.length yc) YL) := readsSS_below RY.out bb
  clear LW RQ Q OX B3 XB RY
  have LW : Hid (Below w.heap.size w w6) := LWx.out
  have RQ : Hid (ReadsSS w6 (.slice qa X.length qc) X) := RQx.out
  have Q : Hid (w6.heap[bQ]? = some (.cells #[.int .i64 t, .slice qa X.length qc] 26 (0, 0))) := Qx.out
  have OX : Hid (OwnQ w6 0 (.slice xa YL.length xc) us2 YL) := OXx.out
  have B3 : Hid (Below w3.heap.size w3 w6) := B3x.out
  have XB : Hid (w6.heap[bXB]? = some (.cells #[.int .i64 T1, .slice xa YL.length xc] 26 (0, 0))) := XBx.out
  have RY : Hid (ReadsSS w6 (.slice ya YL.length yc) YL) := RYx.out
  clear LWx RQx Qx OXx B3x XBx RYx
  clear bb
  have YB : Hid (w6.heap[bYB]? = some (.cells #[.int .i64 T1, .slice ya YL.length yc] 26 (0, 0))) := YBn.out
  clear YBn
  obtain ⟨cx0, cx1, -, -⟩ := two_cellsQ XB.out
  obtain ⟨cy0, cy1, -, -⟩ := two_cellsQ YB.out
  have hbb : (B1 == B1) = true := by simp
  have hcall := likeQueue T1 YL (.slice xa YL.length xc) (.slice ya YL.length yc) w6 hlY hxY OX.out.reads RY.out
  go_wp2_with fail
  go_at_call 9
  clear hAw6 hBw6
  refine hcall.mono ?_
  rintro r w7 ⟨rfl, bc⟩
  clear hcall cx0 cx1 cy0 cy1
  have LWx : Hid (Below w.heap.size w w7) := low_step LW.out bc
  have RQx : Hid (ReadsSS w7 (.slice qa X.length qc) X) := readsSS_below RQ.out bc
  have Qx : Hid (w7.heap[bQ]? = some (.cells #[.int .i64 t, .slice qa X.length qc] 26 (0, 0))) := box_step Q.out bc
  have OXx : Hid (OwnQ w7 0 (.slice xa YL.length xc) us2 YL) := OwnQ.below OX.out bc
  have B3x : Hid (Below w3.heap.size w3 w7) := low_step B3.out bc
  have XBx : Hid (w7.heap[bXB]? = some (.cells #[.int .i64 T1, .slice xa YL.length xc] 26 (0, 0))) := box_step XB.out bc
  have RYx : Hid (ReadsSS w7 (.slice ya YL.length yc) YL) := readsSS_below RY.out bc
  have YBx : Hid (w7.heap[bYB]? = some (.cells #[.int .i64 T1, .slice ya YL.length yc] 26 (0, 0))) := box_step YB.out bc
  clear LW RQ Q OX B3 XB RY YB
  have LW : Hid (Below w.heap.size w w7) := LWx.out
  have RQ : Hid (ReadsSS w7 (.slice qa X.length qc) X) := RQx.out
  have Q : Hid (w7.heap[bQ]? = some (.cells #[.int .i64 t, .slice qa X.length qc] 26 (0, 0))) := Qx.out
  have OX : Hid (OwnQ w7 0 (.slice xa YL.length xc) us2 YL) := OXx.out
  have B3 : Hid (Below w3.heap.size w3 w7) := B3x.out
  have XB : Hid (w7.heap[bXB]? = some (.cells #[.int .i64 T1, .slice xa YL.length xc] 26 (0, 0))) := XBx.out
  have RY : Hid (ReadsSS w7 (.slice ya YL.length yc) YL) := RYx.out
  have YB : Hid (w7.heap[bYB]? = some (.cells #[.int .i64 T1, .slice ya YL.length yc] 26 (0, 0))) := YBx.out
  clear LWx RQx Qx OXx B3x XBx RYx YBx
  clear RY
  clear YB
  clear bc hbb
  obtain ⟨cq0, cq1, -, -⟩ := two_cellsQ Q.out
  have hcall := hqs w7 RQ.out
  go_wp2_with fail
  go_at_call 11
  refine hcall.mono ?_
  rintro r w8 ⟨rfl, bc⟩
  clear hcall cq0 cq1
  have LWx : Hid (Below w.heap.size w w8) := low_step LW.out bc
  have RQx : Hid (ReadsSS w8 (.slice qa X.length qc) X) := readsSS_below RQ.out bc
  have Qx : Hid (w8.heap[bQ]? = some (.cells #[.int .i64 t, .slice qa X.length qc] 26 (0, 0))) := box_step Q.out bc
  have OXx : Hid (OwnQ w8 0 (.slice xa YL.length xc) us2 YL) := OwnQ.below OX.out bc
  have B3x : Hid (Below w3.heap.size w3 w8) := low_step B3.out bc
  have XBx : Hid (w8.heap[bXB]? = some (.cells #[.int .i64 T1, .slice xa YL.length xc] 26 (0, 0))) := box_step XB.out bc
  clear LW RQ Q OX B3 XB
  have LW : Hid (Below w.heap.size w w8) := LWx.out
  have RQ : Hid (ReadsSS w8 (.slice qa X.length qc) X) := RQx.out
  have Q : Hid (w8.heap[bQ]? = some (.cells #[.int .i64 t, .slice qa X.length qc] 26 (0, 0))) := Qx.out
  have OX : Hid (OwnQ w8 0 (.slice xa YL.length xc) us2 YL) := OXx.out
  have B3 : Hid (Below w3.heap.size w3 w8) := B3x.out
  have XB : Hid (w8.heap[bXB]? = some (.cells #[.int .i64 T1, .slice xa YL.length xc] 26 (0, 0))) := XBx.out
  clear LWx RQx Qx OXx B3x XBx
  clear bc him hsp hqs
  rcases came_cases HA.out with ⟨hq, rfl, rfl, rfl⟩ | ⟨hq, rfl, rfl, rfl⟩ | ⟨j, hq, rfl, rfl, hj8, rfl, hY, hqY⟩
  · obtain rfl : ok = false := by rw [← HOK.out]; exact hq
    obtain ⟨x0, x1, -, -⟩ := two_cellsQ XB.out
    have hlk := likeQueue 0 [] (.slice xa ([] : List (List Int)).length xc) (.slice none 0 0) w8 (by simp) (fun x hx => by simp at hx) OX.out.reads (readsSS_nil _)
    clear HA hq
    go_wp2_with fail
    go_at_call 9
    refine hlk.mono ?_
    rintro r w9 ⟨rfl, b9⟩
    have L9 : Hid (Below w.heap.size w w9) := low_step LW.out b9
    clear hlk b9
    go_wp2
    go_ret
    exact ⟨rfl, L9.out⟩
  · obtain rfl : ok = true := by rw [← HOK.out]; exact hq
    obtain ⟨x0, x1, -, -⟩ := two_cellsQ XB.out
    obtain ⟨q0, q1, -, -⟩ := two_cellsQ Q.out
    have hlk := likeQueue T1 YL (.slice xa YL.length xc) (.slice qa YL.length qc) w8 hlY hxY OX.out.reads RQ.out
    clear HA hq
    go_wp2_with fail
    go_at_call 9
    refine hlk.mono ?_
    rintro r w9 ⟨rfl, b9⟩
    have L9 : Hid (Below w.heap.size w w9) := low_step LW.out b9
    clear hlk b9
    go_wp2
    go_ret
    exact ⟨rfl, L9.out⟩
  · obtain rfl : ok = true := by rw [← HOK.out]; exact hq
    obtain ⟨-, -, h8e, h5x, -⟩ := queB_parts hq
    obtain ⟨h0t, h7t, h8y, h5y, -⟩ := queB_parts hqY
    have hjX : j < X.length := by omega
    obtain ⟨τ0, rfl⟩ : ∃ τ : Nat, T1 = (τ : Int) := ⟨T1.toNat, by omega⟩
    have hset := tot_set X j (X.getD j [] ++ [n]) hjX
    have hcnt : tot YL = tot X + 1 := by rw [hY]; simp at hset ⊢; omega
    have HY : Hid (YL = X.set j (X.getD j [] ++ [n])) := hY
    have HYJ : Hid (YL.getD j [] = X.getD j [] ++ [n]) := by show _ = _; rw [hY, getD_setL _ _ _ _ _ hjX, if_pos rfl]
    have HC : Hid (tot YL = tot X + 1) := hcnt
    have hty := tot_le5 YL h5y
    have HTY : Hid (tot YL ≤ 40) := by show tot YL ≤ 40; omega
    have HQX : Hid (queB (τ0 : Int) X = true) := hq
    have HQY : Hid (queB (τ0 : Int) YL = true) := hqY
    have H8X : Hid (X.length = 8) := h8e
    have H5X : Hid (∀ x ∈ X, x.length ≤ 5) := h5x
    have H5Y : Hid (∀ x ∈ YL, x.length ≤ 5) := h5y
    have H8Y : Hid (YL.length = 8) := h8y
    obtain ⟨x0, x1, -, -⟩ := two_cellsQ XB.out
    have h8ya : YL.length ≤ 8 := by omega
    have h8yb : 8 ≤ YL.length := by omega
    clear HA hq hset hcnt hY hty hqY h8e h5x h8y h5y h0t h7t
    obtain ⟨gx, ox, u0, rfl, -, -⟩ := readsSS_atU OX.out.reads (j := 0) (by omega)
    go_wp2_with fail
    go_loopw [10, 11] (fun a i wr => ∃ k : Nat, k ≤ YL.length ∧ i = .int .i64 k ∧ a = .int .i64 (tot (YL.take k) : Nat) ∧ w8 = wr) (fun _ i _ => YL.length - (intOf i).toNat)
    case atStart => exact ⟨0, Nat.zero_le _, rfl, by simp [tot], rfl⟩
    case round =>
      obtain ⟨k, hk, rfl, rfl, rfl⟩ := hrel
      by_cases hlt : k < YL.length
      · have hlt8 : (k : Int) < 8 := by omega
        have hlt' : (k : Int) < (YL.length : Int) := by omega
        obtain ⟨u, cu, ru⟩ := readsSS_cellU OX.out.reads hlt
        obtain ⟨a5, c5, rfl⟩ := reads_form ru
        have htk := tot_take YL k hlt
        have hxl := H5Y.out YL[k] (List.getElem_mem hlt)
        have htt : tot (YL.take k) ≤ 5 * k := by
          have := tot_le5 (YL.take k) (fun y hy => H5Y.out y (List.mem_of_mem_take hy))
          have h3 : (YL.take k).length ≤ k := List.length_take_le _ _
          omega
        have HTK : Hid _ := htk
        clear htk ru
        generalize YL[k].length = xl at *
        generalize tot (YL.take k) = tk at *
        go_wp2
        go_roundw
        case rel => exact ⟨k + 1, by omega, by go_num, by rw [HTK.out]; go_num, trivial⟩
        case measure => simp [intOf]; omega
      · have hn8 : ¬ (k : Int) < 8 := by omega
        have hkk : YL.take k = YL := List.take_of_length_le (by omega)
        rw [hkk]
        obtain ⟨all, hall⟩ : ∃ a, tot YL = a := ⟨_, rfl⟩
        rw [hall]
        have BM : Below w8.heap.size w8 (w8.alloc (.cells #[] 2)) := by go_grown
        have M0 := made0 w8
        have HFQ : Hid (FQ w3 bXB (YL.getD j []) all j 0 τ0 (YL, []) us2 (.slice (some ⟨gx, ox, none⟩) YL.length xc) (.slice (some ⟨w8.heap.size, 0, none⟩) 0 0) (w8.alloc (.cells #[] 2))) := by
          show FQ w3 bXB (YL.getD j []) all j 0 τ0 (YL, []) us2 (.slice (some ⟨gx, ox, none⟩) YL.length xc) (.slice (some ⟨w8.heap.size, 0, none⟩) 0 0) (w8.alloc (.cells #[] 2))
          exact ⟨low_step B3.out BM, box_step XB.out BM, OX.out.below BM, own_mono (by simpa [ints] using M0) B3.out.size, HQY.out, by simpa using hall, by simp⟩
        have HALL : Hid (tot YL = all) := hall
        clear BM M0 x0 x1 hkk hall hlt hk
        obtain ⟨z, hz⟩ : ∃ z, YL.getD j [] = z := ⟨_, rfl⟩
        have HZ : Hid (YL.getD j [] = z) := hz
        rw [hz] at HFQ
        clear hz
        go_wp2_with fail
        go_loopw [12, 13] (fun a i wr => ∃ (m τ : Nat) (X' : List (List Int)) (S : List Int) (us : List Value) (xa : Option Addr) (xc : Nat), i = .int .i64 (m : Int) ∧ FQ w3 bXB z all j m τ (X', S) us (.slice xa X'.length xc) a wr) (fun _ i _ => all - (intOf i).toNat)
        case atStart => exact ⟨0, τ0, YL, [], us2, _, xc, rfl, HFQ.out⟩
        case round =>
          obtain ⟨m, τ, X', S, us', xa', xc', rfl, hFQ⟩ := hrel
          obtain ⟨av, hav⟩ : ∃ t, t = u12 := ⟨_, rfl⟩
          subst hav
          obtain ⟨wa, hwa⟩ : ∃ x, x = wr := ⟨_, rfl⟩
          subst hwa
          have HF' : Hid (FQ w3 bXB z all j m τ (X', S) us' (.slice xa' X'.length xc') av wa) := hFQ
          have hma : m ≤ all := by have := hFQ.cnt; omega
          have ha40 : all ≤ 40 := by have := HALL.out; have := HTY.out; omega
          have BW : Hid (Below w.heap.size w wa) := low_step LW3.out hFQ.low
          obtain ⟨x0, x1, -, -⟩ := two_cellsQ hFQ.box
          have h8' : X'.length = 8 := (queB_parts hFQ.hq).2.2.1
          have hlX' : X'.length ≤ maxLen := by unfold maxLen; omega
          have hxX' : ∀ x ∈ X', x.length ≤ maxLen := fun x hx => by have h5 : x.length ≤ 5 := (queB_parts hFQ.hq).2.2.2.1 x hx; unfold maxLen; omega
          have H8' : Hid (X'.length = 8) := h8'
          clear h8'
          have hSl : S.length ≤ 40 := by
            have h1 := congrArg List.length hFQ.row
            have h2 := congrArg List.length HZ.out
            have h3 := congrArg List.length HYJ.out
            simp only [List.length_append, List.length_cons, List.length_nil] at h1 h3
            have h4 : (YL.getD j []).length ≤ 5 := by
              have hjY : j < YL.length := by omega
              have e : YL.getD j [] = YL[j] := by simp [List.getD, hjY]
              rw [e]; exact H5Y.out _ (List.getElem_mem hjY)
            omega
          have hsv := fun W hW => implServed (τ : Int) X' (.slice xa' X'.length xc') W hlX' hxX' hW
          clear hFQ
          by_cases hm : m < all
          · have hm' : (m : Int) < (all : Int) := by omega
            obtain ⟨k9, i9, -, x9, L9, hf9, hi9, hi98, hiX, hxi, hgi, hq9, hc9, hje, hjn⟩ := serve_more (X := X') (S := S) HF'.out.hq HF'.out.cnt HF'.out.row hm
            rw [serv_some HF'.out.hq hf9] at hsv
            simp only at hsv
            rw [← hi9, hgi] at hsv
            have hcall := hsv wa HF'.out.own.reads
            simp only [List.tail_cons, List.headD_cons] at hcall
            obtain ⟨g1, o1, u1, rfl, cu1, ru1⟩ := readsSS_atU HF'.out.own.reads hiX
            rw [List.getElem?_eq_getElem hiX] at hxi
            have hxi' := Option.some.inj hxi
            rw [hxi'] at ru1
            obtain ⟨ma, mc, rfl⟩ := reads_form ru1
            obtain ⟨g2, o2, rfl⟩ := reads_some ru1 (by simp)
            have cn := reads_cell ru1 (j := 0) (by simp)
            simp only [List.getElem_cons_zero, Nat.add_zero] at cn
            obtain ⟨R9, hR9⟩ : ∃ R, x9 :: L9 = R := ⟨_, rfl⟩
            have hRl : R9.length = L9.length + 1 := by rw [← hR9]; rfl
            rw [hR9] at cu1
            have hR0 : (0 : Int) < (R9.length : Int) := by omega
            have HRn : Hid (R9 ≠ []) := fun e => by rw [e] at hRl; simp at hRl
            obtain ⟨t9, ht9⟩ : ∃ t, (i9 + 1) % 8 = t := ⟨_, rfl⟩
            obtain ⟨X9, hX9⟩ : ∃ Z, X'.set i9 L9 = Z := ⟨_, rfl⟩
            rw [ht9, hX9] at hcall hq9
            rw [hX9] at hc9 hje hjn
            have HQ9 : Hid _ := hq9
            have HC9 : Hid _ := hc9
            have HJE : Hid _ := hje
            have HJN : Hid _ := hjn
            have hiX' : (i9 : Int) < (X'.length : Int) := by omega
            clear hsv hxi hxi' hgi ru1 hf9 hi9 hq9 hc9 hje hjn hR9 hRl hm ht9 hX9
            go_wp2_with fail
            go_at_call 7
            refine hcall.mono ?_
            rintro r wb ⟨u5, us5, rfl, ou5, ap5, b5⟩
            obtain ⟨ya', yc', rfl⟩ : ∃ a c, u5 = .slice a X9.length c := by obtain ⟨a, c, e, _⟩ := ou5.reads; exact ⟨_, _, e⟩
            clear hcall ap5
            obtain ⟨wc, hwc⟩ : ∃ W, wb.alloc (.cells #[.int .i64 (t9 : Int), .slice ya' X9.length yc'] 26) = W := ⟨_, rfl⟩
            have bb : Below wb.heap.size wb wc := by rw [← hwc]; go_grown
            obtain ⟨bY, hbY⟩ : ∃ n, wb.heap.size = n := ⟨_, rfl⟩
            have HYB : Hid (wc.heap[bY]? = some (.cells #[.int .i64 (t9 : Int), .slice ya' X9.length yc'] 26 (0, 0))) := by
              show wc.heap[bY]? = _
              rw [← hwc, ← hbY]; exact heap_alloc_new wb _
            have BC : Hid (Below wa.heap.size wa wc) := low_step b5 bb
            have HXB : Hid (wc.heap[bXB]? = some (.cells #[.int .i64 (τ : Int), .slice (some ⟨g1, o1, none⟩) X'.length xc'] 26 (0, 0))) := box_step HF'.out.box BC.out
            have HOY : Hid (OwnQ wc wa.heap.size (.slice ya' X9.length yc') us5 X9) := ou5.below bb
            have HSV : Hid (wc.ownsRow w3.heap.size 2 1 av S.length (ints S)) := own_kept HF'.out.serv BC.out
            have HAV : Hid (∀ k, av.ownBlock = some k → k < wa.heap.size) := fun k hk => (HF'.out.serv.lt k hk).2
            have hyb : bY ≠ bXB := by
              have h1 := (Array.getElem?_eq_some_iff.1 HF'.out.box).1
              have h2 := b5.size
              omega
            have HB3 : Hid (Below w3.heap.size w3 wc) := low_step HF'.out.low BC.out
            have cu2 := cell_step cu1 BC.out
            have cn2 := cell_step cn BC.out
            obtain ⟨x0, x1, x2, x3⟩ := two_cellsQ HXB.out
            obtain ⟨y0, y1, -, -⟩ := two_cellsQ HYB.out
            have hi0 : decide ((i9 : Int) < 0) = false := by simp
            have hxx : (x9 == x9) = true := by simp
            have hRne := HRn.out
            clear cu1 cn b5 bb ou5 HF' BC
            by_cases hij : i9 = j
            · have hij' : ((i9 : Int) == (j : Int)) = true := by simp; omega
              have HZ9 : Hid ((S ++ [x9]) ++ X9.getD j [] = z) := HJE.out hij
              subst hij
              obtain ⟨i0', hi0', hz0, hz1, hz2⟩ := info_parts infoInt
              have hsz : w3.heap.size ≤ (wc.alloc (.cells #[.int .i64 x9] 2)).heap.size := by have := HB3.out.size; simp; omega
              go_wp2_with (at_builtin; refine wpList_append_own _ rfl (.tmp 106) (.tmp 108) 33 rfl w3.heap.size 2 i0' (.int .i64 0) 1 8 Try.underlying33 hi0' hz0 hz1 hz2 rfl (by decide) _ S.length (ints S) rfl (HSV.out.alloc _) ⟨wc.heap.size, 0, none⟩ 1 1 [.int .i64 x9] rfl rfl (cell_one wc x9) (ints_oneCell [x9]) (by unfold maxLen; omega) (by omega) hsz ?_; intro v6 w6 own6 grow6 _; refine stop_ofT ?_)
              unfold StopT
              have B6 : Hid (Below w3.heap.size w3 w6) := below_rowU (low_box HB3.out _) grow6 (fun k e => (HSV.out.lt k e).1)
              have K6 : ∀ b, b < wc.heap.size → av.ownBlock ≠ some b → w6.heap[b]? = wc.heap[b]? := fun b hb hne => (grow6.block b (by simp; omega) (fun e => hne e.symm)).trans (old_block hb)
              have HX6 : Hid (w6.heap[bXB]? = some (.cells #[.int .i64 (τ : Int), .slice (some ⟨g1, o1, none⟩) X'.length xc'] 26 (0, 0))) := (K6 bXB (Array.getElem?_eq_some_iff.1 HXB.out).1 (fun e => row_not_box HSV.out HXB.out e)).trans HXB.out
              have HY6 : Hid (w6.heap[bY]? = some (.cells #[.int .i64 (t9 : Int), .slice ya' X9.length yc'] 26 (0, 0))) := (K6 bY (Array.getElem?_eq_some_iff.1 HYB.out).1 (fun e => row_not_box HSV.out HYB.out e)).trans HYB.out
              have HO6 : Hid (OwnQ w6 wa.heap.size (.slice ya' X9.length yc') us5 X9) := by
                refine HOY.out.same (fun k hk => K6 k (HOY.out.row.lt k hk).2 (fun e => ?_)) (fun u hu k hk => K6 k (HOY.out.ltI hu hk).2 (fun e => ?_))
                · have := HAV.out k e; have := (HOY.out.row.lt k hk).1; omega
                · have := HAV.out k e; have := (HOY.out.ltI hu hk).1; omega
              have HS6 : Hid (w6.ownsRow w3.heap.size 2 1 v6 (S ++ [x9]).length (ints (S ++ [x9]))) := by
                show w6.ownsRow w3.heap.size 2 1 v6 (S ++ [x9]).length (ints (S ++ [x9]))
                have h9 := own6
                simpa [ints] using h9
              clear own6 grow6 K6 HXB HYB HOY HSV HB3 x0 x1 x2 x3 y0 y1 hwc
              obtain ⟨x0, x1, x2, x3⟩ := two_cellsQ HX6.out
              obtain ⟨y0, y1, -, -⟩ := two_cellsQ HY6.out
              have hR9 := two_setQ HX6.out (.int .i64 (t9 : Int)) (.slice ya' X9.length yc')
              have hO9 := ownQ_box (o := 1) (x := .slice ya' X9.length yc') (ownQ_box (o := 0) (x := .int .i64 (t9 : Int)) HO6.out HX6.out) (heap_setCell_same w6 bXB 0 _ _ (.int .i64 (t9 : Int)) HX6.out)
              have hS9 := ownI_box (o := 1) (x := .slice ya' X9.length yc') (ownI_box (o := 0) (x := .int .i64 (t9 : Int)) HS6.out HX6.out) (heap_setCell_same w6 bXB 0 _ _ (.int .i64 (t9 : Int)) HX6.out)
              have hB9 := (B6.out.setCell (p := ⟨bXB, 0, none⟩) (by have := hXB.out; simp; omega) (.int .i64 (t9 : Int))).setCell (p := ⟨bXB, 1, none⟩) (by have := hXB.out; simp; omega) (.slice ya' X9.length yc')
              obtain ⟨wd, hwd⟩ : ∃ W, (w6.setCell ⟨bXB, 0, none⟩ (.int .i64 (t9 : Int))).setCell ⟨bXB, 1, none⟩ (.slice ya' X9.length yc') = W := ⟨_, rfl⟩
              rw [hwd] at hR9 hO9 hS9 hB9
              have HFN : Hid (FQ w3 bXB z all i9 (m + 1) t9 (X9, S ++ [x9]) us5 (.slice ya' X9.length yc') v6 wd) := ⟨hB9, hR9, hO9.mono (Nat.zero_le _), hS9, HQ9.out, HC9.out, HZ9.out⟩
              clear hR9 hO9 hS9 hB9 HX6 HO6 HS6 B6 HY6 HJE HJN
              go_wp2
              go_roundw
              case rel => exact ⟨m + 1, t9, X9, S ++ [x9], us5, _, yc', by go_num, HFN.out⟩
              case measure => simp [intOf]; omega
            · have hij' : ((i9 : Int) == (j : Int)) = false := by simp; omega
              have HZ9 : Hid (S ++ X9.getD j [] = z) := HJN.out hij
              have hR9 := two_setQ HXB.out (.int .i64 (t9 : Int)) (.slice ya' X9.length yc')
              have hO9 := ownQ_box (o := 1) (x := .slice ya' X9.length yc') (ownQ_box (o := 0) (x := .int .i64 (t9 : Int)) HOY.out HXB.out) (heap_setCell_same wc bXB 0 _ _ (.int .i64 (t9 : Int)) HXB.out)
              have hS9 := ownI_box (o := 1) (x := .slice ya' X9.length yc') (ownI_box (o := 0) (x := .int .i64 (t9 : Int)) HSV.out HXB.out) (heap_setCell_same wc bXB 0 _ _ (.int .i64 (t9 : Int)) HXB.out)
              have hB9 := (HB3.out.setCell (p := ⟨bXB, 0, none⟩) (by have := hXB.out; simp; omega) (.int .i64 (t9 : Int))).setCell (p := ⟨bXB, 1, none⟩) (by have := hXB.out; simp; omega) (.slice ya' X9.length yc')
              obtain ⟨wd, hwd⟩ : ∃ W, (wc.setCell ⟨bXB, 0, none⟩ (.int .i64 (t9 : Int))).setCell ⟨bXB, 1, none⟩ (.slice ya' X9.length yc') = W := ⟨_, rfl⟩
              rw [hwd] at hR9 hO9 hS9 hB9
              have HFN : Hid (FQ w3 bXB z all j (m + 1) t9 (X9, S) us5 (.slice ya' X9.length yc') av wd) := ⟨hB9, hR9, hO9.mono (Nat.zero_le _), hS9, HQ9.out, HC9.out, HZ9.out⟩
              clear hR9 hO9 hS9 hB9 HXB HOY HSV HB3 HYB HJE HJN
              go_wp2
              go_roundw
              case rel => exact ⟨m + 1, t9, X9, S, us5, _, yc', by go_num, HFN.out⟩
              case measure => simp [intOf]; omega
          · have hm' : ¬ (m : Int) < (all : Int) := by omega
            have hall : all = m := by omega
            subst hall
            have hc0 : tot X' + all = all := HF'.out.cnt
            have ht0 : tot X' = 0 := by omega
            have hS : S = z := by
              have h1 := HF'.out.row
              have h2 := tot_none X' ht0 j
              have h3 : S ++ X'.getD j [] = z := h1
              rw [h2, List.append_nil] at h3
              exact h3
            have hqq : queB (τ : Int) X' = true := HF'.out.hq
            have hlen := implLength (τ : Int) X' (.slice xa' X'.length xc') wa hlX' hxX' HF'.out.own.reads
            have hla : lenA (τ : Int) X' = 0 := by unfold lenA; rw [hqq, if_pos rfl, ht0]; rfl
            rw [hla] at hlen
            have hsv0 := hsv
            rw [serv_none ht0 hqq] at hsv0
            simp only at hsv0
            have HSZ : Hid (S = z) := hS
            have Hlx : Hid (∀ W, ReadsSS W (.slice xa' X'.length xc') X' → _) := hsv0
            clear hsv hsv0 hla hqq hS ht0 hc0 hm
            go_wp2_with fail
            go_at_call 18
            refine hlen.mono ?_
            rintro r wb ⟨rfl, b5⟩
            have HF2 : Hid (wb.heap[bXB]? = some (.cells #[.int .i64 (τ : Int), .slice xa' X'.length xc'] 26 (0, 0))) := box_step HF'.out.box b5
            have HO2 : Hid (OwnQ wb 0 (.slice xa' X'.length xc') us' X') := HF'.out.own.below b5
            have HS2 : Hid (wb.ownsRow w3.heap.size 2 1 av S.length (ints S)) := own_kept HF'.out.serv b5
            have HB2 : Hid (Below w3.heap.size w3 wb) := low_step HF'.out.low b5
            have hlen2 := implLength (τ0 : Int) X (.slice qa X.length qc) wb hlX hxX (readsSS_below RQ3.out HB2.out)
            have hlb : lenA (τ0 : Int) X = (tot X : Int) := by unfold lenA; rw [HQX.out, if_pos rfl]
            rw [hlb] at hlen2
            have htx : tot X + 1 = all := by rw [← HC.out]; exact HALL.out
            have hw1 : IntKind.i64.wrap ((tot X : Int) + 1) = (all : Int) := by rw [IntWalk.i64_in _ (by omega)]; omega
            obtain ⟨q0, q1, -, -⟩ := two_cellsQ (box_step Q3.out HB2.out)
            clear hlen b5 HF' x0 x1 hlb htx
            go_wp2_with fail
            go_at_call 18
            refine hlen2.mono ?_
            rintro r wc ⟨rfl, b6⟩
            have HF3 : Hid (wc.heap[bXB]? = some (.cells #[.int .i64 (τ : Int), .slice xa' X'.length xc'] 26 (0, 0))) := box_step HF2.out b6
            have hcall := Hlx.out wc (HO2.out.below b6).reads
            have HS3 : Hid (wc.ownsRow w3.heap.size 2 1 av S.length (ints S)) := own_kept HS2.out b6
            have HB4 : Hid (Below w3.heap.size w3 wc) := low_step HB2.out b6
            obtain ⟨x0, x1, -, -⟩ := two_cellsQ HF3.out
            have haa : ((all : Int) == (all : Int)) = true := by simp
            clear hlen2 b6 HF2 HS2 HB2 q0 q1 HO2
            go_wp2_with fail
            go_at_call 7
            refine hcall.mono ?_
            rintro r wd ⟨u5, us5, rfl, ou5, ap5, b7⟩
            obtain ⟨ya', yc', rfl⟩ : ∃ a c, u5 = .slice a X'.length c := by obtain ⟨a, c, e, _⟩ := ou5.reads; exact ⟨_, _, e⟩
            clear hcall hw1 ap5 ou5 x0 x1 HF3
            obtain ⟨we, hwe⟩ : ∃ W, wd.alloc (.cells #[.int .i64 (τ : Int), .slice ya' X'.length yc'] 26) = W := ⟨_, rfl⟩
            have bb : Below wd.heap.size wd we := by rw [← hwe]; go_grown
            have HS4 : Hid (we.ownsRow w3.heap.size 2 1 av S.length (ints S)) := own_kept (own_kept HS3.out b7) bb
            have HB5 : Hid (Below w3.heap.size w3 we) := low_step (low_step HB4.out b7) bb
            clear b7 bb HS3 HB4
            -- the row that is made of q's Line
            obtain ⟨wf, hwf⟩ : ∃ W, we.alloc (.cells #[] 2) = W := ⟨_, rfl⟩
            have BF : Below we.heap.size we wf := by rw [← hwf]; go_grown
            obtain ⟨E, hE⟩ : ∃ n, we.heap.size = n := ⟨_, rfl⟩
            have HM0 : Hid (wf.ownsRow E 2 1 (.slice (some ⟨E, 0, none⟩) 0 0) 0 []) := by
              show wf.ownsRow E 2 1 (.slice (some ⟨E, 0, none⟩) 0 0) 0 []
              rw [← hwf, ← hE]; exact made0 we
            have HS5 : Hid (wf.ownsRow w3.heap.size 2 1 av S.length (ints S)) := own_kept HS4.out BF
            have HS4s : Hid (w3.heap.size ≤ E) := by show _ ≤ E; rw [← hE]; exact HB5.out.size
            have HSlt : Hid (∀ k, av.ownBlock = some k → k < E) := fun k hk => by rw [← hE]; exact (HS4.out.lt k hk).2
            have HB6 : Hid (Below w3.heap.size w3 wf) := low_step HB5.out BF
            have HEs : Hid (E ≤ wf.heap.size) := by show E ≤ _; rw [← hE]; exact BF.size
            obtain ⟨q0, q1, -, -⟩ := two_cellsQ (box_step Q3.out HB6.out)
            obtain ⟨gq, oq, uq, rfl, cuq, ruq⟩ := readsSS_atU (readsSS_below RQ3.out HB6.out) hjX
            obtain ⟨la, lc, rfl⟩ := reads_form ruq
            obtain ⟨-, hnw⟩ := reads_newsQ ruq
            have hgx : X.getD j [] = X[j] := by simp [List.getD, hjX]
            have hxl := H5X.out X[j] (List.getElem_mem hjX)
            obtain ⟨Lj, hLj⟩ : ∃ L, X[j] = L := ⟨_, rfl⟩
            rw [hLj] at cuq hnw hgx hxl
            have HYJ2 : Hid (S = Lj ++ [n]) := by show S = _; rw [HSZ.out, ← HZ.out, HYJ.out, hgx]
            have hjX2 : (j : Int) < (X.length : Int) := by omega
            have hni : ((-1 : Int) == -1) = true := by decide
            clear ruq hLj hgx BF HS4 HB5
            obtain ⟨i0', hi0', hz0, hz1, hz2⟩ := info_parts infoInt
            go_wp2_with (at_builtin; refine wpList_append_anyG _ (by rfl) (.tmp 131) (.tmp 136) 33 rfl E 2 i0' (.int .i64 0) 1 8 Try.underlying33 hi0' hz0 hz1 hz2 rfl (by decide) _ 0 [] rfl HM0.out la Lj.length lc (ints Lj) rfl (by simp [ints]) (fun h0 => by simpa using hnw h0) (ints_oneCell Lj) (by unfold maxLen; omega) (by omega) HEs.out ?_; intro v6 w6 own6 grow6 fr6; refine stop_ofT ?_)
            unfold StopT
            have HO7 : Hid (w6.ownsRow E 2 1 v6 Lj.length (ints Lj)) := by
              show w6.ownsRow E 2 1 v6 Lj.length (ints Lj)
              have h9 := own6
              simpa using h9
            have HS6 : Hid (w6.ownsRow w3.heap.size 2 1 av S.length (ints S)) := own_same HS5.out (fun k hk => grow6.block k (HS5.out.lt k hk).2 (fun e => by have := HSlt.out k hk; have h2 := (HM0.out.lt k e.symm).1; omega))
            have HB7 : Hid (Below w3.heap.size w3 w6) := below_rowU HB6.out grow6 (fun k e => (HM0.out.lt k e).1 |> fun h => by have := HS4s.out; omega)
            have HEs7 : Hid (E ≤ (w6.alloc (.cells #[.int .i64 n] 2)).heap.size) := by have h1 := HEs.out; have h2 := grow6.size; show E ≤ _; simp; omega
            clear own6 grow6 fr6 q0 q1 cuq hwf hwe
            go_wp2_with (at_builtin; refine wpList_append_anyG _ (by rfl) (.tmp 137) (.tmp 139) 33 rfl E 2 i0' (.int .i64 0) 1 8 Try.underlying33 hi0' hz0 hz1 hz2 rfl (by decide) _ Lj.length (ints Lj) rfl (HO7.out.alloc _) (some ⟨w6.heap.size, 0, none⟩) 1 1 [.int .i64 n] rfl rfl (fun _ => ⟨_, rfl, cell_one w6 n⟩) (ints_oneCell [n]) (by unfold maxLen; omega) (by omega) HEs7.out ?_; intro v7 w7 own7 grow7 fr7; refine stop_ofT ?_)
            unfold StopT
            have HO8 : Hid (w7.ownsRow E 2 1 v7 (Lj ++ [n]).length (ints (Lj ++ [n]))) := by
              show w7.ownsRow E 2 1 v7 (Lj ++ [n]).length (ints (Lj ++ [n]))
              have h9 := own7
              simpa [ints] using h9
            have HS7 : Hid (w7.ownsRow w3.heap.size 2 1 av S.length (ints S)) := own_same (HS6.out.alloc _) (fun k hk => grow7.block k ((HS6.out.alloc _).lt k hk).2 (fun e => by have h1 := HSlt.out k hk; have h2 := (HO7.out.lt k e.symm).1; omega))
            have HB8 : Hid (Below w3.heap.size w3 w7) := below_rowU (low_box HB7.out _) grow7 (fun k e => by have h1 := (HO7.out.lt k e).1; have := HS4s.out; omega)
            have hll : (Lj ++ [n]).length ≤ maxLen := by simp; unfold maxLen; omega
            have hSr := reads_own HS7.out
            rw [HYJ2.out] at hSr
            have hli := likeInts (Lj ++ [n]) av v7 w7 hll hSr (reads_own HO8.out)
            have BFin : Hid (Below w.heap.size w w7) := low_step LW3.out HB8.out
            clear own7 grow7 fr7 HO8 HS7 HB8 HO7 HS6 hSr
            go_wp2_with fail
            go_at_call 19
            refine hli.mono ?_
            rintro r w8 ⟨rfl, b8⟩
            have L9 : Hid (Below w.heap.size w w8) := low_step BFin.out b8
            clear hli b8
            go_wp2
            go_ret
            exact ⟨rfl, L9.out⟩

set_option maxRecDepth 100000 in
theorem liftedFnQueues (os : Os) (started : os.Started) (H : Type) (enc : TypeId × Value → H) :
    ReturnsInHanded {} Try.checked os 4 .any (Rows.fnQueuesSpec.pre6 enc Try.prog Try.f4 Rows.fnQueuesRow.domain false) (Rows.fnQueuesSpec.post enc Try.prog Try.f4 false true false false) := by
  refine returnsInHanded_of_change (C := Try.checked) own started (by kernel_rfl) Try.func4
    (ChangeSpec.witness6 (enc := enc) (C := Try.checked) false ⟨#[], #[.slice none 0 0], []⟩ 8 (by kernel_rfl) (by kernel_rfl) (by kernel_rfl) (by kernel_rfl)) ?_
  intro W base args ds gs before hval0 hW hcnd _
  have hval : ∀ (j : Nat) t v, Try.f4.params[j]? = some t → args[j]? = some v → Value.okWide Try.prog W .any base t v := hval0
  have hW' := hW
  obtain ⟨p, q, hA0, hV, rfl, hfz, hnd⟩ := hW
  have hA : DataW.TrodAll enc Try.prog W 0 (fun _ => true) true Try.f4.params.toList args.toList ds p := hA0
  rw [Try.params4] at hA hval
  obtain ⟨v0, vs0, d0, ds0, p0, q0, hargs, rfl, rfl, h0, r0⟩ := trodAll_cons hA
  obtain ⟨rfl, rfl, rfl⟩ := trodAll_nil r0
  obtain rfl : args = #[v0] := by cases args; simp_all
  obtain ⟨rfl, rfl⟩ := trodVars_none hV
  obtain ⟨bs, hr, hl, hs⟩ := open_code Try.underlying22 Try.underlying5 cellsByte (hval 0 22 v0 rfl rfl) h0
  refine (walkFnQueues bs v0 W hl hr).mono fun e W' ⟨he, hb⟩ => ?_
  subst he
  refine ⟨_, rfl, law_post (tb := 4) laidOut ?_ hW' rfl Try.underlying4 rfl rfl hb⟩
  exact all_readable (P := Try.prog) (by kernel_rfl)

theorem overFnQueues : Rows.fnQueuesRow.holds Try.pinned (OpenSpec.ofChange Rows.fnQueuesSpec) :=
  OpenClaim.holds_of_wide 4 Try.f4 rfl rfl rfl rfl rfl rfl rfl ⟨rfl, rfl, rfl, rfl, rfl⟩ rfl rfl rfl rfl rfl (by kernel_rfl) Try.func4 (by kernel_rfl)
    (of_decide_eq_true (by kernel_rfl)) (by unfold Func.isWrapper; first | (rw [if_pos (by decide +kernel)]; kernel_rfl) | (rw [if_neg (by decide +kernel)]; exact ⟨rfl, rfl⟩))
    (fun os started H enc _ => liftedFnQueues os started H enc)

/-- ████ THE STATEMENT ████ -/
theorem fnQueuesHolds : Rows.FnQueuesSaid :=
  overFnQueues
#print axioms fnQueuesHolds

end Go.Proofs.Ytjlpjjddnkceoaa
