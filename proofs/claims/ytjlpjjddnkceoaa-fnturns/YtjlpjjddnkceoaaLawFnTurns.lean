/-
  The law FnTurns.
-/
import Derived.Test.YtjlpjjddnkceoaaQueTurnM
import Derived.Test.YtjlpjjddnkceoaaQueDrawQ
import Derived.Test.YtjlpjjddnkceoaaLikeQue
import Derived.Test.YtjlpjjddnkceoaaIntLaws
import Derived.Test.YtjlpjjddnkceoaaOpenCode
import Derived.Test.YtjlpjjddnkceoaaFnKit
import Derived.Test.YtjlpjjddnkceoaaQueStep
import Derived.Test.YtjlpjjddnkceoaaLift
namespace Go.Proofs.Ytjlpjjddnkceoaa
open Go.ChangeShapes Go.WideShapes Go.ChangeAt Go.RowKit
set_option linter.unusedVariables false
set_option linter.unusedSimpArgs false
set_option maxHeartbeats 8000000
set_option maxRecDepth 20000
theorem low_step' {w W W' : World} (h : Below w.heap.size w W) (hb : Below W.heap.size W W') : Below w.heap.size w W' := low_step h hb
theorem below_rowT {X w w' : World} {row : Option Nat} (h : Below X.heap.size X w) (hg : w.grownBy w' row) (hr : ∀ k, row = some k → X.heap.size ≤ k) : Below X.heap.size X w' := h.grown hg h.size hr
theorem readsSS_at {W : World} {a : Option Addr} {n c : Nat} {X : List (List Int)} (h : ReadsSS W (.slice a n c) X) {j : Nat} (hj : j < X.length) : ∃ g o u, a = some ⟨g, o, none⟩ ∧ W.cell? ⟨g, o + j, none⟩ = some u ∧ Reads W u (ints X[j]) := by
  obtain ⟨_, _, e, hc⟩ := h
  injection e with e1 e2 e3
  subst e1
  exact hc j X[j] (by simp [hj])
theorem readsSS_cell {W : World} {g o n c : Nat} {X : List (List Int)} (h : ReadsSS W (.slice (some ⟨g, o, none⟩) n c) X) {j : Nat} (hj : j < X.length) : ∃ u, W.cell? ⟨g, o + j, none⟩ = some u ∧ Reads W u (ints X[j]) := by
  obtain ⟨g', o', u, e, h1, h2⟩ := readsSS_at h hj
  injection e with e
  injection e with e1 e2 e3
  subst e1
  subst e2
  exact ⟨u, h1, h2⟩

theorem walkFnTurns (bs : List Int) (v : Value) (w : World) (hl : bs.length ≤ maxLen) (hv : Reads w v (bs.map (Value.int .u8))) :
    Calls Try.prog 3 #[v] w fun e w' => e = .returned (.bool true) ∧ Below w.heap.size w w' := by
  have hbig := lawBig bs v w hl hv
  by_cases hb : (4096 : Int) < (bs.length : Int)
  · rw [decide_eq_true hb] at hbig
    go_enter Try.func3, Try.ntmps3
    go_wp2_with (go_at_call 5; refine hbig.mono ?_; rintro e w1 ⟨rfl, rfl⟩)
    go_ret
    exact ⟨rfl, Below.refl _ _⟩
  rw [decide_eq_false hb] at hbig
  go_enter Try.func3, Try.ntmps3
  go_wp2_with fail
  go_at_call 5
  refine hbig.mono ?_
  rintro e w1 ⟨rfl, rfl⟩
  clear hbig
  go_wp2_with fail
  go_at_call 6
  refine (drawServed bs v w (by omega) hv).mono ?_
  rintro r w1 ⟨t, uq, X, rfl, h8, h6, hR, b1⟩
  have rq := hR w1 (fun _ _ _ => rfl)
  clear hR
  obtain ⟨qa, qc, rfl⟩ : ∃ a c, uq = .slice a X.length c := by obtain ⟨a, c, e, _⟩ := rq; exact ⟨_, _, e⟩
  have hlX : X.length ≤ maxLen := by unfold maxLen; omega
  have hxX : ∀ x ∈ X, x.length ≤ maxLen := fun x hx => by have := h6 x hx; unfold maxLen; omega
  obtain ⟨T1, YL, s1, n1, hA⟩ : ∃ a b c d, servA t X = (a, b, c, d) := ⟨_, _, _, _, rfl⟩
  obtain ⟨h8y, h6y⟩ := serv_small hA
  have hlY : YL.length ≤ maxLen := by unfold maxLen; omega
  have hxY : ∀ x ∈ YL, x.length ≤ maxLen := fun x hx => by have := h6y x hx; unfold maxLen; omega
  have him := fun W hW => implServed t X (.slice qa X.length qc) W hlX hxX hW
  have hsp := fun W hW => specServed t X (.slice qa X.length qc) W hlX hxX hW
  rw [hA] at him hsp
  simp only at him hsp
  have hqi := fun W hW => implQueueOk t X (.slice qa X.length qc) W hlX hxX hW
  have hqs := fun W hW => specQueueOk t X (.slice qa X.length qc) W hlX hxX hW
  obtain ⟨ok, hok⟩ : ∃ b, queB t X = b := ⟨_, rfl⟩
  rw [hok] at hqi hqs
  have HOK : Hid (queB t X = ok) := hok
  have HA : Hid (servA t X = (T1, YL, s1, n1)) := hA
  have H8 : Hid (X.length ≤ 8) := h8
  clear hok hA h8y h6y h8 h6
  have LW : Hid (Below w.heap.size w w1) := b1
  have RQ : Hid (ReadsSS w1 (.slice qa X.length qc) X) := rq
  clear rq b1
  obtain ⟨w2, hAw2⟩ : ∃ W, w1.alloc (.cells #[.int .i64 t, .slice qa X.length qc] 26) = W := ⟨_, rfl⟩
  have bb : Below w1.heap.size w1 w2 := by rw [← hAw2]; go_grown
  obtain ⟨bQ, hBw2⟩ : ∃ n, w1.heap.size = n := ⟨_, rfl⟩
  have Qn : Hid (w2.heap[bQ]? = some (.cells #[.int .i64 t, .slice qa X.length qc] 26 (0, 0))) := by
    show w2.heap[bQ]? = _
    rw [← hAw2, ← hBw2]; exact heap_alloc_new w1 _
  have LWx : Hid (Below w.heap.size w w2) := low_step LW.out bb
  have RQx : Hid (ReadsSS w2 (.slice qa X.length qc) X) := readsSS_below RQ.out bb
  clear LW RQ
  have LW : Hid (Below w.heap.size w w2) := LWx.out
  have RQ : Hid (ReadsSS w2 (.slice qa X.length qc) X) := RQx.out
  clear LWx RQx
  clear bb
  have Q : Hid (w2.heap[bQ]? = some (.cells #[.int .i64 t, .slice qa X.length qc] 26 (0, 0))) := Qn.out
  clear Qn
  obtain ⟨cq0, cq1, -, -⟩ := two_cellsQ Q.out
  have hcall := him w2 RQ.out
  go_wp2_with fail
  go_at_call 7
  clear hAw2 hBw2
  refine hcall.mono ?_
  rintro r w3 ⟨u2, us2, rfl, ou2, ap2, bc⟩
  clear hcall cq0 cq1
  have LWx : Hid (Below w.heap.size w w3) := low_step LW.out bc
  have RQx : Hid (ReadsSS w3 (.slice qa X.length qc) X) := readsSS_below RQ.out bc
  have Qx : Hid (w3.heap[bQ]? = some (.cells #[.int .i64 t, .slice qa X.length qc] 26 (0, 0))) := box_step Q.out bc
  clear LW RQ Q
  have LW : Hid (Below w.heap.size w w3) := LWx.out
  have RQ : Hid (ReadsSS w3 (.slice qa X.length qc) X) := RQx.out
  have Q : Hid (w3.heap[bQ]? = some (.cells #[.int .i64 t, .slice qa X.length qc] 26 (0, 0))) := Qx.out
  clear LWx RQx Qx
  obtain ⟨xa, xc, rfl⟩ : ∃ a c, u2 = .slice a YL.length c := by obtain ⟨a, c, e, _⟩ := ou2.reads; exact ⟨_, _, e⟩
  have OX : Hid (OwnQ w3 0 (.slice xa YL.length xc) us2 YL) := ou2.mono (Nat.zero_le _)
  clear ou2 ap2 bc
  have LW3 : Hid (Below w.heap.size w w3) := LW.out
  have Q3 : Hid (w3.heap[bQ]? = some (.cells #[.int .i64 t, .slice qa X.length qc] 26 (0, 0))) := Q.out
  have RQ3 : Hid (ReadsSS w3 (.slice qa X.length qc) X) := RQ.out
  have B3 : Hid (Below w3.heap.size w3 w3) := Below.refl _ _
  obtain ⟨w4, hAw4⟩ : ∃ W, w3.alloc (.cells #[.int .i64 T1, .slice xa YL.length xc] 26) = W := ⟨_, rfl⟩
  have bb : Below w3.heap.size w3 w4 := by rw [← hAw4]; go_grown
  obtain ⟨bXB, hBw4⟩ : ∃ n, w3.heap.size = n := ⟨_, rfl⟩
  have XBn : Hid (w4.heap[bXB]? = some (.cells #[.int .i64 T1, .slice xa YL.length xc] 26 (0, 0))) := by
    show w4.heap[bXB]? = _
    rw [← hAw4, ← hBw4]; exact heap_alloc_new w3 _
  have LWx : Hid (Below w.heap.size w w4) := low_step LW.out bb
  have RQx : Hid (ReadsSS w4 (.slice qa X.length qc) X) := readsSS_below RQ.out bb
  have Qx : Hid (w4.heap[bQ]? = some (.cells #[.int .i64 t, .slice qa X.length qc] 26 (0, 0))) := box_step Q.out bb
  have OXx : Hid (OwnQ w4 0 (.slice xa YL.length xc) us2 YL) := OwnQ.below OX.out bb
  have B3x : Hid (Below w3.heap.size w3 w4) := low_step B3.out bb
  clear LW RQ Q OX B3
  have LW : Hid (Below w.heap.size w w4) := LWx.out
  have RQ : Hid (ReadsSS w4 (.slice qa X.length qc) X) := RQx.out
  have Q : Hid (w4.heap[bQ]? = some (.cells #[.int .i64 t, .slice qa X.length qc] 26 (0, 0))) := Qx.out
  have OX : Hid (OwnQ w4 0 (.slice xa YL.length xc) us2 YL) := OXx.out
  have B3 : Hid (Below w3.heap.size w3 w4) := B3x.out
  clear LWx RQx Qx OXx B3x
  clear bb
  have XB : Hid (w4.heap[bXB]? = some (.cells #[.int .i64 T1, .slice xa YL.length xc] 26 (0, 0))) := XBn.out
  clear XBn
  have hXB : Hid (w3.heap.size = bXB) := hBw4
  obtain ⟨cq0, cq1, -, -⟩ := two_cellsQ Q.out
  have hcall := hsp w4 RQ.out
  go_wp2_with fail
  go_at_call 8
  clear hAw4 hBw4
  refine hcall.mono ?_
  rintro r w5 ⟨u4, us4, rfl, ou4, ap4, bc⟩
  clear hcall cq0 cq1
  have LWx : Hid (Below w.heap.size w w5) := low_step LW.out bc
  have RQx : Hid (ReadsSS w5 (.slice qa X.length qc) X) := readsSS_below RQ.out bc
  have Qx : Hid (w5.heap[bQ]? = some (.cells #[.int .i64 t, .slice qa X.length qc] 26 (0, 0))) := box_step Q.out bc
  have OXx : Hid (OwnQ w5 0 (.slice xa YL.length xc) us2 YL) := OwnQ.below OX.out bc
  have B3x : Hid (Below w3.heap.size w3 w5) := low_step B3.out bc
  have XBx : Hid (w5.heap[bXB]? = some (.cells #[.int .i64 T1, .slice xa YL.length xc] 26 (0, 0))) := box_step XB.out bc
  clear LW RQ Q OX B3 XB
  have LW : Hid (Below w.heap.size w w5) := LWx.out
  have RQ : Hid (ReadsSS w5 (.slice qa X.length qc) X) := RQx.out
  have Q : Hid (w5.heap[bQ]? = some (.cells #[.int .i64 t, .slice qa X.length qc] 26 (0, 0))) := Qx.out
  have OX : Hid (OwnQ w5 0 (.slice xa YL.length xc) us2 YL) := OXx.out
  have B3 : Hid (Below w3.heap.size w3 w5) := B3x.out
  have XB : Hid (w5.heap[bXB]? = some (.cells #[.int .i64 T1, .slice xa YL.length xc] 26 (0, 0))) := XBx.out
  clear LWx RQx Qx OXx B3x XBx
  obtain ⟨ya, yc, rfl⟩ : ∃ a c, u4 = .slice a YL.length c := by obtain ⟨a, c, e, _⟩ := ou4.reads; exact ⟨_, _, e⟩
  have RY : Hid (ReadsSS w5 (.slice ya YL.length yc) YL) := ou4.reads
  clear ou4 ap4 bc
  obtain ⟨w6, hAw6⟩ : ∃ W, w5.alloc (.cells #[.int .i64 T1, .slice ya YL.length yc] 26) = W := ⟨_, rfl⟩
  have bb : Below w5.heap.size w5 w6 := by rw [← hAw6]; go_grown
  obtain ⟨bYB, hBw6⟩ : ∃ n, w5.heap.size = n := ⟨_, rfl⟩
  have YBn : Hid (w6.heap[bYB]? = some (.cells #[.int .i64 T1, .slice ya YL.length yc] 26 (0, 0))) := by
    show w6.heap[bYB]? = _
    rw [← hAw6, ← hBw6]; exact heap_alloc_new w5 _
  have LWx : Hid (Below w.heap.size w w6) := low_step LW.out bb
  have RQx : Hid (ReadsSS w6 (.slice qa X.length qc) X) := readsSS_below RQ.out bb
  have Qx : Hid (w6.heap[bQ]? = some (.cells #[.int .i64 t, .slice qa X.length qc] 26 (0, 0))) := box_step Q.out bb
  have OXx : Hid (OwnQ w6 0 (.slice xa YL.length xc) us2 YL) := OwnQ.below OX.out bb
  have B3x : Hid (Below w3.heap.size w3 w6) := low_step B3.out bb
  have XBx : Hid (w6.heap[bXB]? = some (.cells #[.int .i64 T1, .slice xa YL.length xc] 26 (0, 0))) := box_step XB.out bb
  have RYx : Hid (ReadsSS w6 (.slice ya YL.length yc) YL) := readsSS_below RY.out bb
  clear LW RQ Q OX B3 XB RY
  have LW : Hid (Below w.heap.size w w6) := LWx.out
  have RQ : Hid (ReadsSS w6 (.slice qa X.length qc) X) := RQx.out
  have Q : Hid (w6.heap[bQ]? = some (.cells #[.int .i64 t, .slice qa X.length qc] 26 (0, 0))) := Qx.out
  have OX : Hid (OwnQ w6 0 (.slice xa YL.length xc) us2 YL) := OXx.out
  have B3 : Hid (Below w3.heap.size w3 w6) := B3x.out
  have XB : Hid (w6.heap[bXB]? = some (.cells #[.int .i64 T1, .slice xa YL.length xc] 26 (0, 0))) := XBx.out
  have RY : Hid (ReadsSS w6 (.slice ya YL.length yc) YL) := RYx.out
  clear LWx RQx Qx OXx B3x XBx RYx
  clear bb
  have YB : Hid (w6.heap[bYB]? = some (.cells #[.int .i64 T1, .slice ya YL.length yc] 26 (0, 0))) := YBn.out
  clear YBn
  have HS : Hid (∀ X', Below w6.heap.size w6 X' → X'.cell? ⟨bQ, 0, none⟩ = some (.int .i64 t) ∧ X'.cell? ⟨bQ, 1, none⟩ = some (.slice qa X.length qc) ∧ X'.cell? ⟨bXB, 0, none⟩ = some (.int .i64 T1) ∧ X'.cell? ⟨bXB, 1, none⟩ = some (.slice xa YL.length xc) ∧ X'.cell? ⟨bYB, 0, none⟩ = some (.int .i64 T1) ∧ X'.cell? ⟨bYB, 1, none⟩ = some (.slice ya YL.length yc)) := fun X hX => by
    obtain ⟨a1, a2, -, -⟩ := two_cellsQ (box_step Q.out hX)
    obtain ⟨a3, a4, -, -⟩ := two_cellsQ (box_step XB.out hX)
    obtain ⟨a5, a6, -, -⟩ := two_cellsQ (box_step YB.out hX)
    exact ⟨a1, a2, a3, a4, a5, a6⟩
  have hS0 := HS.out w6 (Below.refl _ _)
  obtain ⟨c1, c2, c3, c4, c5, c6⟩ := id hS0
  have hqi9 := fun W hW => hqi W (readsSS_below RQ.out hW)
  have hqs9 := fun W hW => hqs W (readsSS_below RQ.out hW)
  have h88 : (List.replicate 8 ([] : List Int)).length ≤ maxLen := by unfold maxLen; simp
  have hx88 : ∀ xs ∈ List.replicate 8 ([] : List Int), xs.length ≤ maxLen := fun xs h => by rw [List.eq_of_mem_replicate h]; simp
  obtain ⟨E8, hE8⟩ : ∃ E, List.replicate 8 ([] : List Int) = E := ⟨_, rfl⟩
  have hni := implNewQueue
  have hns := specNewQueue
  rw [hE8] at h88 hx88 hni hns
  clear hE8
  go_wp2_with fail
  clear hAw6 hBw6
  refine wp_region_held_drew (S := fun Z => Z.cell? ⟨bQ, 0, none⟩ = some (.int .i64 t) ∧ Z.cell? ⟨bQ, 1, none⟩ = some (.slice qa X.length qc) ∧ Z.cell? ⟨bXB, 0, none⟩ = some (.int .i64 T1) ∧ Z.cell? ⟨bXB, 1, none⟩ = some (.slice xa YL.length xc) ∧ Z.cell? ⟨bYB, 0, none⟩ = some (.int .i64 T1) ∧ Z.cell? ⟨bYB, 1, none⟩ = some (.slice ya YL.length yc)) (by kernel_rfl) hS0 (fun hHeld => ?_)
  refine wpAnyH_take (i := 0) (oi := ?oia0) (v := .int .i64 s1) ?hia0 (by kernel_rfl) (by kernel_rfl) (by kernel_rfl) ?hqa0 ?hya0 hHeld ?hra0
  case hia0 =>
    simp only [List.getElem?_toArray, List.getElem?_cons_succ, List.getElem?_cons_zero]
    rfl
  case hqa0 => exact fun _ _ _ h => h
  case hya0 => exact Or.inl ⟨by kernel_rfl, fun w hSw => by go_simp⟩
  try simp only [Act.put, List.setIfInBounds_toArray, List.set_cons_zero, List.set_cons_succ]
  refine wpAnyH_take (i := 1) (oi := ?oia1) (v := .int .i64 s1) ?hia1 (by kernel_rfl) (by kernel_rfl) (by kernel_rfl) ?hqa1 ?hya1 hHeld ?hra1
  case hia1 =>
    simp only [List.getElem?_toArray, List.getElem?_cons_succ, List.getElem?_cons_zero]
    rfl
  case hqa1 => exact fun _ _ _ h => h
  case hya1 => exact Or.inl ⟨by kernel_rfl, fun w hSw => by go_simp⟩
  try simp only [Act.put, List.setIfInBounds_toArray, List.set_cons_zero, List.set_cons_succ]
  refine wpAnyH_take (i := 2) (oi := ?oia2) (v := .bool false) ?hia2 (by kernel_rfl) (by kernel_rfl) (by kernel_rfl) ?hqa2 ?hya2 hHeld ?hra2
  case hia2 =>
    simp only [List.getElem?_toArray, List.getElem?_cons_succ, List.getElem?_cons_zero]
    rfl
  case hqa2 => exact fun _ _ _ h => h
  case hya2 => exact Or.inl ⟨by kernel_rfl, fun w hSw => by go_simp; (try simp)⟩
  try simp only [Act.put, List.setIfInBounds_toArray, List.set_cons_zero, List.set_cons_succ]
  refine wpAnyH_take (i := 3) (oi := ?oia3) (v := .bool false) ?hia3 (by kernel_rfl) (by kernel_rfl) (by kernel_rfl) ?hqa3 ?hya3 hHeld ?hra3
  case hia3 =>
    simp only [List.getElem?_toArray, List.getElem?_cons_succ, List.getElem?_cons_zero]
    rfl
  case hqa3 => exact fun _ _ _ h => h
  case hya3 => exact Or.inl ⟨by kernel_rfl, fun w hSw => by go_simp⟩
  try simp only [Act.put, List.setIfInBounds_toArray, List.set_cons_zero, List.set_cons_succ]
  refine wpAnyH_take (i := 4) (oi := ?oia4) (v := .int .i64 n1) ?hia4 (by kernel_rfl) (by kernel_rfl) (by kernel_rfl) ?hqa4 ?hya4 hHeld ?hra4
  case hia4 =>
    simp only [List.getElem?_toArray, List.getElem?_cons_succ, List.getElem?_cons_zero]
    rfl
  case hqa4 => exact fun _ _ _ h => h
  case hya4 => exact Or.inl ⟨by kernel_rfl, fun w hSw => by go_simp⟩
  try simp only [Act.put, List.setIfInBounds_toArray, List.set_cons_zero, List.set_cons_succ]
  refine wpAnyH_take (i := 5) (oi := ?oia5) (v := .int .i64 n1) ?hia5 (by kernel_rfl) (by kernel_rfl) (by kernel_rfl) ?hqa5 ?hya5 hHeld ?hra5
  case hia5 =>
    simp only [List.getElem?_toArray, List.getElem?_cons_succ, List.getElem?_cons_zero]
    rfl
  case hqa5 => exact fun _ _ _ h => h
  case hya5 => exact Or.inl ⟨by kernel_rfl, fun w hSw => by go_simp⟩
  try simp only [Act.put, List.setIfInBounds_toArray, List.set_cons_zero, List.set_cons_succ]
  refine wpAnyH_take (i := 6) (oi := ?oia6) (v := .bool false) ?hia6 (by kernel_rfl) (by kernel_rfl) (by kernel_rfl) ?hqa6 ?hya6 hHeld ?hra6
  case hia6 =>
    simp only [List.getElem?_toArray, List.getElem?_cons_succ, List.getElem?_cons_zero]
    rfl
  case hqa6 => exact fun _ _ _ h => h
  case hya6 => exact Or.inl ⟨by kernel_rfl, fun w hSw => by go_simp; (try simp)⟩
  try simp only [Act.put, List.setIfInBounds_toArray, List.set_cons_zero, List.set_cons_succ]
  refine wpAnyH_take (i := 7) (oi := ?oia7) (v := .bool false) ?hia7 (by kernel_rfl) (by kernel_rfl) (by kernel_rfl) ?hqa7 ?hya7 hHeld ?hra7
  case hia7 =>
    simp only [List.getElem?_toArray, List.getElem?_cons_succ, List.getElem?_cons_zero]
    rfl
  case hqa7 => exact fun _ _ _ h => h
  case hya7 => exact Or.inl ⟨by kernel_rfl, fun w hSw => by go_simp⟩
  try simp only [Act.put, List.setIfInBounds_toArray, List.set_cons_zero, List.set_cons_succ]
  refine wpAnyH_take (i := 8) (oi := ?oia8) (v := .bool false) ?hia8 (by kernel_rfl) (by kernel_rfl) (by kernel_rfl) ?hqa8 ?hya8 hHeld ?hra8
  case hia8 =>
    simp only [List.getElem?_toArray, List.getElem?_cons_succ, List.getElem?_cons_zero]
    rfl
  case hqa8 => exact fun _ _ _ h => h
  case hya8 => exact Or.inl ⟨by kernel_rfl, fun w hSw => by go_simp⟩
  try simp only [Act.put, List.setIfInBounds_toArray, List.set_cons_zero, List.set_cons_succ]
  refine wpAnyH_take (i := 9) (oi := ?oia9) (v := .agg #[.int .i64 T1, .slice xa YL.length xc]) ?hia9 (by kernel_rfl) (by kernel_rfl) (by kernel_rfl) ?hqa9 ?hya9 hHeld ?hra9
  case hia9 =>
    simp only [List.getElem?_toArray, List.getElem?_cons_succ, List.getElem?_cons_zero]
    rfl
  case hqa9 => exact fun _ _ _ h => h
  case hya9 => exact Or.inl ⟨by kernel_rfl, fun w hSw => by obtain ⟨s0, s1, s2, s3, s4, s5⟩ := hSw; go_simp⟩
  try simp only [Act.put, List.setIfInBounds_toArray, List.set_cons_zero, List.set_cons_succ]
  refine wpAnyH_take (i := 10) (oi := ?oia10) (v := .agg #[.int .i64 T1, .slice ya YL.length yc]) ?hia10 (by kernel_rfl) (by kernel_rfl) (by kernel_rfl) ?hqa10 ?hya10 hHeld ?hra10
  case hia10 =>
    simp only [List.getElem?_toArray, List.getElem?_cons_succ, List.getElem?_cons_zero]
    rfl
  case hqa10 => exact fun _ _ _ h => h
  case hya10 => exact Or.inl ⟨by kernel_rfl, fun w hSw => by obtain ⟨s0, s1, s2, s3, s4, s5⟩ := hSw; go_simp⟩
  try simp only [Act.put, List.setIfInBounds_toArray, List.set_cons_zero, List.set_cons_succ]
  refine wpAnyH_ready (rs := [11]) (by kernel_rfl) (by simp) ?_
  refine (AllReadyH.cons (o := ?ooa11) ?hoa11 (fun K hK => ?hka11) AllReadyH.nil)
  case hoa11 =>
    simp only [List.getElem?_toArray, List.getElem?_cons_succ, List.getElem?_cons_zero]
    rfl
  case hka11 =>
    go_simp
    go_at_call 9
    refine (likeQueue T1 YL (.slice xa YL.length xc) (.slice ya YL.length yc) w6.drew hlY hxY (OX.out.below (Below.drew (Below.refl _ _))).reads (readsSS_below RY.out (Below.drew (Below.refl _ _)))).mono ?_
    rintro e x1 ⟨rfl, bq⟩
    have X1 : Hid (Below w6.heap.size w6 x1) := Below.trans (Below.drew (Below.refl _ _)) bq
    clear bq 
    try go_wp2_with fail
    refine hK.out _ _ (HS.out _ X1.out) (fun hHeld => ?_)
    clear hK K
    try simp only [Act.put, List.setIfInBounds_toArray, List.set_cons_zero, List.set_cons_succ]
    refine wpAnyH_take (i := 12) (oi := ?oia12) (v := .bool false) ?hia12 (by kernel_rfl) (by kernel_rfl) (by kernel_rfl) ?hqa12 ?hya12 hHeld ?hra12
    case hia12 =>
      simp only [List.getElem?_toArray, List.getElem?_cons_succ, List.getElem?_cons_zero]
      rfl
    case hqa12 => exact fun _ _ _ h => h
    case hya12 => exact Or.inl ⟨by kernel_rfl, fun w hSw => by go_simp⟩
    try simp only [Act.put, List.setIfInBounds_toArray, List.set_cons_zero, List.set_cons_succ]
    refine wpAnyH_take (i := 13) (oi := ?oia13) (v := .bool false) ?hia13 (by kernel_rfl) (by kernel_rfl) (by kernel_rfl) ?hqa13 ?hya13 hHeld ?hra13
    case hia13 =>
      simp only [List.getElem?_toArray, List.getElem?_cons_succ, List.getElem?_cons_zero]
      rfl
    case hqa13 => exact fun _ _ _ h => h
    case hya13 => exact Or.inl ⟨by kernel_rfl, fun w hSw => by go_simp⟩
    try simp only [Act.put, List.setIfInBounds_toArray, List.set_cons_zero, List.set_cons_succ]
    refine wpAnyH_take (i := 14) (oi := ?oia14) (v := .bool false) ?hia14 (by kernel_rfl) (by kernel_rfl) (by kernel_rfl) ?hqa14 ?hya14 hHeld ?hra14
    case hia14 =>
      simp only [List.getElem?_toArray, List.getElem?_cons_succ, List.getElem?_cons_zero]
      rfl
    case hqa14 => exact fun _ _ _ h => h
    case hya14 => exact Or.inl ⟨by kernel_rfl, fun w hSw => by go_simp⟩
    try simp only [Act.put, List.setIfInBounds_toArray, List.set_cons_zero, List.set_cons_succ]
    refine wpAnyH_take (i := 15) (oi := ?oia15) (v := .agg #[.int .i64 t, .slice qa X.length qc]) ?hia15 (by kernel_rfl) (by kernel_rfl) (by kernel_rfl) ?hqa15 ?hya15 hHeld ?hra15
    case hia15 =>
      simp only [List.getElem?_toArray, List.getElem?_cons_succ, List.getElem?_cons_zero]
      rfl
    case hqa15 => exact fun _ _ _ h => h
    case hya15 => exact Or.inl ⟨by kernel_rfl, fun w hSw => by obtain ⟨s0, s1, s2, s3, s4, s5⟩ := hSw; go_simp⟩
    try simp only [Act.put, List.setIfInBounds_toArray, List.set_cons_zero, List.set_cons_succ]
    refine wpAnyH_take (i := 17) (oi := ?oia17) (v := .agg #[.int .i64 t, .slice qa X.length qc]) ?hia17 (by kernel_rfl) (by kernel_rfl) (by kernel_rfl) ?hqa17 ?hya17 hHeld ?hra17
    case hia17 =>
      simp only [List.getElem?_toArray, List.getElem?_cons_succ, List.getElem?_cons_zero]
      rfl
    case hqa17 => exact fun _ _ _ h => h
    case hya17 => exact Or.inl ⟨by kernel_rfl, fun w hSw => by obtain ⟨s0, s1, s2, s3, s4, s5⟩ := hSw; go_simp⟩
    try simp only [Act.put, List.setIfInBounds_toArray, List.set_cons_zero, List.set_cons_succ]
    refine wpAnyH_ready (rs := [16]) (by kernel_rfl) (by simp) ?_
    refine (AllReadyH.cons (o := ?ooa16) ?hoa16 (fun K hK => ?hka16) AllReadyH.nil)
    case hoa16 =>
      simp only [List.getElem?_toArray, List.getElem?_cons_succ, List.getElem?_cons_zero]
      rfl
    case hka16 =>
      go_simp
      go_at_call 10
      refine (hqi9 x1 X1.out).mono ?_
      rintro e x2 ⟨rfl, bq⟩
      have X2 : Hid (Below w6.heap.size w6 x2) := low_step X1.out bq
      clear bq 
      try go_wp2_with fail
      refine hK.out _ _ (HS.out _ X2.out) (fun hHeld => ?_)
      clear hK K
      try simp only [Act.put, List.setIfInBounds_toArray, List.set_cons_zero, List.set_cons_succ]
      refine wpAnyH_ready (rs := [18]) (by kernel_rfl) (by simp) ?_
      refine (AllReadyH.cons (o := ?ooa18) ?hoa18 (fun K hK => ?hka18) AllReadyH.nil)
      case hoa18 =>
        simp only [List.getElem?_toArray, List.getElem?_cons_succ, List.getElem?_cons_zero]
        rfl
      case hka18 =>
        go_simp
        go_at_call 11
        refine (hqs9 x2 X2.out).mono ?_
        rintro e x3 ⟨rfl, bq⟩
        have X3 : Hid (Below w6.heap.size w6 x3) := low_step X2.out bq
        clear bq 
        try go_wp2_with fail
        refine hK.out _ _ (HS.out _ X3.out) (fun hHeld => ?_)
        clear hK K
        try simp only [Act.put, List.setIfInBounds_toArray, List.set_cons_zero, List.set_cons_succ]
        refine wpAnyH_take (i := 19) (oi := ?oia19) (v := .bool false) ?hia19 (by kernel_rfl) (by kernel_rfl) (by kernel_rfl) ?hqa19 ?hya19 hHeld ?hra19
        case hia19 =>
          simp only [List.getElem?_toArray, List.getElem?_cons_succ, List.getElem?_cons_zero]
          rfl
        case hqa19 => exact fun _ _ _ h => h
        case hya19 => exact Or.inl ⟨by kernel_rfl, fun w hSw => by go_simp; (try cases ok <;> rfl)⟩
        try simp only [Act.put, List.setIfInBounds_toArray, List.set_cons_zero, List.set_cons_succ]
        refine wpAnyH_take (i := 20) (oi := ?oia20) (v := .bool false) ?hia20 (by kernel_rfl) (by kernel_rfl) (by kernel_rfl) ?hqa20 ?hya20 hHeld ?hra20
        case hia20 =>
          simp only [List.getElem?_toArray, List.getElem?_cons_succ, List.getElem?_cons_zero]
          rfl
        case hqa20 => exact fun _ _ _ h => h
        case hya20 => exact Or.inl ⟨by kernel_rfl, fun w hSw => by go_simp⟩
        try simp only [Act.put, List.setIfInBounds_toArray, List.set_cons_zero, List.set_cons_succ]
        refine wpAnyH_take (i := 21) (oi := ?oia21) (v := .bool false) ?hia21 (by kernel_rfl) (by kernel_rfl) (by kernel_rfl) ?hqa21 ?hya21 hHeld ?hra21
        case hia21 =>
          simp only [List.getElem?_toArray, List.getElem?_cons_succ, List.getElem?_cons_zero]
          rfl
        case hqa21 => exact fun _ _ _ h => h
        case hya21 => exact Or.inl ⟨by kernel_rfl, fun w hSw => by go_simp⟩
        try simp only [Act.put, List.setIfInBounds_toArray, List.set_cons_zero, List.set_cons_succ]
        refine wpAnyH_ready (rs := [22]) (by kernel_rfl) (by simp) ?_
        refine (AllReadyH.cons (o := ?ooa22) ?hoa22 (fun K hK => ?hka22) AllReadyH.nil)
        case hoa22 =>
          simp only [List.getElem?_toArray, List.getElem?_cons_succ, List.getElem?_cons_zero]
          rfl
        case hka22 =>
          go_simp
          go_at_call 12
          refine (hni x3).mono ?_
          rintro e x4 ⟨nu, nus, rfl, no, nap, bq⟩
          have X4 : Hid (Below w6.heap.size w6 x4) := low_step X3.out bq
          have RN : Hid (ReadsSS x4 nu E8) := no.reads
          clear bq no nap
          try go_wp2_with fail
          refine hK.out _ _ (HS.out _ X4.out) (fun hHeld => ?_)
          clear hK K
          try simp only [Act.put, List.setIfInBounds_toArray, List.set_cons_zero, List.set_cons_succ]
          refine wpAnyH_ready (rs := [23]) (by kernel_rfl) (by simp) ?_
          refine (AllReadyH.cons (o := ?ooa23) ?hoa23 (fun K hK => ?hka23) AllReadyH.nil)
          case hoa23 =>
            simp only [List.getElem?_toArray, List.getElem?_cons_succ, List.getElem?_cons_zero]
            rfl
          case hka23 =>
            go_simp
            go_at_call 13
            refine (hns x4).mono ?_
            rintro e x5 ⟨mu, mus, rfl, mo, map9, bq⟩
            have X5 : Hid (Below w6.heap.size w6 x5) := low_step X4.out bq
            have RM : Hid (ReadsSS x5 mu E8) := mo.reads
            have RN2 : Hid (ReadsSS x5 nu E8) := readsSS_below RN.out bq
            clear bq mo map9 RN
            try go_wp2_with fail
            refine hK.out _ _ (HS.out _ X5.out) (fun hHeld => ?_)
            clear hK K
            try simp only [Act.put, List.setIfInBounds_toArray, List.set_cons_zero, List.set_cons_succ]
            refine wpAnyH_ready (rs := [24]) (by kernel_rfl) (by simp) ?_
            refine (AllReadyH.cons (o := ?ooa24) ?hoa24 (fun K hK => ?hka24) AllReadyH.nil)
            case hoa24 =>
              simp only [List.getElem?_toArray, List.getElem?_cons_succ, List.getElem?_cons_zero]
              rfl
            case hka24 =>
              go_simp
              go_at_call 9
              refine (likeQueue 0 E8 nu mu x5 h88 hx88 RN2.out RM.out).mono ?_
              rintro e x6 ⟨rfl, bq⟩
              have X6 : Hid (Below w6.heap.size w6 x6) := low_step X5.out bq
              clear bq RN2 RM
              try go_wp2_with fail
              refine hK.out _ _ (HS.out _ X6.out) (fun hHeld => ?_)
              clear hK K
              try simp only [Act.put, List.setIfInBounds_toArray, List.set_cons_zero, List.set_cons_succ]
              refine wpAnyH_take (i := 25) (oi := ?oia25) (v := .bool false) ?hia25 (by kernel_rfl) (by kernel_rfl) (by kernel_rfl) ?hqa25 ?hya25 hHeld ?hra25
              case hia25 =>
                simp only [List.getElem?_toArray, List.getElem?_cons_succ, List.getElem?_cons_zero]
                rfl
              case hqa25 => exact fun _ _ _ h => h
              case hya25 => exact Or.inl ⟨by kernel_rfl, fun w hSw => by go_simp⟩
              try simp only [Act.put, List.setIfInBounds_toArray, List.set_cons_zero, List.set_cons_succ]
              refine wpAnyH_take (i := 26) (oi := ?oia26) (v := .bool false) ?hia26 (by kernel_rfl) (by kernel_rfl) (by kernel_rfl) ?hqa26 ?hya26 hHeld ?hra26
              case hia26 =>
                simp only [List.getElem?_toArray, List.getElem?_cons_succ, List.getElem?_cons_zero]
                rfl
              case hqa26 => exact fun _ _ _ h => h
              case hya26 => exact Or.inl ⟨by kernel_rfl, fun w hSw => by go_simp⟩
              try simp only [Act.put, List.setIfInBounds_toArray, List.set_cons_zero, List.set_cons_succ]
              refine wpAnyH_done (by kernel_rfl) ?_ _
              have LWx : Hid (Below w.heap.size w x6) := low_step LW.out X6.out
              have B3x : Hid (Below w3.heap.size w3 x6) := low_step B3.out X6.out
              have Qx : Hid (x6.heap[bQ]? = some (.cells #[.int .i64 t, .slice qa X.length qc] 26 (0, 0))) := box_step Q.out X6.out
              have XBx : Hid (x6.heap[bXB]? = some (.cells #[.int .i64 T1, .slice xa YL.length xc] 26 (0, 0))) := box_step XB.out X6.out
              have RQx : Hid (ReadsSS x6 (.slice qa X.length qc) X) := readsSS_below RQ.out X6.out
              have OXx : Hid (OwnQ x6 0 (.slice xa YL.length xc) us2 YL) := OX.out.below X6.out
              clear hS0 c1 c2 c3 c4 c5 c6 HS hqi9 hqs9 him hsp hni hns
              obtain ⟨q0, q1, -, -⟩ := two_cellsQ Qx.out
              obtain ⟨x0, x1, -, -⟩ := two_cellsQ XBx.out
              rcases serv_cases HA.out with ⟨rfl, rfl, he, hn⟩ | ⟨τ, k, j, hq, rfl, hτ, hf, hk, hjk, hj8, rfl, hT, hY, hn1, hne⟩
              · clear HA hn
                cases ok with
                | false =>
                  have hqs' := hqs x6 RQx.out
                  go_wp2_with fail
                  go_at_call 11
                  refine hqs'.mono ?_
                  rintro r w9 ⟨rfl, b9⟩
                  have LW9 : Hid (Below w.heap.size w w9) := low_step LWx.out b9
                  clear b9 hqs'
                  go_wp2
                  go_ret
                  exact ⟨rfl, LW9.out⟩
                | true =>
                  obtain ⟨rfl, rfl, -⟩ := he HOK.out
                  have hqs' := hqs x6 RQx.out
                  go_wp2_with fail
                  go_at_call 11
                  refine hqs'.mono ?_
                  rintro r w9 ⟨rfl, b9⟩
                  have LW9 : Hid (Below w.heap.size w w9) := low_step LWx.out b9
                  obtain ⟨q0, q1, -, -⟩ := two_cellsQ (box_step Qx.out b9)
                  obtain ⟨x0, x1, -, -⟩ := two_cellsQ (box_step XBx.out b9)
                  have hlk := likeQueue T1 YL (.slice xa YL.length xc) (.slice qa YL.length qc) w9 hlY hxY (OXx.out.below b9).reads (readsSS_below RQx.out b9)
                  clear b9 hqs'
                  go_wp2_with fail
                  go_at_call 9
                  refine hlk.mono ?_
                  rintro r w10 ⟨rfl, b10⟩
                  have LW10 : Hid (Below w.heap.size w w10) := low_step LW9.out b10
                  clear b10 hlk
                  go_wp2
                  go_ret
                  exact ⟨rfl, LW10.out⟩
              · obtain rfl : ok = true := by rw [← HOK.out]; exact hq
                obtain ⟨-, -, h8e, -, -⟩ := queB_parts hq
                have hjX : j < X.length := by omega
                have HF : Hid (fst17 X τ = some k ∧ j = (τ + k) % 8) := ⟨hf, hjk⟩
                have HT : Hid (T1 = (((j + 1) % 8 : Nat) : Int)) := hT
                have HQ : Hid (queB (τ : Int) X = true) := hq
                have hgd : X.getD j [] = X[j] := by simp [List.getD, hjX]
                obtain ⟨A, hAX⟩ : ∃ A, X[j] = A := ⟨_, rfl⟩
                rw [hgd, hAX] at hY hn1 hne
                obtain ⟨M, rfl⟩ : ∃ M, A = n1 :: M := by
                  cases A with
                  | nil => exact absurd rfl hne
                  | cons a l => exact ⟨l, by rw [hn1]; rfl⟩
                have hM : (n1 :: M).tail = M := rfl
                rw [hM] at hY
                have HY : Hid (YL = X.set j M) := hY
                have HAX : Hid (X.getD j [] = n1 :: M) := hgd.trans hAX
                have hjY : j < YL.length := by rw [hY]; simpa using hjX
                have hYj : YL[j] = M := by simp [hY]
                have hqY : queB T1 YL = true := by
                  have h9 := queB_tail hq (q := (j + 1) % 8) (j := j) (by omega) hj8
                  rw [hgd, hAX] at h9
                  rw [hT, hY]; exact h9
                have HQY : Hid (queB T1 YL = true) := hqY
                obtain ⟨gq, oq, u, rfl, cu, ru⟩ := readsSS_at RQx.out hjX
                rw [hAX] at ru
                obtain ⟨aa, ac, rfl⟩ := reads_form ru
                obtain ⟨ga, oa, rfl⟩ := reads_some ru (by simp)
                have cn := reads_cell ru (j := 0) (by simp)
                obtain ⟨gx, ox, u', rfl, cu', ru'⟩ := readsSS_at OXx.out.reads hjY
                rw [hYj] at ru'
                obtain ⟨ma, mc, rfl⟩ := reads_form ru'
                obtain ⟨A, hA9⟩ : ∃ A, (n1 :: M) = A := ⟨_, rfl⟩
                have hAl : A.length = M.length + 1 := by rw [← hA9]; rfl
                rw [hA9] at cu
                simp only [List.getElem_cons_zero, Nat.add_zero] at cn
                have h5a : M.length ≤ 5 := by
                  obtain ⟨-, -, -, h5, -⟩ := queB_parts hqY
                  rw [← hYj]; exact h5 _ (List.getElem_mem hjY)
                have hw1 : IntKind.i64.wrap ((A.length : Int) - 1) = (M.length : Int) := by rw [hAl]; rw [IntWalk.i64_in _ (by omega)]; omega
                have hA0 : (0 : Int) < (A.length : Int) := by omega
                have hjX' : (j : Int) < (X.length : Int) := by omega
                have hjY' : (j : Int) < (YL.length : Int) := by omega
                have hqx0 := fun W hW => implQueueOk T1 YL (.slice (some ⟨gx, ox, none⟩) YL.length xc) W hlY hxY hW
                rw [hqY] at hqx0
                have hqx := fun W (hW : Below x6.heap.size x6 W) => hqx0 W (readsSS_below OXx.out.reads hW)
                have HS9 : Hid (∀ X', Below x6.heap.size x6 X' → X'.cell? ⟨bQ, 0, none⟩ = some (.int .i64 (τ : Int)) ∧ X'.cell? ⟨bQ, 1, none⟩ = some (.slice (some ⟨gq, oq, none⟩) X.length qc) ∧ X'.cell? ⟨gq, oq + j, none⟩ = some (.slice (some ⟨ga, oa, none⟩) A.length ac) ∧ X'.cell? ⟨ga, oa, none⟩ = some (.int .i64 n1) ∧ X'.cell? ⟨bXB, 0, none⟩ = some (.int .i64 T1) ∧ X'.cell? ⟨bXB, 1, none⟩ = some (.slice (some ⟨gx, ox, none⟩) YL.length xc) ∧ X'.cell? ⟨gx, ox + j, none⟩ = some (.slice ma M.length mc)) := fun X' hX => ⟨cell_step q0 hX, cell_step q1 hX, cell_step cu hX, cell_step cn hX, cell_step x0 hX, cell_step x1 hX, cell_step cu' hX⟩
                have hS9 := HS9.out x6 (Below.refl _ _)
                have HAl : Hid (A.length = M.length + 1) := hAl
                have HAn : Hid (A ≠ []) := fun e => by rw [e] at hAl; simp at hAl
                have HA9 : Hid ((n1 :: M) = A) := hA9
                have H8E : Hid (X.length = 8) := h8e
                clear hn1 hM hY hjk hf hT hq hgd hAX hYj hqY ru ru' hAl hqx0 hA9 h8e h5a HA hne
                go_wp2_with fail
                refine wp_region_held_drew (S := fun Z => Z.cell? ⟨bQ, 0, none⟩ = some (.int .i64 (τ : Int)) ∧ Z.cell? ⟨bQ, 1, none⟩ = some (.slice (some ⟨gq, oq, none⟩) X.length qc) ∧ Z.cell? ⟨gq, oq + j, none⟩ = some (.slice (some ⟨ga, oa, none⟩) A.length ac) ∧ Z.cell? ⟨ga, oa, none⟩ = some (.int .i64 n1) ∧ Z.cell? ⟨bXB, 0, none⟩ = some (.int .i64 T1) ∧ Z.cell? ⟨bXB, 1, none⟩ = some (.slice (some ⟨gx, ox, none⟩) YL.length xc) ∧ Z.cell? ⟨gx, ox + j, none⟩ = some (.slice ma M.length mc)) (by kernel_rfl) hS9 (fun hHeld => ?_)
                refine wpAnyH_take (i := 0) (oi := ?oib0) (v := .pointer (some ⟨bQ, 1, none⟩)) ?hib0 (by kernel_rfl) (by kernel_rfl) (by kernel_rfl) ?hqb0 ?hyb0 hHeld ?hrb0
                case hib0 =>
                  simp only [List.getElem?_toArray, List.getElem?_cons_succ, List.getElem?_cons_zero]
                  rfl
                case hqb0 => exact fun _ _ _ h => h
                case hyb0 => exact Or.inl ⟨by kernel_rfl, fun w hSw => by go_simp⟩
                try simp only [Act.put, List.setIfInBounds_toArray, List.set_cons_zero, List.set_cons_succ]
                refine wpAnyH_take (i := 1) (oi := ?oib1) (v := .slice (some ⟨gq, oq, none⟩) X.length qc) ?hib1 (by kernel_rfl) (by kernel_rfl) (by kernel_rfl) ?hqb1 ?hyb1 hHeld ?hrb1
                case hib1 =>
                  simp only [List.getElem?_toArray, List.getElem?_cons_succ, List.getElem?_cons_zero]
                  rfl
                case hqb1 => exact fun _ _ _ h => h
                case hyb1 => exact Or.inl ⟨by kernel_rfl, fun w hSw => by obtain ⟨s0, s1, s2, s3, s4, s5, s6⟩ := hSw; go_simp⟩
                try simp only [Act.put, List.setIfInBounds_toArray, List.set_cons_zero, List.set_cons_succ]
                refine wpAnyH_take (i := 2) (oi := ?oib2) (v := .int .i64 (j : Int)) ?hib2 (by kernel_rfl) (by kernel_rfl) (by kernel_rfl) ?hqb2 ?hyb2 hHeld ?hrb2
                case hib2 =>
                  simp only [List.getElem?_toArray, List.getElem?_cons_succ, List.getElem?_cons_zero]
                  rfl
                case hqb2 => exact fun _ _ _ h => h
                case hyb2 => exact Or.inl ⟨by kernel_rfl, fun w hSw => by go_simp⟩
                try simp only [Act.put, List.setIfInBounds_toArray, List.set_cons_zero, List.set_cons_succ]
                refine wpAnyH_take (i := 3) (oi := ?oib3) (v := .pointer (some ⟨gq, oq + j, none⟩)) ?hib3 (by kernel_rfl) (by kernel_rfl) (by kernel_rfl) ?hqb3 ?hyb3 hHeld ?hrb3
                case hib3 =>
                  simp only [List.getElem?_toArray, List.getElem?_cons_succ, List.getElem?_cons_zero]
                  rfl
                case hqb3 => exact fun _ _ _ h => h
                case hyb3 => exact Or.inl ⟨by kernel_rfl, fun w hSw => by go_simp⟩
                try simp only [Act.put, List.setIfInBounds_toArray, List.set_cons_zero, List.set_cons_succ]
                refine wpAnyH_take (i := 4) (oi := ?oib4) (v := .slice (some ⟨ga, oa, none⟩) A.length ac) ?hib4 (by kernel_rfl) (by kernel_rfl) (by kernel_rfl) ?hqb4 ?hyb4 hHeld ?hrb4
                case hib4 =>
                  simp only [List.getElem?_toArray, List.getElem?_cons_succ, List.getElem?_cons_zero]
                  rfl
                case hqb4 => exact fun _ _ _ h => h
                case hyb4 => exact Or.inl ⟨by kernel_rfl, fun w hSw => by obtain ⟨s0, s1, s2, s3, s4, s5, s6⟩ := hSw; go_simp⟩
                try simp only [Act.put, List.setIfInBounds_toArray, List.set_cons_zero, List.set_cons_succ]
                refine wpAnyH_take (i := 5) (oi := ?oib5) (v := .pointer (some ⟨ga, oa, none⟩)) ?hib5 (by kernel_rfl) (by kernel_rfl) (by kernel_rfl) ?hqb5 ?hyb5 hHeld ?hrb5
                case hib5 =>
                  simp only [List.getElem?_toArray, List.getElem?_cons_succ, List.getElem?_cons_zero]
                  rfl
                case hqb5 => exact fun _ _ _ h => h
                case hyb5 => exact Or.inl ⟨by kernel_rfl, fun w hSw => by go_simp; (try exact fun e => absurd e HAn.out)⟩
                try simp only [Act.put, List.setIfInBounds_toArray, List.set_cons_zero, List.set_cons_succ]
                refine wpAnyH_take (i := 6) (oi := ?oib6) (v := .int .i64 n1) ?hib6 (by kernel_rfl) (by kernel_rfl) (by kernel_rfl) ?hqb6 ?hyb6 hHeld ?hrb6
                case hib6 =>
                  simp only [List.getElem?_toArray, List.getElem?_cons_succ, List.getElem?_cons_zero]
                  rfl
                case hqb6 => exact fun _ _ _ h => h
                case hyb6 => exact Or.inl ⟨by kernel_rfl, fun w hSw => by obtain ⟨s0, s1, s2, s3, s4, s5, s6⟩ := hSw; go_simp⟩
                try simp only [Act.put, List.setIfInBounds_toArray, List.set_cons_zero, List.set_cons_succ]
                refine wpAnyH_take (i := 7) (oi := ?oib7) (v := .int .i64 n1) ?hib7 (by kernel_rfl) (by kernel_rfl) (by kernel_rfl) ?hqb7 ?hyb7 hHeld ?hrb7
                case hib7 =>
                  simp only [List.getElem?_toArray, List.getElem?_cons_succ, List.getElem?_cons_zero]
                  rfl
                case hqb7 => exact fun _ _ _ h => h
                case hyb7 => exact Or.inl ⟨by kernel_rfl, fun w hSw => by go_simp⟩
                try simp only [Act.put, List.setIfInBounds_toArray, List.set_cons_zero, List.set_cons_succ]
                refine wpAnyH_take (i := 8) (oi := ?oib8) (v := .bool false) ?hib8 (by kernel_rfl) (by kernel_rfl) (by kernel_rfl) ?hqb8 ?hyb8 hHeld ?hrb8
                case hib8 =>
                  simp only [List.getElem?_toArray, List.getElem?_cons_succ, List.getElem?_cons_zero]
                  rfl
                case hqb8 => exact fun _ _ _ h => h
                case hyb8 => exact Or.inl ⟨by kernel_rfl, fun w hSw => by go_simp; (try simp)⟩
                try simp only [Act.put, List.setIfInBounds_toArray, List.set_cons_zero, List.set_cons_succ]
                refine wpAnyH_take (i := 9) (oi := ?oib9) (v := .bool false) ?hib9 (by kernel_rfl) (by kernel_rfl) (by kernel_rfl) ?hqb9 ?hyb9 hHeld ?hrb9
                case hib9 =>
                  simp only [List.getElem?_toArray, List.getElem?_cons_succ, List.getElem?_cons_zero]
                  rfl
                case hqb9 => exact fun _ _ _ h => h
                case hyb9 => exact Or.inl ⟨by kernel_rfl, fun w hSw => by go_simp⟩
                try simp only [Act.put, List.setIfInBounds_toArray, List.set_cons_zero, List.set_cons_succ]
                refine wpAnyH_take (i := 10) (oi := ?oib10) (v := .pointer (some ⟨bXB, 1, none⟩)) ?hib10 (by kernel_rfl) (by kernel_rfl) (by kernel_rfl) ?hqb10 ?hyb10 hHeld ?hrb10
                case hib10 =>
                  simp only [List.getElem?_toArray, List.getElem?_cons_succ, List.getElem?_cons_zero]
                  rfl
                case hqb10 => exact fun _ _ _ h => h
                case hyb10 => exact Or.inl ⟨by kernel_rfl, fun w hSw => by go_simp⟩
                try simp only [Act.put, List.setIfInBounds_toArray, List.set_cons_zero, List.set_cons_succ]
                refine wpAnyH_take (i := 11) (oi := ?oib11) (v := .slice (some ⟨gx, ox, none⟩) YL.length xc) ?hib11 (by kernel_rfl) (by kernel_rfl) (by kernel_rfl) ?hqb11 ?hyb11 hHeld ?hrb11
                case hib11 =>
                  simp only [List.getElem?_toArray, List.getElem?_cons_succ, List.getElem?_cons_zero]
                  rfl
                case hqb11 => exact fun _ _ _ h => h
                case hyb11 => exact Or.inl ⟨by kernel_rfl, fun w hSw => by obtain ⟨s0, s1, s2, s3, s4, s5, s6⟩ := hSw; go_simp⟩
                try simp only [Act.put, List.setIfInBounds_toArray, List.set_cons_zero, List.set_cons_succ]
                refine wpAnyH_take (i := 12) (oi := ?oib12) (v := .int .i64 (j : Int)) ?hib12 (by kernel_rfl) (by kernel_rfl) (by kernel_rfl) ?hqb12 ?hyb12 hHeld ?hrb12
                case hib12 =>
                  simp only [List.getElem?_toArray, List.getElem?_cons_succ, List.getElem?_cons_zero]
                  rfl
                case hqb12 => exact fun _ _ _ h => h
                case hyb12 => exact Or.inl ⟨by kernel_rfl, fun w hSw => by go_simp⟩
                try simp only [Act.put, List.setIfInBounds_toArray, List.set_cons_zero, List.set_cons_succ]
                refine wpAnyH_take (i := 13) (oi := ?oib13) (v := .pointer (some ⟨gx, ox + j, none⟩)) ?hib13 (by kernel_rfl) (by kernel_rfl) (by kernel_rfl) ?hqb13 ?hyb13 hHeld ?hrb13
                case hib13 =>
                  simp only [List.getElem?_toArray, List.getElem?_cons_succ, List.getElem?_cons_zero]
                  rfl
                case hqb13 => exact fun _ _ _ h => h
                case hyb13 => exact Or.inl ⟨by kernel_rfl, fun w hSw => by go_simp⟩
                try simp only [Act.put, List.setIfInBounds_toArray, List.set_cons_zero, List.set_cons_succ]
                refine wpAnyH_take (i := 14) (oi := ?oib14) (v := .slice ma M.length mc) ?hib14 (by kernel_rfl) (by kernel_rfl) (by kernel_rfl) ?hqb14 ?hyb14 hHeld ?hrb14
                case hib14 =>
                  simp only [List.getElem?_toArray, List.getElem?_cons_succ, List.getElem?_cons_zero]
                  rfl
                case hqb14 => exact fun _ _ _ h => h
                case hyb14 => exact Or.inl ⟨by kernel_rfl, fun w hSw => by obtain ⟨s0, s1, s2, s3, s4, s5, s6⟩ := hSw; go_simp⟩
                try simp only [Act.put, List.setIfInBounds_toArray, List.set_cons_zero, List.set_cons_succ]
                refine wpAnyH_take (i := 15) (oi := ?oib15) (v := .int .i64 (M.length : Int)) ?hib15 (by kernel_rfl) (by kernel_rfl) (by kernel_rfl) ?hqb15 ?hyb15 hHeld ?hrb15
                case hib15 =>
                  simp only [List.getElem?_toArray, List.getElem?_cons_succ, List.getElem?_cons_zero]
                  rfl
                case hqb15 => exact fun _ _ _ h => h
                case hyb15 => exact Or.inl ⟨by kernel_rfl, fun w hSw => by go_simp⟩
                try simp only [Act.put, List.setIfInBounds_toArray, List.set_cons_zero, List.set_cons_succ]
                refine wpAnyH_take (i := 16) (oi := ?oib16) (v := .pointer (some ⟨bQ, 1, none⟩)) ?hib16 (by kernel_rfl) (by kernel_rfl) (by kernel_rfl) ?hqb16 ?hyb16 hHeld ?hrb16
                case hib16 =>
                  simp only [List.getElem?_toArray, List.getElem?_cons_succ, List.getElem?_cons_zero]
                  rfl
                case hqb16 => exact fun _ _ _ h => h
                case hyb16 => exact Or.inl ⟨by kernel_rfl, fun w hSw => by go_simp⟩
                try simp only [Act.put, List.setIfInBounds_toArray, List.set_cons_zero, List.set_cons_succ]
                refine wpAnyH_take (i := 17) (oi := ?oib17) (v := .slice (some ⟨gq, oq, none⟩) X.length qc) ?hib17 (by kernel_rfl) (by kernel_rfl) (by kernel_rfl) ?hqb17 ?hyb17 hHeld ?hrb17
                case hib17 =>
                  simp only [List.getElem?_toArray, List.getElem?_cons_succ, List.getElem?_cons_zero]
                  rfl
                case hqb17 => exact fun _ _ _ h => h
                case hyb17 => exact Or.inl ⟨by kernel_rfl, fun w hSw => by obtain ⟨s0, s1, s2, s3, s4, s5, s6⟩ := hSw; go_simp⟩
                try simp only [Act.put, List.setIfInBounds_toArray, List.set_cons_zero, List.set_cons_succ]
                refine wpAnyH_take (i := 18) (oi := ?oib18) (v := .int .i64 (j : Int)) ?hib18 (by kernel_rfl) (by kernel_rfl) (by kernel_rfl) ?hqb18 ?hyb18 hHeld ?hrb18
                case hib18 =>
                  simp only [List.getElem?_toArray, List.getElem?_cons_succ, List.getElem?_cons_zero]
                  rfl
                case hqb18 => exact fun _ _ _ h => h
                case hyb18 => exact Or.inl ⟨by kernel_rfl, fun w hSw => by go_simp⟩
                try simp only [Act.put, List.setIfInBounds_toArray, List.set_cons_zero, List.set_cons_succ]
                refine wpAnyH_take (i := 19) (oi := ?oib19) (v := .pointer (some ⟨gq, oq + j, none⟩)) ?hib19 (by kernel_rfl) (by kernel_rfl) (by kernel_rfl) ?hqb19 ?hyb19 hHeld ?hrb19
                case hib19 =>
                  simp only [List.getElem?_toArray, List.getElem?_cons_succ, List.getElem?_cons_zero]
                  rfl
                case hqb19 => exact fun _ _ _ h => h
                case hyb19 => exact Or.inl ⟨by kernel_rfl, fun w hSw => by go_simp⟩
                try simp only [Act.put, List.setIfInBounds_toArray, List.set_cons_zero, List.set_cons_succ]
                refine wpAnyH_take (i := 20) (oi := ?oib20) (v := .slice (some ⟨ga, oa, none⟩) A.length ac) ?hib20 (by kernel_rfl) (by kernel_rfl) (by kernel_rfl) ?hqb20 ?hyb20 hHeld ?hrb20
                case hib20 =>
                  simp only [List.getElem?_toArray, List.getElem?_cons_succ, List.getElem?_cons_zero]
                  rfl
                case hqb20 => exact fun _ _ _ h => h
                case hyb20 => exact Or.inl ⟨by kernel_rfl, fun w hSw => by obtain ⟨s0, s1, s2, s3, s4, s5, s6⟩ := hSw; go_simp⟩
                try simp only [Act.put, List.setIfInBounds_toArray, List.set_cons_zero, List.set_cons_succ]
                refine wpAnyH_take (i := 21) (oi := ?oib21) (v := .int .i64 (A.length : Int)) ?hib21 (by kernel_rfl) (by kernel_rfl) (by kernel_rfl) ?hqb21 ?hyb21 hHeld ?hrb21
                case hib21 =>
                  simp only [List.getElem?_toArray, List.getElem?_cons_succ, List.getElem?_cons_zero]
                  rfl
                case hqb21 => exact fun _ _ _ h => h
                case hyb21 => exact Or.inl ⟨by kernel_rfl, fun w hSw => by go_simp⟩
                try simp only [Act.put, List.setIfInBounds_toArray, List.set_cons_zero, List.set_cons_succ]
                refine wpAnyH_take (i := 22) (oi := ?oib22) (v := .int .i64 (M.length : Int)) ?hib22 (by kernel_rfl) (by kernel_rfl) (by kernel_rfl) ?hqb22 ?hyb22 hHeld ?hrb22
                case hib22 =>
                  simp only [List.getElem?_toArray, List.getElem?_cons_succ, List.getElem?_cons_zero]
                  rfl
                case hqb22 => exact fun _ _ _ h => h
                case hyb22 => exact Or.inl ⟨by kernel_rfl, fun w hSw => by go_simp⟩
                try simp only [Act.put, List.setIfInBounds_toArray, List.set_cons_zero, List.set_cons_succ]
                refine wpAnyH_take (i := 23) (oi := ?oib23) (v := .bool false) ?hib23 (by kernel_rfl) (by kernel_rfl) (by kernel_rfl) ?hqb23 ?hyb23 hHeld ?hrb23
                case hib23 =>
                  simp only [List.getElem?_toArray, List.getElem?_cons_succ, List.getElem?_cons_zero]
                  rfl
                case hqb23 => exact fun _ _ _ h => h
                case hyb23 => exact Or.inl ⟨by kernel_rfl, fun w hSw => by go_simp; (try simp)⟩
                try simp only [Act.put, List.setIfInBounds_toArray, List.set_cons_zero, List.set_cons_succ]
                refine wpAnyH_take (i := 24) (oi := ?oib24) (v := .bool false) ?hib24 (by kernel_rfl) (by kernel_rfl) (by kernel_rfl) ?hqb24 ?hyb24 hHeld ?hrb24
                case hib24 =>
                  simp only [List.getElem?_toArray, List.getElem?_cons_succ, List.getElem?_cons_zero]
                  rfl
                case hqb24 => exact fun _ _ _ h => h
                case hyb24 => exact Or.inl ⟨by kernel_rfl, fun w hSw => by go_simp⟩
                try simp only [Act.put, List.setIfInBounds_toArray, List.set_cons_zero, List.set_cons_succ]
                refine wpAnyH_take (i := 25) (oi := ?oib25) (v := .bool false) ?hib25 (by kernel_rfl) (by kernel_rfl) (by kernel_rfl) ?hqb25 ?hyb25 hHeld ?hrb25
                case hib25 =>
                  simp only [List.getElem?_toArray, List.getElem?_cons_succ, List.getElem?_cons_zero]
                  rfl
                case hqb25 => exact fun _ _ _ h => h
                case hyb25 => exact Or.inl ⟨by kernel_rfl, fun w hSw => by go_simp⟩
                try simp only [Act.put, List.setIfInBounds_toArray, List.set_cons_zero, List.set_cons_succ]
                refine wpAnyH_take (i := 26) (oi := ?oib26) (v := .agg #[.int .i64 T1, .slice (some ⟨gx, ox, none⟩) YL.length xc]) ?hib26 (by kernel_rfl) (by kernel_rfl) (by kernel_rfl) ?hqb26 ?hyb26 hHeld ?hrb26
                case hib26 =>
                  simp only [List.getElem?_toArray, List.getElem?_cons_succ, List.getElem?_cons_zero]
                  rfl
                case hqb26 => exact fun _ _ _ h => h
                case hyb26 => exact Or.inl ⟨by kernel_rfl, fun w hSw => by obtain ⟨s0, s1, s2, s3, s4, s5, s6⟩ := hSw; go_simp⟩
                try simp only [Act.put, List.setIfInBounds_toArray, List.set_cons_zero, List.set_cons_succ]
                refine wpAnyH_ready (rs := [27]) (by kernel_rfl) (by simp) ?_
                refine (AllReadyH.cons (o := ?oob27) ?hob27 (fun K hK => ?hkb27) AllReadyH.nil)
                case hob27 =>
                  simp only [List.getElem?_toArray, List.getElem?_cons_succ, List.getElem?_cons_zero]
                  rfl
                case hkb27 =>
                  go_simp
                  go_at_call 10
                  refine (hqx x6.drew (Below.drew (Below.refl _ _))).mono ?_
                  rintro e y1 ⟨rfl, bq⟩
                  have Y1 : Hid (Below x6.heap.size x6 y1) := Below.trans (Below.drew (Below.refl _ _)) bq
                  clear bq 
                  try go_wp2_with fail
                  refine hK.out _ _ (HS9.out _ Y1.out) (fun hHeld => ?_)
                  clear hK K
                  try simp only [Act.put, List.setIfInBounds_toArray, List.set_cons_zero, List.set_cons_succ]
                  refine wpAnyH_take (i := 28) (oi := ?oib28) (v := .bool false) ?hib28 (by kernel_rfl) (by kernel_rfl) (by kernel_rfl) ?hqb28 ?hyb28 hHeld ?hrb28
                  case hib28 =>
                    simp only [List.getElem?_toArray, List.getElem?_cons_succ, List.getElem?_cons_zero]
                    rfl
                  case hqb28 => exact fun _ _ _ h => h
                  case hyb28 => exact Or.inl ⟨by kernel_rfl, fun w hSw => by go_simp⟩
                  try simp only [Act.put, List.setIfInBounds_toArray, List.set_cons_zero, List.set_cons_succ]
                  refine wpAnyH_take (i := 29) (oi := ?oib29) (v := .bool false) ?hib29 (by kernel_rfl) (by kernel_rfl) (by kernel_rfl) ?hqb29 ?hyb29 hHeld ?hrb29
                  case hib29 =>
                    simp only [List.getElem?_toArray, List.getElem?_cons_succ, List.getElem?_cons_zero]
                    rfl
                  case hqb29 => exact fun _ _ _ h => h
                  case hyb29 => exact Or.inl ⟨by kernel_rfl, fun w hSw => by go_simp⟩
                  try simp only [Act.put, List.setIfInBounds_toArray, List.set_cons_zero, List.set_cons_succ]
                  refine wpAnyH_done (by kernel_rfl) ?_ _
                  have LWy : Hid (Below w.heap.size w y1) := low_step LWx.out Y1.out
                  have BM : Below y1.heap.size y1 (y1.alloc (.cells #[] 2)) := by go_grown
                  have M0 := made0 y1
                  have HFT : Hid (FT w3 bXB X j M 0 0 (YL, []) us2 (.slice (some ⟨gx, ox, none⟩) YL.length xc) (.slice (some ⟨y1.heap.size, 0, none⟩) 0 0) (y1.alloc (.cells #[] 2))) := by
                    show FT w3 bXB X j M 0 0 (YL, []) us2 (.slice (some ⟨gx, ox, none⟩) YL.length xc) (.slice (some ⟨y1.heap.size, 0, none⟩) 0 0) (y1.alloc (.cells #[] 2))
                    refine ⟨low_step (low_step B3x.out Y1.out) BM, ?_, (OXx.out.below Y1.out).below BM, ?_, ?_, ?_, ?_, Nat.le_refl _⟩
                    · have h9 := box_step (box_step XBx.out Y1.out) BM
                      rw [HT.out] at h9
                      exact h9
                    · exact own_mono (by simpa [ints] using M0) (low_step B3x.out Y1.out).size
                    · show Turn17 X j 0 YL []
                      rw [HY.out]
                      have h9 := Turn17.first (X0 := X) H8E.out hj8
                      rw [HAX.out] at h9
                      exact h9
                    · have h9 := HQY.out
                      rw [HT.out] at h9
                      exact h9
                    · show YL.getD j [] = M
                      rw [HY.out, getD_setL _ _ _ _ _ hjX, if_pos rfl]
                  clear BM M0 hS9 HS9 x0 x1 cu cn cu' q0 q1
                  have hM5 : M.length ≤ 5 := by
                    obtain ⟨-, -, -, h5, -⟩ := queB_parts HQY.out
                    have h9 : M ∈ YL := by rw [HY.out]; exact List.mem_set hjX M
                    exact h5 M h9
                  go_wp2_with fail
                  go_loopw [10, 12] (fun a i wr => ∃ (m p : Nat) (X' : List (List Int)) (S : List Int) (us : List Value) (xa : Option Addr) (xc : Nat), i = .int .i64 (m : Int) ∧ FT w3 bXB X j M m p (X', S) us (.slice xa X'.length xc) a wr) (fun _ i _ => 8 - (intOf i).toNat)
                  case atStart => exact ⟨0, 0, YL, [], us2, _, xc, rfl, HFT.out⟩
                  case round =>
                    obtain ⟨m, p, X', S, us', xa', xc', rfl, hFT⟩ := hrel
                    obtain ⟨av, hav⟩ : ∃ t, t = u10 := ⟨_, rfl⟩
                    subst hav
                    have HT' : Hid (FT w3 bXB X j M m p (X', S) us' (.slice xa' X'.length xc') av wr) := hFT
                    have hp7 : p ≤ 7 := hFT.turn.hp
                    have hmp : m ≤ p := Nat.le_trans hFT.hm hFT.turn.len
                    have h8' : X'.length = 8 := (queB_parts hFT.hq).2.2.1
                    have HX8 : Hid (X'.length = 8) := h8'
                    have hjX1 : j < X'.length := by omega
                    have hjX2 : (j : Int) < (X'.length : Int) := by omega
                    have hm8 : (m : Int) < 8 := by omega
                    have hX'j : X'[j] = M := by
                      have h9 := hFT.first
                      simp only [List.getD_eq_getElem?_getD, List.getElem?_eq_getElem hjX1, Option.getD_some] at h9
                      exact h9
                    obtain ⟨g1, o1, u1, rfl, cu1, ru1⟩ := readsSS_at hFT.own.reads hjX1
                    rw [hX'j] at ru1
                    obtain ⟨ma', mc', rfl⟩ := reads_form ru1
                    obtain ⟨x0, x1, -, -⟩ := two_cellsQ hFT.box
                    obtain ⟨wa, hwa⟩ : ∃ x, x = wr := ⟨_, rfl⟩
                    subst hwa
                    have BW : Hid (Below w.heap.size w wa) := low_step LW3.out hFT.low
                    clear hFT h8' hX'j ru1
                    by_cases hM0 : M = []
                    · have hM1 : decide ((0 : Int) < (M.length : Int)) = false := by rw [hM0]; rfl
                      have hM2 : ¬ 0 < M.length := by rw [hM0]; decide
                      clear hM0
                      go_wp2
                      go_ret
                      exact ⟨rfl, BW.out⟩
                    have hM1 : decide ((0 : Int) < (M.length : Int)) = true := by
                      have := List.length_pos_iff.2 hM0
                      simp; omega
                    have hM2 : 0 < M.length := List.length_pos_iff.2 hM0
                    obtain ⟨k9, i9, hk9, hi9, hi98, hf9, hor⟩ := HT'.out.turn.step HX8.out hj8 (by rw [HT'.out.first]; exact hM0)
                    have HOR : Hid _ := hor
                    have hiX : i9 < X'.length := by have := HX8.out; omega
                    have hsv := fun W hW => implServed (((j + 1 + p) % 8 : Nat) : Int) X' (.slice (some ⟨g1, o1, none⟩) X'.length xc') W (by have := HX8.out; unfold maxLen; omega) (fun x hx => by have := (queB_parts HT'.out.hq).2.2.2.1 x hx; unfold maxLen; omega) hW
                    rw [serv_some HT'.out.hq hf9] at hsv
                    simp only at hsv
                    rw [← hi9] at hsv
                    have hcall := hsv wa HT'.out.own.reads
                    have HQ9 : Hid (queB (((i9 + 1) % 8 : Nat) : Int) (X'.set i9 (X'.getD i9 []).tail) = true) := queB_tail HT'.out.hq (by omega) hi98
                    obtain ⟨n9, hn9⟩ : ∃ n, (X'.getD i9 []).headD 0 = n := ⟨_, rfl⟩
                    obtain ⟨t9, ht9⟩ : ∃ t, (i9 + 1) % 8 = t := ⟨_, rfl⟩
                    obtain ⟨X9, hX9⟩ : ∃ Z, X'.set i9 (X'.getD i9 []).tail = Z := ⟨_, rfl⟩
                    rw [hn9, ht9, hX9] at hcall
                    rw [ht9, hX9] at HQ9
                    rw [hX9, ht9] at HOR
                    clear hn9 hsv hM0 hi9 hk9 hf9 hor
                    go_wp2_with fail
                    go_at_call 7
                    refine hcall.mono ?_
                    rintro r wb ⟨u5, us5, rfl, ou5, ap5, b5⟩
                    obtain ⟨ya', yc', rfl⟩ : ∃ a c, u5 = .slice a X9.length c := by obtain ⟨a, c, e, _⟩ := ou5.reads; exact ⟨_, _, e⟩
                    clear hcall cu1 x0 x1 ap5
                    obtain ⟨wc, hwc⟩ : ∃ W, wb.alloc (.cells #[.int .i64 (t9 : Int), .slice ya' X9.length yc'] 26) = W := ⟨_, rfl⟩
                    have bb : Below wb.heap.size wb wc := by rw [← hwc]; go_grown
                    obtain ⟨bY, hbY⟩ : ∃ n, wb.heap.size = n := ⟨_, rfl⟩
                    have HYB : Hid (wc.heap[bY]? = some (.cells #[.int .i64 (t9 : Int), .slice ya' X9.length yc'] 26 (0, 0))) := by
                      show wc.heap[bY]? = _
                      rw [← hwc, ← hbY]; exact heap_alloc_new wb _
                    have hi0 : decide ((i9 : Int) < 0) = false := by simp
                    have HXB : Hid (wc.heap[bXB]? = _) := box_step (box_step HT'.out.box b5) bb
                    have HOY : Hid (OwnQ wc wa.heap.size (.slice ya' X9.length yc') us5 X9) := ou5.below bb
                    have HAV : Hid (∀ k, av.ownBlock = some k → k < wa.heap.size) := fun k hk => (HT'.out.serv.lt k hk).2
                    have HFI : Hid (X'.getD j [] = M) := HT'.out.first
                    have HML : Hid (m ≤ S.length ∧ S.length ≤ p) := ⟨HT'.out.hm, HT'.out.turn.len⟩
                    have HSV : Hid (wc.ownsRow w3.heap.size 2 1 av S.length (ints S)) := own_kept (own_kept HT'.out.serv b5) bb
                    have HB3 : Hid (Below w3.heap.size w3 wc) := low_step (low_step HT'.out.low b5) bb
                    obtain ⟨x0, x1, x2, x3⟩ := two_cellsQ HXB.out
                    obtain ⟨y0, y1, -, -⟩ := two_cellsQ HYB.out
                    -- the Queue behind
                    have hR9 := two_setQ HXB.out (.int .i64 (t9 : Int)) (.slice ya' X9.length yc')
                    have hO9 := ownQ_box (o := 1) (x := .slice ya' X9.length yc') (ownQ_box (o := 0) (x := .int .i64 (t9 : Int)) HOY.out HXB.out) (heap_setCell_same wc bXB 0 _ _ (.int .i64 (t9 : Int)) HXB.out)
                    have hS9 := ownI_box (o := 1) (x := .slice ya' X9.length yc') (ownI_box (o := 0) (x := .int .i64 (t9 : Int)) HSV.out HXB.out) (heap_setCell_same wc bXB 0 _ _ (.int .i64 (t9 : Int)) HXB.out)
                    have hB9 := (HB3.out.setCell (p := ⟨bXB, 0, none⟩) (by have := hXB.out; simp; omega) (.int .i64 (t9 : Int))).setCell (p := ⟨bXB, 1, none⟩) (by have := hXB.out; simp; omega) (.slice ya' X9.length yc')
                    obtain ⟨wd, hwd⟩ : ∃ W, (wc.setCell ⟨bXB, 0, none⟩ (.int .i64 (t9 : Int))).setCell ⟨bXB, 1, none⟩ (.slice ya' X9.length yc') = W := ⟨_, rfl⟩
                    rw [hwd] at hR9 hO9 hS9 hB9
                    have HR9 : Hid _ := hR9
                    have HO9 : Hid _ := hO9
                    have HS9 : Hid (wd.ownsRow w3.heap.size 2 1 av S.length (ints S)) := hS9
                    have HB9 : Hid _ := hB9
                    clear hR9 hO9 hS9 hB9 bb b5 ou5 HXB HOY HSV HB3 HYB HT'
                    have hSl : S.length ≤ maxLen := by have := HML.out; unfold maxLen; omega
                    by_cases hij : i9 = j
                    · have hall : ∀ i : Nat, i < 8 → i ≠ j → X.getD i [] ≠ [] → (i : Int) ∈ S := by
                        rcases HOR.out with ⟨-, h⟩ | ⟨h, -⟩
                        · exact h
                        · exact absurd hij h
                      have HAL : Hid _ := hall
                      have hij' : ((i9 : Int) == (j : Int)) = true := by simp; omega
                      subst hij
                      clear HOR hall HFI HAV
                      go_wp2_with fail
                      clear hwc hwd x0 x1 x2 x3 y0 y1
                      go_loopw [16] (fun q wr => ∃ n : Nat, n ≤ 8 ∧ q = .int .i64 (n : Int) ∧ Below wd.heap.size wd wr) (fun q _ => 8 - (intOf q).toNat)
                      case atStart => exact ⟨0, by omega, rfl, Below.refl _ _⟩
                      case round =>
                        obtain ⟨n, hn8, rfl, hbr⟩ := hrel
                        have BR : Hid (Below w.heap.size w wr) := low_step LW3.out (low_step HB9.out hbr)
                        by_cases hn : n < 8
                        · have hn' : (n : Int) < 8 := by omega
                          have hnX : n < X.length := by have := H8E.out; omega
                          have hnX' : (n : Int) < (X.length : Int) := by omega
                          obtain ⟨q0, q1, -, -⟩ := two_cellsQ (box_step Q3.out (low_step HB9.out hbr))
                          obtain ⟨u9, cu9, ru9⟩ := readsSS_cell (readsSS_below RQ3.out (low_step HB9.out hbr)) hnX
                          have hgn : X.getD n [] = X[n] := by simp [List.getD, hnX]
                          have HGN : Hid _ := hgn
                          obtain ⟨la, lc, rfl⟩ := reads_form ru9
                          have HSr : Hid (Reads wr av (ints S)) := reads_own (own_kept HS9.out hbr)
                          clear hgn ru9
                          by_cases hni : n = i9
                          · have hni' : ((n : Int) == (i9 : Int)) = true := by simp; omega
                            subst hni
                            go_wp2
                            go_roundw
                            case rel => exact ⟨n + 1, by omega, by go_num, hbr⟩
                            case measure => simp [intOf]; omega
                          · have hni' : ((n : Int) == (i9 : Int)) = false := by simp; omega
                            obtain ⟨ys, hys⟩ : ∃ ys, X[n] = ys := ⟨_, rfl⟩
                            rw [hys] at cu9 HGN
                            clear hys
                            by_cases hy : ys = []
                            · subst hy
                              go_wp2
                              go_roundw
                              case rel => exact ⟨n + 1, by omega, by go_num, hbr⟩
                              case measure => simp [intOf]; omega
                            · have hy1 : 0 < ys.length := List.length_pos_iff.2 hy
                              have hy2 : decide ((0 : Int) < (ys.length : Int)) = true := by simp; omega
                              have hm9 := HAL.out n hn hni (by rw [HGN.out]; exact hy)
                              have hhas := lawHas S (n : Int) av wr hSl HSr.out
                              have hany : S.any (fun x => decide (x = (n : Int))) = true := by
                                rw [List.any_eq_true]; exact ⟨_, hm9, by simp⟩
                              rw [hany] at hhas
                              have HBR : Hid _ := hbr
                              clear hm9 hany hy hbr
                              go_wp2_with fail
                              go_at_call 14
                              refine hhas.mono ?_
                              rintro r wf ⟨rfl, bf⟩
                              have HBF : Hid (Below wd.heap.size wd wf) := low_step HBR.out bf
                              clear hhas bf
                              go_wp2
                              go_roundw
                              case rel => exact ⟨n + 1, by omega, by go_num, HBF.out⟩
                              case measure => simp [intOf]; omega
                        · have hn' : ¬ (n : Int) < 8 := by omega
                          clear hbr
                          go_wp2
                          go_ret
                          exact ⟨rfl, BR.out⟩
                    · obtain ⟨hnS, hgj, ht9e, htn⟩ : (i9 : Int) ∉ S ∧ X9.getD j [] = X'.getD j [] ∧ t9 = (j + 1 + (dst17 j i9 + 1)) % 8 ∧ Turn17 X j (dst17 j i9 + 1) X9 (S ++ [(i9 : Int)]) := by
                        rcases HOR.out with ⟨h, -⟩ | ⟨-, h1, h2, h3, h4⟩
                        · exact absurd h hij
                        · exact ⟨h1, h2, h3, h4⟩
                      have hij' : ((i9 : Int) == (j : Int)) = false := by simp; omega
                      have HGJ : Hid (X9.getD j [] = M) := hgj.trans HFI.out
                      have HTE : Hid _ := ht9e
                      have HTN : Hid _ := htn
                      have hhas := lawHas S (i9 : Int) av wd hSl (reads_own HS9.out)
                      have hany : S.any (fun x => decide (x = (i9 : Int))) = false := by
                        rw [List.any_eq_false]; exact fun x hx e => hnS (by simpa using (of_decide_eq_true e) ▸ hx)
                      rw [hany] at hhas
                      clear HOR hgj ht9e htn hnS hany HFI
                      go_wp2_with fail
                      go_at_call 14
                      clear hwc hwd x0 x1 x2 x3 y0 y1
                      refine hhas.mono ?_
                      rintro r we ⟨rfl, be⟩
                      have HBE : Hid (Below w3.heap.size w3 we) := low_step HB9.out be
                      have HOE : Hid (OwnQ we wa.heap.size (.slice ya' X9.length yc') us5 X9) := HO9.out.below be
                      have HSE : Hid (we.ownsRow w3.heap.size 2 1 av S.length (ints S)) := own_kept HS9.out be
                      have HXE : Hid (we.heap[bXB]? = some (.cells #[.int .i64 (t9 : Int), .slice ya' X9.length yc'] 26 (0, 0))) := box_step HR9.out be
                      have hS20 : S.length ≤ 20 := by have := HML.out; omega
                      obtain ⟨i0', hi0, hz0, hz1, hz2⟩ := info_parts infoInt
                      have hsz : w3.heap.size ≤ (we.alloc (.cells #[.int .i64 (i9 : Int)] 2)).heap.size := by have := HBE.out.size; simp; omega
                      clear hhas be HO9 HS9 HR9 HB9
                      go_wp2_with (at_builtin; refine wpList_append_own _ rfl (.tmp 156) (.tmp 158) 33 rfl w3.heap.size 2 i0' (.int .i64 0) 1 8 Try.underlying33 hi0 hz0 hz1 hz2 rfl (by decide) _ S.length (ints S) rfl (HSE.out.alloc _) ⟨we.heap.size, 0, none⟩ 1 1 [.int .i64 (i9 : Int)] rfl rfl (cell_one we (i9 : Int)) (ints_oneCell [(i9 : Int)]) (by unfold maxLen; omega) (by omega) hsz ?_; intro v6 w6 own6 grow6 _; refine stop_ofT ?_)
                      unfold StopT
                      have B6 : Hid (Below w3.heap.size w3 w6) := below_rowT (low_box HBE.out _) grow6 (fun k e => (HSE.out.lt k e).1)
                      have K6 : ∀ b, b < we.heap.size → av.ownBlock ≠ some b → w6.heap[b]? = we.heap[b]? := fun b hb hne => (grow6.block b (by simp; omega) (fun e => hne e.symm)).trans (old_block hb)
                      have HFT' : Hid (FT w3 bXB X j M (m + 1) (dst17 j i9 + 1) (X9, S ++ [(i9 : Int)]) us5 (.slice ya' X9.length yc') v6 w6) := by
                        show FT w3 bXB X j M (m + 1) (dst17 j i9 + 1) (X9, S ++ [(i9 : Int)]) us5 (.slice ya' X9.length yc') v6 w6
                        refine ⟨B6.out, ?_, ?_, ?_, HTN.out, ?_, HGJ.out, ?_⟩
                        · rw [← HTE.out]
                          exact (K6 bXB (Array.getElem?_eq_some_iff.1 HXE.out).1 (fun e => row_not_box HSE.out HXE.out e)).trans HXE.out
                        · refine (HOE.out.same (fun k hk => K6 k (HOE.out.row.lt k hk).2 (fun e => ?_)) (fun u hu k hk => K6 k (HOE.out.ltI hu hk).2 (fun e => ?_))).mono (Nat.zero_le _)
                          · have := HAV.out k e; have := (HOE.out.row.lt k hk).1; omega
                          · have := HAV.out k e; have := (HOE.out.ltI hu hk).1; omega
                        · have h9 := own6
                          simpa [ints] using h9
                        · rw [← HTE.out]; exact HQ9.out
                        · have := HML.out
                          show m + 1 ≤ (S ++ [(i9 : Int)]).length
                          simp; omega
                      clear own6 grow6 K6 B6
                      go_wp2
                      go_roundw
                      case rel => exact ⟨m + 1, dst17 j i9 + 1, X9, S ++ [(i9 : Int)], us5, _, yc', by go_num, HFT'.out⟩
                      case measure => simp [intOf]; omega

set_option maxRecDepth 100000 in
theorem liftedFnTurns (os : Os) (started : os.Started) (H : Type) (enc : TypeId × Value → H) :
    ReturnsInHanded {} Try.checked os 3 .any (Rows.fnTurnsSpec.pre6 enc Try.prog Try.f3 Rows.fnTurnsRow.domain false) (Rows.fnTurnsSpec.post enc Try.prog Try.f3 false true false false) := by
  refine returnsInHanded_of_change (C := Try.checked) own started (by kernel_rfl) Try.func3
    (ChangeSpec.witness6 (enc := enc) (C := Try.checked) false ⟨#[], #[.slice none 0 0], []⟩ 8 (by kernel_rfl) (by kernel_rfl) (by kernel_rfl) (by kernel_rfl)) ?_
  intro W base args ds gs before hval0 hW hcnd _
  have hval : ∀ (j : Nat) t v, Try.f3.params[j]? = some t → args[j]? = some v → Value.okWide Try.prog W .any base t v := hval0
  have hW' := hW
  obtain ⟨p, q, hA0, hV, rfl, hfz, hnd⟩ := hW
  have hA : DataW.TrodAll enc Try.prog W 0 (fun _ => true) true Try.f3.params.toList args.toList ds p := hA0
  rw [Try.params3] at hA hval
  obtain ⟨v0, vs0, d0, ds0, p0, q0, hargs, rfl, rfl, h0, r0⟩ := trodAll_cons hA
  obtain ⟨rfl, rfl, rfl⟩ := trodAll_nil r0
  obtain rfl : args = #[v0] := by cases args; simp_all
  obtain ⟨rfl, rfl⟩ := trodVars_none hV
  obtain ⟨bs, hr, hl, hs⟩ := open_code Try.underlying22 Try.underlying5 cellsByte (hval 0 22 v0 rfl rfl) h0
  refine (walkFnTurns bs v0 W hl hr).mono fun e W' ⟨he, hb⟩ => ?_
  subst he
  refine ⟨_, rfl, law_post (tb := 4) laidOut ?_ hW' rfl Try.underlying4 rfl rfl hb⟩
  exact all_readable (P := Try.prog) (by kernel_rfl)

theorem overFnTurns : Rows.fnTurnsRow.holds Try.pinned (OpenSpec.ofChange Rows.fnTurnsSpec) :=
  OpenClaim.holds_of_wide 3 Try.f3 rfl rfl rfl rfl rfl rfl rfl ⟨rfl, rfl, rfl, rfl, rfl⟩ rfl rfl rfl rfl rfl (by kernel_rfl) Try.func3 (by kernel_rfl)
    (of_decide_eq_true (by kernel_rfl)) (by unfold Func.isWrapper; first | (rw [if_pos (by decide +kernel)]; kernel_rfl) | (rw [if_neg (by decide +kernel)]; exact ⟨rfl, rfl⟩))
    (fun os started H enc _ => liftedFnTurns os started H enc)

/-- ████ THE STATEMENT ████ -/
theorem fnTurnsHolds : Rows.FnTurnsSaid :=
  overFnTurns
#print axioms fnTurnsHolds

end Go.Proofs.Ytjlpjjddnkceoaa
