/-
  The law FnContent: procedures of one content have one table, and a closure is its own one and has the same table; the tied card.
-/
import Derived.Test.YtldagpfeaabcdaaGreatDoorDrawAlk
import Derived.Test.YtldagpfeaabcdaaGreatDoorG41ConMath
import Derived.Test.YtldagpfeaabcdaaGreatDoorAlikeI
import Derived.Test.YtldagpfeaabcdaaGreatDoorAlikeS
import Derived.Test.YtldagpfeaabcdaaGreatDoorG32Bld
import Derived.Test.YtldagpfeaabcdaaGreatDoorG50OpenCode
import Derived.Test.YtldagpfeaabcdaaGreatDoorLikeProg
import Derived.Test.YtldagpfeaabcdaaGreatDoorG17RelA
import Derived.Test.YtldagpfeaabcdaaGreatDoorG02ProgOk
import Derived.Test.YtldagpfeaabcdaaGreatDoorCards
import Derived.Test.YtldagpfeaabcdaaGreatDoorTie
import Derived.Deep.RegionHeld
import Derived.LaidMore
import Derived.SevenTiedAt
import Derived.Stop.Joined
namespace Go.Proofs.YtldagpfeaabcdaaGreatDoor
open Go.ChangeShapes Go.WideShapes Go.ChangeAt Go.RowKit
set_option linter.unusedVariables false
set_option linter.unusedSimpArgs false
set_option maxHeartbeats 8000000
set_option maxRecDepth 20000

theorem box_stepC {W W' : World} {b : Nat} {o : Obj} (h : W.heap[b]? = some o) (hb : Below W.heap.size W W') : W'.heap[b]? = some o := (hb.block b (Array.getElem?_eq_some_iff.1 h).1).trans h
theorem low_stepC {w W W' : World} (h : Below w.heap.size w W) (hb : Below W.heap.size W W') : Below w.heap.size w W' := h.trans (hb.mono h.size)
theorem cell_stepC {W W' : World} {b o : Nat} {x : Value} (h : W.cell? ⟨b, o, none⟩ = some x) (hb : Below W.heap.size W W') : W'.cell? ⟨b, o, none⟩ = some x := (hb.cell (World.block_lt_of_cell? W _ h)).trans h
theorem own_lenC {w : World} {base n : Nat} {e : TypeId} {v : Value} {xs : List Value} (h : w.ownsRow base e 1 v n xs) : ∃ a c, v = .slice a n c := by
  rcases h.2 with ⟨e, h0⟩ | ⟨g, cap, cur, e, _⟩
  · exact ⟨none, 0, by rw [e, h0]⟩
  · exact ⟨_, _, e⟩
theorem reads2_belowC {w w' : World} {v : Value} {n : Nat} {xs : List Value} (h : Reads2 w v n xs) (hb : Below w.heap.size w w') : Reads2 w' v n xs := by
  obtain ⟨ao, cap, rfl, hc⟩ := h
  refine ⟨ao, cap, rfl, fun j x hx => ?_⟩
  obtain ⟨gg, off, e, h1⟩ := hc j x hx
  exact ⟨gg, off, e, (hb.cell (World.block_lt_of_cell? w _ h1)).trans h1⟩
theorem tabs_all (ps : List (List Stm)) : ∃ f : Int → List (List Int), ∀ c, TabA ps c (f c) := ⟨fun c => Classical.choose (tabA_some ps c), fun c => Classical.choose_spec (tabA_some ps c)⟩
theorem tabs_is {ps : List (List Stm)} {c : Int} {A : List (List Int)} (h : TabA ps c A) (hok : programOk ps = true) (hc : c = 1 ∨ c = 2) : A.length = ps.length ∧ IsTables c ps A := h.1 (by unfold okB; rw [hok]; simpa using hc)
theorem row_some {w : World} {lo : Nat} {v : Value} {us : List Value} {A : List (List Int)} (h : OwnSS w lo v us A) (hn : 0 < A.length) : ∃ g c, v = .slice (some ⟨g, 0, none⟩) A.length c := by
  rcases h.row.2 with ⟨e, h0⟩ | ⟨g, cap, cur, e, _⟩
  · omega
  · exact ⟨g, cap, e⟩
theorem cloA_lens (ps : List (List Stm)) (i : Int) : (cloA ps i).length ≤ 100 ∧ ∀ p ∈ cloA ps i, p.length ≤ 100 := by
  cases h : hasB ps i with
  | false => unfold cloA; rw [h]; simp
  | true => rw [cloA_yes h]; exact lens_ok (cloA_ok h)

theorem walkFnContent (bs : List Int) (v : Value) (w : World) (hl : bs.length ≤ maxLen) (hv : Reads w v (bs.map (Value.int .u8))) :
    Calls Tryz.prog 3 #[v] w fun e w' => e = .returned (.bool true) ∧ Below w.heap.size w w' := by
  have hbig := lawBig bs v w hl hv
  by_cases hb : (4096 : Int) < (bs.length : Int)
  · rw [decide_eq_true hb] at hbig
    go_enter Tryz.func3, Tryz.ntmps3
    go_wp2_with (go_at_call 4; refine hbig.mono ?_; rintro e w1 ⟨rfl, rfl⟩)
    go_ret
    exact ⟨rfl, Below.refl _ _⟩
  rw [decide_eq_false hb] at hbig
  have HBL : Hid (bs.length ≤ 1048576) := by show bs.length ≤ 1048576; omega
  go_enter Tryz.func3, Tryz.ntmps3
  go_wp2_with fail
  go_at_call 4
  refine hbig.mono ?_
  rintro e w0 ⟨rfl, rfl⟩
  clear hbig hb hl
  have LOW : Hid (Below w.heap.size w w) := Below.refl _ _
  have RC : Hid (Reads w v (bs.map (Value.int .u8))) := hv
  clear hv
  have hcall := drawAlike bs v w HBL.out RC.out
  go_wp2_with fail
  go_at_call 5
  refine hcall.mono ?_
  rintro r w1 ⟨ua, ub, p1, p2, rfl, r1, r2, l1, l2, bc⟩
  clear hcall
  have LOWx : Hid (Below w.heap.size w w1) := low_stepC LOW.out bc
  have RCx : Hid (Reads w1 v (bs.map (Value.int .u8))) := reads_below RC.out bc
  clear LOW RC
  have LOW : Hid (Below w.heap.size w w1) := LOWx.out
  have RC : Hid (Reads w1 v (bs.map (Value.int .u8))) := RCx.out
  clear LOWx RCx
  obtain ⟨aa, an, ac, haa⟩ : ∃ a n c, ua = .slice a n c := by obtain ⟨a, c, e, _⟩ := r1; exact ⟨_, _, _, e⟩
  obtain ⟨ba, bn, bc9, hbb⟩ : ∃ a n c, ub = .slice a n c := by obtain ⟨a, c, e, _⟩ := r2; exact ⟨_, _, _, e⟩
  subst haa
  subst hbb
  have R1 : Hid (ReadsP w1 (.slice aa an ac) p1) := r1
  have R2 : Hid (ReadsP w1 (.slice ba bn bc9) p2) := r2
  have H1 : Hid (p1.length ≤ maxLen ∧ ∀ p ∈ p1, p.length ≤ maxLen) := ⟨by have := l1.1; unfold maxLen; omega, fun p hp => by have := l1.2 p hp; unfold maxLen; omega⟩
  have H2 : Hid (p2.length ≤ maxLen ∧ ∀ p ∈ p2, p.length ≤ maxLen) := ⟨by have := l2.1; unfold maxLen; omega, fun p hp => by have := l2.2 p hp; unfold maxLen; omega⟩
  clear r1 r2 bc l1 l2
  obtain ⟨w2, hAw2⟩ : ∃ W, (w1.alloc (.cells #[.slice aa an ac] 26)).alloc (.cells #[.slice ba bn bc9] 26) = W := ⟨_, rfl⟩
  have bb : Below w1.heap.size w1 w2 := by rw [← hAw2]; go_grown
  obtain ⟨bBA, hBw2⟩ : ∃ n, w1.heap.size = n := ⟨_, rfl⟩
  have BAn : Hid (w2.heap[bBA]? = some (.cells #[.slice aa an ac] 26 (0, 0))) := by
    show w2.heap[bBA]? = _
    rw [← hAw2, ← hBw2, old_block (by simp)]; exact heap_alloc_new w1 _
  have BBn : Hid (w2.heap[bBA + 1]? = some (.cells #[.slice ba bn bc9] 26 (0, 0))) := by
    show w2.heap[bBA + 1]? = _
    rw [← hAw2, ← hBw2]
    have h9 := heap_alloc_new (w1.alloc (.cells #[.slice aa an ac] 26)) (.cells #[.slice ba bn bc9] 26)
    simpa using h9
  have LOWx : Hid (Below w.heap.size w w2) := low_stepC LOW.out bb
  have RCx : Hid (Reads w2 v (bs.map (Value.int .u8))) := reads_below RC.out bb
  have R1x : Hid (ReadsP w2 (.slice aa an ac) p1) := readsP_below R1.out bb
  have R2x : Hid (ReadsP w2 (.slice ba bn bc9) p2) := readsP_below R2.out bb
  clear LOW RC R1 R2
  have LOW : Hid (Below w.heap.size w w2) := LOWx.out
  have RC : Hid (Reads w2 v (bs.map (Value.int .u8))) := RCx.out
  have R1 : Hid (ReadsP w2 (.slice aa an ac) p1) := R1x.out
  have R2 : Hid (ReadsP w2 (.slice ba bn bc9) p2) := R2x.out
  clear LOWx RCx R1x R2x
  clear bb
  have BA : Hid (w2.heap[bBA]? = some (.cells #[.slice aa an ac] 26 (0, 0))) := BAn.out
  clear BAn
  have BB : Hid (w2.heap[bBA + 1]? = some (.cells #[.slice ba bn bc9] 26 (0, 0))) := BBn.out
  clear BBn
  obtain ⟨cA, -⟩ := one_cell BA.out
  obtain ⟨cB, -⟩ := one_cell BB.out
  have hcall := implAlike p1 p2 (.slice aa an ac) (.slice ba bn bc9) w2 H1.out.1 H1.out.2 H2.out.1 H2.out.2 R1.out R2.out
  go_wp2_with fail
  go_at_call 6
  clear hAw2 hBw2
  refine hcall.mono ?_
  rintro r w3 ⟨lv, rfl, ol, bc⟩
  clear hcall cA cB
  have LOWx : Hid (Below w.heap.size w w3) := low_stepC LOW.out bc
  have RCx : Hid (Reads w3 v (bs.map (Value.int .u8))) := reads_below RC.out bc
  have R1x : Hid (ReadsP w3 (.slice aa an ac) p1) := readsP_below R1.out bc
  have R2x : Hid (ReadsP w3 (.slice ba bn bc9) p2) := readsP_below R2.out bc
  have BAx : Hid (w3.heap[bBA]? = some (.cells #[.slice aa an ac] 26 (0, 0))) := box_stepC BA.out bc
  have BBx : Hid (w3.heap[bBA + 1]? = some (.cells #[.slice ba bn bc9] 26 (0, 0))) := box_stepC BB.out bc
  clear LOW RC R1 R2 BA BB
  have LOW : Hid (Below w.heap.size w w3) := LOWx.out
  have RC : Hid (Reads w3 v (bs.map (Value.int .u8))) := RCx.out
  have R1 : Hid (ReadsP w3 (.slice aa an ac) p1) := R1x.out
  have R2 : Hid (ReadsP w3 (.slice ba bn bc9) p2) := R2x.out
  have BA : Hid (w3.heap[bBA]? = some (.cells #[.slice aa an ac] 26 (0, 0))) := BAx.out
  have BB : Hid (w3.heap[bBA + 1]? = some (.cells #[.slice ba bn bc9] 26 (0, 0))) := BBx.out
  clear LOWx RCx R1x R2x BAx BBx
  obtain ⟨X, hX⟩ : ∃ X, alikeA p1 p2 = X := ⟨_, rfl⟩
  have HP : Hid (PairsA (LikeQ p1 p2) X) := by show PairsA _ X; rw [← hX]; exact alikeA_pairs p1 p2
  obtain ⟨n, hXn, hn16⟩ : ∃ n, X.length = 2 * n ∧ n ≤ 16 := by rw [← hX]; exact alikeA_len p1 p2
  rw [hX] at ol
  have HX : Hid (alikeA p1 p2 = X) := hX
  have HXN : Hid (X.length = 2 * n) := hXn
  obtain ⟨la, lc, hlv⟩ : ∃ a c, lv = .slice a n c := by
    obtain ⟨m, hm, hr⟩ := ol.ex
    obtain rfl : m = n := by omega
    obtain ⟨ao, cap, e, _⟩ := reads2_own hr
    exact ⟨ao, cap, e⟩
  subst hlv
  have RL : Hid (Reads2 w3 (.slice la n lc) n (ints X)) := (by obtain ⟨m, hm, hr⟩ := ol.ex; obtain rfl : m = n := (by omega); exact reads2_own hr)
  clear ol bc hX hXn
  have hcall := drawClosure bs v w3 HBL.out RC.out
  go_wp2_with fail
  go_at_call 7
  refine hcall.mono ?_
  rintro r w4 ⟨up, L, i0, rfl, h5, h14, pr, bc⟩
  clear hcall
  have LOWx : Hid (Below w.heap.size w w4) := low_stepC LOW.out bc
  have RCx : Hid (Reads w4 v (bs.map (Value.int .u8))) := reads_below RC.out bc
  have R1x : Hid (ReadsP w4 (.slice aa an ac) p1) := readsP_below R1.out bc
  have R2x : Hid (ReadsP w4 (.slice ba bn bc9) p2) := readsP_below R2.out bc
  have BAx : Hid (w4.heap[bBA]? = some (.cells #[.slice aa an ac] 26 (0, 0))) := box_stepC BA.out bc
  have BBx : Hid (w4.heap[bBA + 1]? = some (.cells #[.slice ba bn bc9] 26 (0, 0))) := box_stepC BB.out bc
  have RLx : Hid (Reads2 w4 (.slice la n lc) n (ints X)) := reads2_belowC RL.out bc
  clear LOW RC R1 R2 BA BB RL
  have LOW : Hid (Below w.heap.size w w4) := LOWx.out
  have RC : Hid (Reads w4 v (bs.map (Value.int .u8))) := RCx.out
  have R1 : Hid (ReadsP w4 (.slice aa an ac) p1) := R1x.out
  have R2 : Hid (ReadsP w4 (.slice ba bn bc9) p2) := R2x.out
  have BA : Hid (w4.heap[bBA]? = some (.cells #[.slice aa an ac] 26 (0, 0))) := BAx.out
  have BB : Hid (w4.heap[bBA + 1]? = some (.cells #[.slice ba bn bc9] 26 (0, 0))) := BBx.out
  have RL : Hid (Reads2 w4 (.slice la n lc) n (ints X)) := RLx.out
  clear LOWx RCx R1x R2x BAx BBx RLx
  obtain ⟨ps, rp, hpL⟩ := pr.reads
  have hlp := drawn_lensA hpL h5 h14
  obtain ⟨pa, pn, pc, rfl⟩ := pr.slice
  have HL : Hid (ps.length ≤ maxLen ∧ ∀ p ∈ ps, p.length ≤ maxLen) := ⟨by have := hlp.1; unfold maxLen; omega, fun p hp => by have := hlp.2 p hp; unfold maxLen; omega⟩
  have RP : Hid (ReadsP w4 (.slice pa pn pc) ps) := rp
  clear pr rp hpL h5 h14 hlp bc
  clear RC
  obtain ⟨w5, hAw5⟩ : ∃ W, w4.alloc (.cells #[.slice pa pn pc] 26) = W := ⟨_, rfl⟩
  have bb : Below w4.heap.size w4 w5 := by rw [← hAw5]; go_grown
  obtain ⟨bBP, hBw5⟩ : ∃ n, w4.heap.size = n := ⟨_, rfl⟩
  have BPn : Hid (w5.heap[bBP]? = some (.cells #[.slice pa pn pc] 26 (0, 0))) := by
    show w5.heap[bBP]? = _
    rw [← hAw5, ← hBw5]; exact heap_alloc_new w4 _
  have LOWx : Hid (Below w.heap.size w w5) := low_stepC LOW.out bb
  have R1x : Hid (ReadsP w5 (.slice aa an ac) p1) := readsP_below R1.out bb
  have R2x : Hid (ReadsP w5 (.slice ba bn bc9) p2) := readsP_below R2.out bb
  have BAx : Hid (w5.heap[bBA]? = some (.cells #[.slice aa an ac] 26 (0, 0))) := box_stepC BA.out bb
  have BBx : Hid (w5.heap[bBA + 1]? = some (.cells #[.slice ba bn bc9] 26 (0, 0))) := box_stepC BB.out bb
  have RLx : Hid (Reads2 w5 (.slice la n lc) n (ints X)) := reads2_belowC RL.out bb
  have RPx : Hid (ReadsP w5 (.slice pa pn pc) ps) := readsP_below RP.out bb
  clear LOW R1 R2 BA BB RL RP
  have LOW : Hid (Below w.heap.size w w5) := LOWx.out
  have R1 : Hid (ReadsP w5 (.slice aa an ac) p1) := R1x.out
  have R2 : Hid (ReadsP w5 (.slice ba bn bc9) p2) := R2x.out
  have BA : Hid (w5.heap[bBA]? = some (.cells #[.slice aa an ac] 26 (0, 0))) := BAx.out
  have BB : Hid (w5.heap[bBA + 1]? = some (.cells #[.slice ba bn bc9] 26 (0, 0))) := BBx.out
  have RL : Hid (Reads2 w5 (.slice la n lc) n (ints X)) := RLx.out
  have RP : Hid (ReadsP w5 (.slice pa pn pc) ps) := RPx.out
  clear LOWx R1x R2x BAx BBx RLx RPx
  clear bb
  have BP : Hid (w5.heap[bBP]? = some (.cells #[.slice pa pn pc] 26 (0, 0))) := BPn.out
  clear BPn
  obtain ⟨cP, -⟩ := one_cell BP.out
  have hcall := implClosure ps i0 (.slice pa pn pc) w5 HL.out.1 HL.out.2 RP.out
  go_wp2_with fail
  go_at_call 8
  clear hAw5 hBw5
  refine hcall.mono ?_
  rintro r w6 ⟨uc, cus, rfl, oc, bc⟩
  clear hcall cP
  have LOWx : Hid (Below w.heap.size w w6) := low_stepC LOW.out bc
  have R1x : Hid (ReadsP w6 (.slice aa an ac) p1) := readsP_below R1.out bc
  have R2x : Hid (ReadsP w6 (.slice ba bn bc9) p2) := readsP_below R2.out bc
  have BAx : Hid (w6.heap[bBA]? = some (.cells #[.slice aa an ac] 26 (0, 0))) := box_stepC BA.out bc
  have BBx : Hid (w6.heap[bBA + 1]? = some (.cells #[.slice ba bn bc9] 26 (0, 0))) := box_stepC BB.out bc
  have RLx : Hid (Reads2 w6 (.slice la n lc) n (ints X)) := reads2_belowC RL.out bc
  have RPx : Hid (ReadsP w6 (.slice pa pn pc) ps) := readsP_below RP.out bc
  have BPx : Hid (w6.heap[bBP]? = some (.cells #[.slice pa pn pc] 26 (0, 0))) := box_stepC BP.out bc
  clear LOW R1 R2 BA BB RL RP BP
  have LOW : Hid (Below w.heap.size w w6) := LOWx.out
  have R1 : Hid (ReadsP w6 (.slice aa an ac) p1) := R1x.out
  have R2 : Hid (ReadsP w6 (.slice ba bn bc9) p2) := R2x.out
  have BA : Hid (w6.heap[bBA]? = some (.cells #[.slice aa an ac] 26 (0, 0))) := BAx.out
  have BB : Hid (w6.heap[bBA + 1]? = some (.cells #[.slice ba bn bc9] 26 (0, 0))) := BBx.out
  have RL : Hid (Reads2 w6 (.slice la n lc) n (ints X)) := RLx.out
  have RP : Hid (ReadsP w6 (.slice pa pn pc) ps) := RPx.out
  have BP : Hid (w6.heap[bBP]? = some (.cells #[.slice pa pn pc] 26 (0, 0))) := BPx.out
  clear LOWx R1x R2x BAx BBx RLx RPx BPx
  obtain ⟨ca, cn, cc, rfl⟩ := own_slice oc.row
  obtain ⟨Q, hQ⟩ : ∃ Q, cloA ps i0 = Q := ⟨_, rfl⟩
  have HQL : Hid (Q.length ≤ 100 ∧ ∀ p ∈ Q, p.length ≤ 100) := by show Q.length ≤ 100 ∧ _; rw [← hQ]; exact cloA_lens ps i0
  rw [hQ] at oc
  have HQ : Hid (cloA ps i0 = Q) := hQ
  have RQ : Hid (ReadsP w6 (.slice ca cn cc) Q) := readsP_own oc.ownP
  obtain ⟨hcn⟩ : Nonempty (cn = Q.length) := by obtain ⟨a, c, e, _⟩ := readsP_own oc.ownP; simp at e; exact ⟨e.2.1⟩
  have HCN : Hid (cn = Q.length) := hcn
  clear oc bc hQ hcn
  obtain ⟨w7, hAw7⟩ : ∃ W, w6.alloc (.cells #[.slice ca cn cc] 26) = W := ⟨_, rfl⟩
  have bb : Below w6.heap.size w6 w7 := by rw [← hAw7]; go_grown
  obtain ⟨bBC, hBw7⟩ : ∃ n, w6.heap.size = n := ⟨_, rfl⟩
  have BCn : Hid (w7.heap[bBC]? = some (.cells #[.slice ca cn cc] 26 (0, 0))) := by
    show w7.heap[bBC]? = _
    rw [← hAw7, ← hBw7]; exact heap_alloc_new w6 _
  have LOWx : Hid (Below w.heap.size w w7) := low_stepC LOW.out bb
  have R1x : Hid (ReadsP w7 (.slice aa an ac) p1) := readsP_below R1.out bb
  have R2x : Hid (ReadsP w7 (.slice ba bn bc9) p2) := readsP_below R2.out bb
  have BAx : Hid (w7.heap[bBA]? = some (.cells #[.slice aa an ac] 26 (0, 0))) := box_stepC BA.out bb
  have BBx : Hid (w7.heap[bBA + 1]? = some (.cells #[.slice ba bn bc9] 26 (0, 0))) := box_stepC BB.out bb
  have RLx : Hid (Reads2 w7 (.slice la n lc) n (ints X)) := reads2_belowC RL.out bb
  have RPx : Hid (ReadsP w7 (.slice pa pn pc) ps) := readsP_below RP.out bb
  have BPx : Hid (w7.heap[bBP]? = some (.cells #[.slice pa pn pc] 26 (0, 0))) := box_stepC BP.out bb
  have RQx : Hid (ReadsP w7 (.slice ca cn cc) Q) := readsP_below RQ.out bb
  clear LOW R1 R2 BA BB RL RP BP RQ
  have LOW : Hid (Below w.heap.size w w7) := LOWx.out
  have R1 : Hid (ReadsP w7 (.slice aa an ac) p1) := R1x.out
  have R2 : Hid (ReadsP w7 (.slice ba bn bc9) p2) := R2x.out
  have BA : Hid (w7.heap[bBA]? = some (.cells #[.slice aa an ac] 26 (0, 0))) := BAx.out
  have BB : Hid (w7.heap[bBA + 1]? = some (.cells #[.slice ba bn bc9] 26 (0, 0))) := BBx.out
  have RL : Hid (Reads2 w7 (.slice la n lc) n (ints X)) := RLx.out
  have RP : Hid (ReadsP w7 (.slice pa pn pc) ps) := RPx.out
  have BP : Hid (w7.heap[bBP]? = some (.cells #[.slice pa pn pc] 26 (0, 0))) := BPx.out
  have RQ : Hid (ReadsP w7 (.slice ca cn cc) Q) := RQx.out
  clear LOWx R1x R2x BAx BBx RLx RPx BPx RQx
  clear bb
  have BC : Hid (w7.heap[bBC]? = some (.cells #[.slice ca cn cc] 26 (0, 0))) := BCn.out
  clear BCn
  obtain ⟨sx, hsx⟩ : ∃ s : ByteArray, (⟨(conA ps i0).toArray⟩ : ByteArray) = s := ⟨_, rfl⟩
  have hsn : (sx.toList != sx.toList) = false := by simp
  have hss : (sx.toList == sx.toList) = true := by simp
  have HSX : Hid _ := hsx
  have HS : Hid (∀ Z, Below w7.heap.size w7 Z → Z.cell? ⟨bBA, 0, none⟩ = some (.slice aa an ac) ∧ Z.cell? ⟨bBA + 1, 0, none⟩ = some (.slice ba bn bc9) ∧ Z.cell? ⟨bBP, 0, none⟩ = some (.slice pa pn pc) ∧ Z.cell? ⟨bBC, 0, none⟩ = some (.slice ca cn cc)) := fun Z hZ => by
    obtain ⟨a1, _⟩ := one_cell (box_stepC BA.out hZ)
    obtain ⟨a2, _⟩ := one_cell (box_stepC BB.out hZ)
    obtain ⟨a3, _⟩ := one_cell (box_stepC BP.out hZ)
    obtain ⟨a4, _⟩ := one_cell (box_stepC BC.out hZ)
    exact ⟨a1, a2, a3, a4⟩
  have hS0 := HS.out w7 (Below.refl _ _)
  have hsa := fun Z (hZ : Below w7.heap.size w7 Z) => specAlike p1 p2 (.slice aa an ac) (.slice ba bn bc9) Z H1.out.1 H1.out.2 H2.out.1 H2.out.2 (readsP_below R1.out hZ) (readsP_below R2.out hZ)
  have hsc := fun Z (hZ : Below w7.heap.size w7 Z) => specClosure ps i0 (.slice pa pn pc) Z HL.out.1 HL.out.2 (readsP_below RP.out hZ)
  have hic := fun Z (hZ : Below w7.heap.size w7 Z) => implContent ps i0 (.slice pa pn pc) Z HL.out.1 HL.out.2 (readsP_below RP.out hZ)
  have hso := fun Z (hZ : Below w7.heap.size w7 Z) => specContent ps i0 (.slice pa pn pc) Z HL.out.1 HL.out.2 (readsP_below RP.out hZ)
  rw [HX.out] at hsa
  rw [HQ.out] at hsc
  rw [hsx] at hic hso
  have HIC : Hid _ := hic
  clear hsx
  obtain ⟨c1, c2, c3, c4⟩ := id hS0
  go_wp2_with fail
  clear hAw7 hBw7
  refine wp_region_held_drew (S := fun Z => Z.cell? ⟨bBA, 0, none⟩ = some (.slice aa an ac) ∧ Z.cell? ⟨bBA + 1, 0, none⟩ = some (.slice ba bn bc9) ∧ Z.cell? ⟨bBP, 0, none⟩ = some (.slice pa pn pc) ∧ Z.cell? ⟨bBC, 0, none⟩ = some (.slice ca cn cc)) (by kernel_rfl) hS0 (fun hHeld => ?_)
  refine wpAnyH_take (i := 0) (oi := ?oia0) (v := .slice la n lc) ?hia0 (by kernel_rfl) (by kernel_rfl) (by kernel_rfl) ?hqa0 ?hya0 hHeld ?hra0
  case hia0 =>
    simp only [List.getElem?_toArray, List.getElem?_cons_succ, List.getElem?_cons_zero]
    rfl
  case hqa0 => exact fun _ _ _ h => h
  case hya0 => exact Or.inl ⟨by kernel_rfl, fun w hSw => by go_simp⟩
  try simp only [Act.put, List.setIfInBounds_toArray, List.set_cons_zero, List.set_cons_succ]
  refine wpAnyH_take (i := 1) (oi := ?oia1) (v := .agg #[.slice aa an ac]) ?hia1 (by kernel_rfl) (by kernel_rfl) (by kernel_rfl) ?hqa1 ?hya1 hHeld ?hra1
  case hia1 =>
    simp only [List.getElem?_toArray, List.getElem?_cons_succ, List.getElem?_cons_zero]
    rfl
  case hqa1 => exact fun _ _ _ h => h
  case hya1 => exact Or.inl ⟨by kernel_rfl, fun w hSw => by obtain ⟨s0, s1, s2, s3⟩ := hSw; go_simp⟩
  try simp only [Act.put, List.setIfInBounds_toArray, List.set_cons_zero, List.set_cons_succ]
  refine wpAnyH_take (i := 2) (oi := ?oia2) (v := .agg #[.slice ba bn bc9]) ?hia2 (by kernel_rfl) (by kernel_rfl) (by kernel_rfl) ?hqa2 ?hya2 hHeld ?hra2
  case hia2 =>
    simp only [List.getElem?_toArray, List.getElem?_cons_succ, List.getElem?_cons_zero]
    rfl
  case hqa2 => exact fun _ _ _ h => h
  case hya2 => exact Or.inl ⟨by kernel_rfl, fun w hSw => by obtain ⟨s0, s1, s2, s3⟩ := hSw; go_simp⟩
  try simp only [Act.put, List.setIfInBounds_toArray, List.set_cons_zero, List.set_cons_succ]
  refine wpAnyH_ready (rs := [3]) (by kernel_rfl) (by simp) ?_
  refine (AllReadyH.cons (o := ?ooa3) ?hoa3 (fun K hK => ?hka3) AllReadyH.nil)
  case hoa3 =>
    simp only [List.getElem?_toArray, List.getElem?_cons_succ, List.getElem?_cons_zero]
    rfl
  case hka3 =>
    go_simp
    go_at_call 10
    refine (hsa w7.drew (Below.drew (Below.refl _ _))).mono ?_
    rintro e x1 ⟨y1, rfl, oy, bq⟩
    have X1 : Hid (Below w7.heap.size w7 x1) := Below.trans (Below.drew (Below.refl _ _)) bq
    have RY : Hid (Reads2 x1 y1 n (ints X)) := by obtain ⟨m, hm, hr⟩ := oy.ex; obtain rfl : m = n := (by have := HXN.out; omega); exact reads2_own hr
    clear bq oy
    try go_wp2_with fail
    refine hK.out _ _ (HS.out _ X1.out) (fun hHeld => ?_)
    clear hK K
    try simp only [Act.put, List.setIfInBounds_toArray, List.set_cons_zero, List.set_cons_succ]
    refine wpAnyH_ready (rs := [4]) (by kernel_rfl) (by simp) ?_
    refine (AllReadyH.cons (o := ?ooa4) ?hoa4 (fun K hK => ?hka4) AllReadyH.nil)
    case hoa4 =>
      simp only [List.getElem?_toArray, List.getElem?_cons_succ, List.getElem?_cons_zero]
      rfl
    case hka4 =>
      go_simp
      go_at_call 9
      refine (likePlaces n X _ y1 x1 HXN.out (by omega) (reads2_belowC RL.out X1.out) RY.out).mono ?_
      rintro e x2 ⟨rfl, bq⟩
      have X2 : Hid (Below w7.heap.size w7 x2) := low_stepC X1.out bq
      clear bq RY
      try go_wp2_with fail
      refine hK.out _ _ (HS.out _ X2.out) (fun hHeld => ?_)
      clear hK K
      try simp only [Act.put, List.setIfInBounds_toArray, List.set_cons_zero, List.set_cons_succ]
      refine wpAnyH_take (i := 5) (oi := ?oia5) (v := .bool false) ?hia5 (by kernel_rfl) (by kernel_rfl) (by kernel_rfl) ?hqa5 ?hya5 hHeld ?hra5
      case hia5 =>
        simp only [List.getElem?_toArray, List.getElem?_cons_succ, List.getElem?_cons_zero]
        rfl
      case hqa5 => exact fun _ _ _ h => h
      case hya5 => exact Or.inl ⟨by kernel_rfl, fun w hSw => by go_simp⟩
      try simp only [Act.put, List.setIfInBounds_toArray, List.set_cons_zero, List.set_cons_succ]
      refine wpAnyH_take (i := 6) (oi := ?oia6) (v := .bool false) ?hia6 (by kernel_rfl) (by kernel_rfl) (by kernel_rfl) ?hqa6 ?hya6 hHeld ?hra6
      case hia6 =>
        simp only [List.getElem?_toArray, List.getElem?_cons_succ, List.getElem?_cons_zero]
        rfl
      case hqa6 => exact fun _ _ _ h => h
      case hya6 => exact Or.inl ⟨by kernel_rfl, fun w hSw => by go_simp⟩
      try simp only [Act.put, List.setIfInBounds_toArray, List.set_cons_zero, List.set_cons_succ]
      refine wpAnyH_take (i := 7) (oi := ?oia7) (v := .agg #[.slice ca cn cc]) ?hia7 (by kernel_rfl) (by kernel_rfl) (by kernel_rfl) ?hqa7 ?hya7 hHeld ?hra7
      case hia7 =>
        simp only [List.getElem?_toArray, List.getElem?_cons_succ, List.getElem?_cons_zero]
        rfl
      case hqa7 => exact fun _ _ _ h => h
      case hya7 => exact Or.inl ⟨by kernel_rfl, fun w hSw => by obtain ⟨s0, s1, s2, s3⟩ := hSw; go_simp⟩
      try simp only [Act.put, List.setIfInBounds_toArray, List.set_cons_zero, List.set_cons_succ]
      refine wpAnyH_take (i := 8) (oi := ?oia8) (v := .agg #[.slice pa pn pc]) ?hia8 (by kernel_rfl) (by kernel_rfl) (by kernel_rfl) ?hqa8 ?hya8 hHeld ?hra8
      case hia8 =>
        simp only [List.getElem?_toArray, List.getElem?_cons_succ, List.getElem?_cons_zero]
        rfl
      case hqa8 => exact fun _ _ _ h => h
      case hya8 => exact Or.inl ⟨by kernel_rfl, fun w hSw => by obtain ⟨s0, s1, s2, s3⟩ := hSw; go_simp⟩
      try simp only [Act.put, List.setIfInBounds_toArray, List.set_cons_zero, List.set_cons_succ]
      refine wpAnyH_take (i := 9) (oi := ?oia9) (v := .int .i64 i0) ?hia9 (by kernel_rfl) (by kernel_rfl) (by kernel_rfl) ?hqa9 ?hya9 hHeld ?hra9
      case hia9 =>
        simp only [List.getElem?_toArray, List.getElem?_cons_succ, List.getElem?_cons_zero]
        rfl
      case hqa9 => exact fun _ _ _ h => h
      case hya9 => exact Or.inl ⟨by kernel_rfl, fun w hSw => by go_simp⟩
      try simp only [Act.put, List.setIfInBounds_toArray, List.set_cons_zero, List.set_cons_succ]
      refine wpAnyH_ready (rs := [10]) (by kernel_rfl) (by simp) ?_
      refine (AllReadyH.cons (o := ?ooa10) ?hoa10 (fun K hK => ?hka10) AllReadyH.nil)
      case hoa10 =>
        simp only [List.getElem?_toArray, List.getElem?_cons_succ, List.getElem?_cons_zero]
        rfl
      case hka10 =>
        go_simp
        go_at_call 12
        refine (hsc x2 X2.out).mono ?_
        rintro e x3 ⟨uz, zus, rfl, oz, bq⟩
        have X3 : Hid (Below w7.heap.size w7 x3) := low_stepC X2.out bq
        obtain ⟨za, zn, zc, rfl⟩ := own_slice oz.row
        have RZ : Hid (ReadsP x3 (.slice za zn zc) Q) := readsP_own oz.ownP
        clear bq oz
        try go_wp2_with fail
        refine hK.out _ _ (HS.out _ X3.out) (fun hHeld => ?_)
        clear hK K
        try simp only [Act.put, List.setIfInBounds_toArray, List.set_cons_zero, List.set_cons_succ]
        refine wpAnyH_ready (rs := [11]) (by kernel_rfl) (by simp) ?_
        refine (AllReadyH.cons (o := ?ooa11) ?hoa11 (fun K hK => ?hka11) AllReadyH.nil)
        case hoa11 =>
          simp only [List.getElem?_toArray, List.getElem?_cons_succ, List.getElem?_cons_zero]
          rfl
        case hka11 =>
          go_simp
          go_at_call 11
          refine (likeProgram Q (.slice ca cn cc) (.slice za zn zc) x3 HQL.out.1 HQL.out.2 (readsP_below RQ.out X3.out) RZ.out).mono ?_
          rintro e x4 ⟨rfl, bq⟩
          have X4 : Hid (Below w7.heap.size w7 x4) := low_stepC X3.out bq
          clear bq RZ
          try go_wp2_with fail
          refine hK.out _ _ (HS.out _ X4.out) (fun hHeld => ?_)
          clear hK K
          try simp only [Act.put, List.setIfInBounds_toArray, List.set_cons_zero, List.set_cons_succ]
          refine wpAnyH_take (i := 12) (oi := ?oia12) (v := .bool false) ?hia12 (by kernel_rfl) (by kernel_rfl) (by kernel_rfl) ?hqa12 ?hya12 hHeld ?hra12
          case hia12 =>
            simp only [List.getElem?_toArray, List.getElem?_cons_succ, List.getElem?_cons_zero]
            rfl
          case hqa12 => exact fun _ _ _ h => h
          case hya12 => exact Or.inl ⟨by kernel_rfl, fun w hSw => by go_simp⟩
          try simp only [Act.put, List.setIfInBounds_toArray, List.set_cons_zero, List.set_cons_succ]
          refine wpAnyH_take (i := 13) (oi := ?oia13) (v := .bool false) ?hia13 (by kernel_rfl) (by kernel_rfl) (by kernel_rfl) ?hqa13 ?hya13 hHeld ?hra13
          case hia13 =>
            simp only [List.getElem?_toArray, List.getElem?_cons_succ, List.getElem?_cons_zero]
            rfl
          case hqa13 => exact fun _ _ _ h => h
          case hya13 => exact Or.inl ⟨by kernel_rfl, fun w hSw => by go_simp⟩
          try simp only [Act.put, List.setIfInBounds_toArray, List.set_cons_zero, List.set_cons_succ]
          refine wpAnyH_take (i := 14) (oi := ?oia14) (v := .bool false) ?hia14 (by kernel_rfl) (by kernel_rfl) (by kernel_rfl) ?hqa14 ?hya14 hHeld ?hra14
          case hia14 =>
            simp only [List.getElem?_toArray, List.getElem?_cons_succ, List.getElem?_cons_zero]
            rfl
          case hqa14 => exact fun _ _ _ h => h
          case hya14 => exact Or.inl ⟨by kernel_rfl, fun w hSw => by go_simp⟩
          try simp only [Act.put, List.setIfInBounds_toArray, List.set_cons_zero, List.set_cons_succ]
          refine wpAnyH_take (i := 15) (oi := ?oia15) (v := .agg #[.slice pa pn pc]) ?hia15 (by kernel_rfl) (by kernel_rfl) (by kernel_rfl) ?hqa15 ?hya15 hHeld ?hra15
          case hia15 =>
            simp only [List.getElem?_toArray, List.getElem?_cons_succ, List.getElem?_cons_zero]
            rfl
          case hqa15 => exact fun _ _ _ h => h
          case hya15 => exact Or.inl ⟨by kernel_rfl, fun w hSw => by obtain ⟨s0, s1, s2, s3⟩ := hSw; go_simp⟩
          try simp only [Act.put, List.setIfInBounds_toArray, List.set_cons_zero, List.set_cons_succ]
          refine wpAnyH_take (i := 16) (oi := ?oia16) (v := .int .i64 i0) ?hia16 (by kernel_rfl) (by kernel_rfl) (by kernel_rfl) ?hqa16 ?hya16 hHeld ?hra16
          case hia16 =>
            simp only [List.getElem?_toArray, List.getElem?_cons_succ, List.getElem?_cons_zero]
            rfl
          case hqa16 => exact fun _ _ _ h => h
          case hya16 => exact Or.inl ⟨by kernel_rfl, fun w hSw => by go_simp⟩
          try simp only [Act.put, List.setIfInBounds_toArray, List.set_cons_zero, List.set_cons_succ]
          refine wpAnyH_take (i := 18) (oi := ?oia18) (v := .agg #[.slice pa pn pc]) ?hia18 (by kernel_rfl) (by kernel_rfl) (by kernel_rfl) ?hqa18 ?hya18 hHeld ?hra18
          case hia18 =>
            simp only [List.getElem?_toArray, List.getElem?_cons_succ, List.getElem?_cons_zero]
            rfl
          case hqa18 => exact fun _ _ _ h => h
          case hya18 => exact Or.inl ⟨by kernel_rfl, fun w hSw => by obtain ⟨s0, s1, s2, s3⟩ := hSw; go_simp⟩
          try simp only [Act.put, List.setIfInBounds_toArray, List.set_cons_zero, List.set_cons_succ]
          refine wpAnyH_take (i := 19) (oi := ?oia19) (v := .int .i64 i0) ?hia19 (by kernel_rfl) (by kernel_rfl) (by kernel_rfl) ?hqa19 ?hya19 hHeld ?hra19
          case hia19 =>
            simp only [List.getElem?_toArray, List.getElem?_cons_succ, List.getElem?_cons_zero]
            rfl
          case hqa19 => exact fun _ _ _ h => h
          case hya19 => exact Or.inl ⟨by kernel_rfl, fun w hSw => by go_simp⟩
          try simp only [Act.put, List.setIfInBounds_toArray, List.set_cons_zero, List.set_cons_succ]
          refine wpAnyH_ready (rs := [17]) (by kernel_rfl) (by simp) ?_
          refine (AllReadyH.cons (o := ?ooa17) ?hoa17 (fun K hK => ?hka17) AllReadyH.nil)
          case hoa17 =>
            simp only [List.getElem?_toArray, List.getElem?_cons_succ, List.getElem?_cons_zero]
            rfl
          case hka17 =>
            go_simp
            go_at_call 13
            refine (hic x4 X4.out).mono ?_
            rintro e x5 ⟨rfl, bq⟩
            have X5 : Hid (Below w7.heap.size w7 x5) := low_stepC X4.out bq
            clear bq 
            try go_wp2_with fail
            refine hK.out _ _ (HS.out _ X5.out) (fun hHeld => ?_)
            clear hK K
            try simp only [Act.put, List.setIfInBounds_toArray, List.set_cons_zero, List.set_cons_succ]
            refine wpAnyH_ready (rs := [20]) (by kernel_rfl) (by simp) ?_
            refine (AllReadyH.cons (o := ?ooa20) ?hoa20 (fun K hK => ?hka20) AllReadyH.nil)
            case hoa20 =>
              simp only [List.getElem?_toArray, List.getElem?_cons_succ, List.getElem?_cons_zero]
              rfl
            case hka20 =>
              go_simp
              go_at_call 14
              refine (hso x5 X5.out).mono ?_
              rintro e x6 ⟨rfl, bq⟩
              have X6 : Hid (Below w7.heap.size w7 x6) := low_stepC X5.out bq
              clear bq 
              try go_wp2_with fail
              refine hK.out _ _ (HS.out _ X6.out) (fun hHeld => ?_)
              clear hK K
              try simp only [Act.put, List.setIfInBounds_toArray, List.set_cons_zero, List.set_cons_succ]
              refine wpAnyH_take (i := 21) (oi := ?oia21) (v := .bool false) ?hia21 (by kernel_rfl) (by kernel_rfl) (by kernel_rfl) ?hqa21 ?hya21 hHeld ?hra21
              case hia21 =>
                simp only [List.getElem?_toArray, List.getElem?_cons_succ, List.getElem?_cons_zero]
                rfl
              case hqa21 => exact fun _ _ _ h => h
              case hya21 => exact Or.inl ⟨by kernel_rfl, fun w hSw => by go_simp⟩
              try simp only [Act.put, List.setIfInBounds_toArray, List.set_cons_zero, List.set_cons_succ]
              refine wpAnyH_take (i := 22) (oi := ?oia22) (v := .bool false) ?hia22 (by kernel_rfl) (by kernel_rfl) (by kernel_rfl) ?hqa22 ?hya22 hHeld ?hra22
              case hia22 =>
                simp only [List.getElem?_toArray, List.getElem?_cons_succ, List.getElem?_cons_zero]
                rfl
              case hqa22 => exact fun _ _ _ h => h
              case hya22 => exact Or.inl ⟨by kernel_rfl, fun w hSw => by go_simp⟩
              try simp only [Act.put, List.setIfInBounds_toArray, List.set_cons_zero, List.set_cons_succ]
              refine wpAnyH_done (by kernel_rfl) ?_ _
              clear hsa hsc hic hso hS0 c1 c2 c3 c4
              obtain ⟨f1, hf1⟩ := tabs_all p1
              obtain ⟨f2, hf2⟩ := tabs_all p2
              have HF1 : Hid (∀ c, TabA p1 c (f1 c)) := hf1
              have HF2 : Hid (∀ c, TabA p2 c (f2 c)) := hf2
              clear hf1 hf2
              go_wp2_with fail
              go_loopw [9] (fun q wr => ∃ i : Nat, i ≤ n ∧ q = .int .i64 i ∧ Below w7.heap.size w7 wr) (fun q _ => n - (intOf q).toNat)
              case atStart => exact ⟨0, Nat.zero_le _, rfl, X6.out⟩
              case round =>
                obtain ⟨i, hil, rfl, hbr⟩ := hrel
                have HBI : Hid (Below w7.heap.size w7 wr) := hbr
                by_cases hi : i < n
                · have hi' : (i : Int) < (n : Int) := by omega
                  have hi0 : (0 : Int) ≤ (i : Int) := by omega
                  obtain ⟨n9, hn9, hq9⟩ := HP.out
                  obtain ⟨a, b, ha, hb, hq⟩ := hq9 i (by have := HXN.out; omega)
                  have HLQ : Hid (LikeQ p1 p2 a b) := hq
                  obtain ⟨ao9, cap9, e9, hrl⟩ := RL.out
                  injection e9 with q1 q2 q3
                  subst q1
                  obtain ⟨gl, ol, ela, hg1⟩ := hrl (2 * i) (.int .i64 (a : Int)) (by simp [ints, ha])
                  obtain ⟨gl9, ol9, ela9, hg2⟩ := hrl (2 * i + 1) (.int .i64 (b : Int)) (by simp [ints, hb])
                  subst ela
                  cases ela9
                  rw [Nat.mul_comm 2 i] at hg1 hg2
                  rw [← Nat.add_assoc] at hg2
                  have HG : Hid (w7.cell? ⟨gl, ol + i * 2, none⟩ = some (.int .i64 (a : Int)) ∧ w7.cell? ⟨gl, ol + i * 2 + 1, none⟩ = some (.int .i64 (b : Int))) := ⟨hg1, hg2⟩
                  clear hbr hg1 hg2 ha hb hq hq9 hrl hn9 n9 q2 q3 cap9
                  go_wp2_with fail
                  obtain ⟨wi, hwi⟩ : ∃ x, x = wr := ⟨_, rfl⟩
                  subst hwi
                  go_loopw [10] (fun q wr => ∃ c : Nat, 1 ≤ c ∧ c ≤ 3 ∧ q = .int .i64 c ∧ Below w7.heap.size w7 wr) (fun q _ => 3 - (intOf q).toNat)
                  case atStart => exact ⟨1, by omega, by omega, rfl, HBI.out⟩
                  case round =>
                    obtain ⟨c, hc1, hc3, rfl, hbr⟩ := hrel
                    have HBC : Hid (Below w7.heap.size w7 wr) := hbr
                    by_cases hc : c ≤ 2
                    · have hc' : (c : Int) ≤ 2 := by omega
                      have HCC : Hid ((c : Int) = 1 ∨ (c : Int) = 2) := by
                        show (c : Int) = 1 ∨ (c : Int) = 2
                        omega
                      obtain ⟨o1, o2, hap, hbp, _⟩ := HLQ.out
                      obtain ⟨hl1, ht1⟩ := tabs_is (HF1.out c) o1 HCC.out
                      obtain ⟨hl2, ht2⟩ := tabs_is (HF2.out c) o2 HCC.out
                      have hrow := like_tables HCC.out HLQ.out ht1 ht2
                      have h7 := (ht1.good a hap).1
                      have hA1 := HF1.out c
                      have hA2 := HF2.out c
                      obtain ⟨T1, hT1⟩ : ∃ T, f1 (c : Int) = T := ⟨_, rfl⟩
                      obtain ⟨T2, hT2⟩ : ∃ T, f2 (c : Int) = T := ⟨_, rfl⟩
                      rw [hT1] at hl1 hrow hA1 h7
                      rw [hT2] at hl2 hrow hA2
                      have haT : a < T1.length := by omega
                      have hbT : b < T2.length := by omega
                      have haT' : (a : Int) < (T1.length : Int) := by omega
                      have hbT' : (b : Int) < (T2.length : Int) := by omega
                      have ha0 : (0 : Int) ≤ (a : Int) := by omega
                      have hb0 : (0 : Int) ≤ (b : Int) := by omega
                      have e1 : T1.getD a [] = T1[a]'haT := by simp [List.getD, haT]
                      have e2 : T2.getD b [] = T2[b]'hbT := by simp [List.getD, hbT]
                      rw [e1] at hrow h7
                      rw [e2] at hrow
                      obtain ⟨xs, hx1⟩ : ∃ xs, T1[a]'haT = xs := ⟨_, rfl⟩
                      rw [hx1] at hrow h7
                      have hx2 : T2[b]'hbT = xs := hrow.symm
                      have hxl : xs.length ≤ maxLen := by rw [h7]; unfold maxLen; omega
                      have hcl1 := fun Z (hZ : Below wr.heap.size wr Z) => implTables p1 c T1 hA1 (.slice aa an ac) Z H1.out.1 H1.out.2 (readsP_below R1.out (low_stepC HBC.out hZ))
                      have hcl2 := fun Z (hZ : Below wr.heap.size wr Z) => implTables p2 c T2 hA2 (.slice ba bn bc9) Z H2.out.1 H2.out.2 (readsP_below R2.out (low_stepC HBC.out hZ))
                      have HT : Hid (∀ Z, Below wr.heap.size wr Z → Z.cell? ⟨bBA, 0, none⟩ = some (.slice aa an ac) ∧ Z.cell? ⟨bBA + 1, 0, none⟩ = some (.slice ba bn bc9) ∧ Z.cell? ⟨gl, ol + i * 2, none⟩ = some (.int .i64 (a : Int)) ∧ Z.cell? ⟨gl, ol + i * 2 + 1, none⟩ = some (.int .i64 (b : Int))) := fun Z hZ => ⟨(HS.out Z (low_stepC HBC.out hZ)).1, (HS.out Z (low_stepC HBC.out hZ)).2.1, cell_stepC HG.out.1 (low_stepC HBC.out hZ), cell_stepC HG.out.2 (low_stepC HBC.out hZ)⟩
                      have hS9 := HT.out wr (Below.refl _ _)
                      clear hbr o1 o2 hl1 ht1 hl2 ht2 hrow h7 hA1 hA2 hT1 hT2 e1 e2 hap hbp
                      go_wp2_with fail
                      refine wp_region_held_drew (S := fun Z => Z.cell? ⟨bBA, 0, none⟩ = some (.slice aa an ac) ∧ Z.cell? ⟨bBA + 1, 0, none⟩ = some (.slice ba bn bc9) ∧ Z.cell? ⟨gl, ol + i * 2, none⟩ = some (.int .i64 (a : Int)) ∧ Z.cell? ⟨gl, ol + i * 2 + 1, none⟩ = some (.int .i64 (b : Int))) (by kernel_rfl) hS9 (fun hHeld => ?_)
                      refine wpAnyH_take (i := 0) (oi := ?oiq0) (v := .agg #[.slice aa an ac]) ?hiq0 (by kernel_rfl) (by kernel_rfl) (by kernel_rfl) ?hqq0 ?hyq0 hHeld ?hrq0
                      case hiq0 =>
                        simp only [List.getElem?_toArray, List.getElem?_cons_succ, List.getElem?_cons_zero]
                        rfl
                      case hqq0 => exact fun _ _ _ h => h
                      case hyq0 => exact Or.inl ⟨by kernel_rfl, fun w hSw => by obtain ⟨s0, s1, s2, s3⟩ := hSw; go_simp⟩
                      try simp only [Act.put, List.setIfInBounds_toArray, List.set_cons_zero, List.set_cons_succ]
                      refine wpAnyH_take (i := 1) (oi := ?oiq1) (v := .int .i64 (c : Int)) ?hiq1 (by kernel_rfl) (by kernel_rfl) (by kernel_rfl) ?hqq1 ?hyq1 hHeld ?hrq1
                      case hiq1 =>
                        simp only [List.getElem?_toArray, List.getElem?_cons_succ, List.getElem?_cons_zero]
                        rfl
                      case hqq1 => exact fun _ _ _ h => h
                      case hyq1 => exact Or.inl ⟨by kernel_rfl, fun w hSw => by go_simp⟩
                      try simp only [Act.put, List.setIfInBounds_toArray, List.set_cons_zero, List.set_cons_succ]
                      refine wpAnyH_take (i := 3) (oi := ?oiq3) (v := .slice (some ⟨gl, ol, none⟩) n lc) ?hiq3 (by kernel_rfl) (by kernel_rfl) (by kernel_rfl) ?hqq3 ?hyq3 hHeld ?hrq3
                      case hiq3 =>
                        simp only [List.getElem?_toArray, List.getElem?_cons_succ, List.getElem?_cons_zero]
                        rfl
                      case hqq3 => exact fun _ _ _ h => h
                      case hyq3 => exact Or.inl ⟨by kernel_rfl, fun w hSw => by go_simp⟩
                      try simp only [Act.put, List.setIfInBounds_toArray, List.set_cons_zero, List.set_cons_succ]
                      refine wpAnyH_take (i := 4) (oi := ?oiq4) (v := .int .i64 (i : Int)) ?hiq4 (by kernel_rfl) (by kernel_rfl) (by kernel_rfl) ?hqq4 ?hyq4 hHeld ?hrq4
                      case hiq4 =>
                        simp only [List.getElem?_toArray, List.getElem?_cons_succ, List.getElem?_cons_zero]
                        rfl
                      case hqq4 => exact fun _ _ _ h => h
                      case hyq4 => exact Or.inl ⟨by kernel_rfl, fun w hSw => by go_simp⟩
                      try simp only [Act.put, List.setIfInBounds_toArray, List.set_cons_zero, List.set_cons_succ]
                      refine wpAnyH_take (i := 5) (oi := ?oiq5) (v := .pointer (some ⟨gl, ol + i * 2, none⟩)) ?hiq5 (by kernel_rfl) (by kernel_rfl) (by kernel_rfl) ?hqq5 ?hyq5 hHeld ?hrq5
                      case hiq5 =>
                        simp only [List.getElem?_toArray, List.getElem?_cons_succ, List.getElem?_cons_zero]
                        rfl
                      case hqq5 => exact fun _ _ _ h => h
                      case hyq5 => exact Or.inl ⟨by kernel_rfl, fun w hSw => by go_simp⟩
                      try simp only [Act.put, List.setIfInBounds_toArray, List.set_cons_zero, List.set_cons_succ]
                      refine wpAnyH_take (i := 6) (oi := ?oiq6) (v := .pointer (some ⟨gl, ol + i * 2, none⟩)) ?hiq6 (by kernel_rfl) (by kernel_rfl) (by kernel_rfl) ?hqq6 ?hyq6 hHeld ?hrq6
                      case hiq6 =>
                        simp only [List.getElem?_toArray, List.getElem?_cons_succ, List.getElem?_cons_zero]
                        rfl
                      case hqq6 => exact fun _ _ _ h => h
                      case hyq6 => exact Or.inl ⟨by kernel_rfl, fun w hSw => by go_simp⟩
                      try simp only [Act.put, List.setIfInBounds_toArray, List.set_cons_zero, List.set_cons_succ]
                      refine wpAnyH_take (i := 7) (oi := ?oiq7) (v := .int .i64 (a : Int)) ?hiq7 (by kernel_rfl) (by kernel_rfl) (by kernel_rfl) ?hqq7 ?hyq7 hHeld ?hrq7
                      case hiq7 =>
                        simp only [List.getElem?_toArray, List.getElem?_cons_succ, List.getElem?_cons_zero]
                        rfl
                      case hqq7 => exact fun _ _ _ h => h
                      case hyq7 => exact Or.inl ⟨by kernel_rfl, fun w hSw => by obtain ⟨s0, s1, s2, s3⟩ := hSw; go_simp⟩
                      try simp only [Act.put, List.setIfInBounds_toArray, List.set_cons_zero, List.set_cons_succ]
                      refine wpAnyH_take (i := 10) (oi := ?oiq10) (v := .agg #[.slice ba bn bc9]) ?hiq10 (by kernel_rfl) (by kernel_rfl) (by kernel_rfl) ?hqq10 ?hyq10 hHeld ?hrq10
                      case hiq10 =>
                        simp only [List.getElem?_toArray, List.getElem?_cons_succ, List.getElem?_cons_zero]
                        rfl
                      case hqq10 => exact fun _ _ _ h => h
                      case hyq10 => exact Or.inl ⟨by kernel_rfl, fun w hSw => by obtain ⟨s0, s1, s2, s3⟩ := hSw; go_simp⟩
                      try simp only [Act.put, List.setIfInBounds_toArray, List.set_cons_zero, List.set_cons_succ]
                      refine wpAnyH_take (i := 11) (oi := ?oiq11) (v := .int .i64 (c : Int)) ?hiq11 (by kernel_rfl) (by kernel_rfl) (by kernel_rfl) ?hqq11 ?hyq11 hHeld ?hrq11
                      case hiq11 =>
                        simp only [List.getElem?_toArray, List.getElem?_cons_succ, List.getElem?_cons_zero]
                        rfl
                      case hqq11 => exact fun _ _ _ h => h
                      case hyq11 => exact Or.inl ⟨by kernel_rfl, fun w hSw => by go_simp⟩
                      try simp only [Act.put, List.setIfInBounds_toArray, List.set_cons_zero, List.set_cons_succ]
                      refine wpAnyH_take (i := 13) (oi := ?oiq13) (v := .slice (some ⟨gl, ol, none⟩) n lc) ?hiq13 (by kernel_rfl) (by kernel_rfl) (by kernel_rfl) ?hqq13 ?hyq13 hHeld ?hrq13
                      case hiq13 =>
                        simp only [List.getElem?_toArray, List.getElem?_cons_succ, List.getElem?_cons_zero]
                        rfl
                      case hqq13 => exact fun _ _ _ h => h
                      case hyq13 => exact Or.inl ⟨by kernel_rfl, fun w hSw => by go_simp⟩
                      try simp only [Act.put, List.setIfInBounds_toArray, List.set_cons_zero, List.set_cons_succ]
                      refine wpAnyH_take (i := 14) (oi := ?oiq14) (v := .int .i64 (i : Int)) ?hiq14 (by kernel_rfl) (by kernel_rfl) (by kernel_rfl) ?hqq14 ?hyq14 hHeld ?hrq14
                      case hiq14 =>
                        simp only [List.getElem?_toArray, List.getElem?_cons_succ, List.getElem?_cons_zero]
                        rfl
                      case hqq14 => exact fun _ _ _ h => h
                      case hyq14 => exact Or.inl ⟨by kernel_rfl, fun w hSw => by go_simp⟩
                      try simp only [Act.put, List.setIfInBounds_toArray, List.set_cons_zero, List.set_cons_succ]
                      refine wpAnyH_take (i := 15) (oi := ?oiq15) (v := .pointer (some ⟨gl, ol + i * 2, none⟩)) ?hiq15 (by kernel_rfl) (by kernel_rfl) (by kernel_rfl) ?hqq15 ?hyq15 hHeld ?hrq15
                      case hiq15 =>
                        simp only [List.getElem?_toArray, List.getElem?_cons_succ, List.getElem?_cons_zero]
                        rfl
                      case hqq15 => exact fun _ _ _ h => h
                      case hyq15 => exact Or.inl ⟨by kernel_rfl, fun w hSw => by go_simp⟩
                      try simp only [Act.put, List.setIfInBounds_toArray, List.set_cons_zero, List.set_cons_succ]
                      refine wpAnyH_take (i := 16) (oi := ?oiq16) (v := .pointer (some ⟨gl, ol + i * 2 + 1, none⟩)) ?hiq16 (by kernel_rfl) (by kernel_rfl) (by kernel_rfl) ?hqq16 ?hyq16 hHeld ?hrq16
                      case hiq16 =>
                        simp only [List.getElem?_toArray, List.getElem?_cons_succ, List.getElem?_cons_zero]
                        rfl
                      case hqq16 => exact fun _ _ _ h => h
                      case hyq16 => exact Or.inl ⟨by kernel_rfl, fun w hSw => by go_simp⟩
                      try simp only [Act.put, List.setIfInBounds_toArray, List.set_cons_zero, List.set_cons_succ]
                      refine wpAnyH_take (i := 17) (oi := ?oiq17) (v := .int .i64 (b : Int)) ?hiq17 (by kernel_rfl) (by kernel_rfl) (by kernel_rfl) ?hqq17 ?hyq17 hHeld ?hrq17
                      case hiq17 =>
                        simp only [List.getElem?_toArray, List.getElem?_cons_succ, List.getElem?_cons_zero]
                        rfl
                      case hqq17 => exact fun _ _ _ h => h
                      case hyq17 => exact Or.inl ⟨by kernel_rfl, fun w hSw => by obtain ⟨s0, s1, s2, s3⟩ := hSw; go_simp⟩
                      try simp only [Act.put, List.setIfInBounds_toArray, List.set_cons_zero, List.set_cons_succ]
                      refine wpAnyH_ready (rs := [2]) (by kernel_rfl) (by simp) ?_
                      refine (AllReadyH.cons (o := ?ooq2) ?hoq2 (fun K hK => ?hkq2) AllReadyH.nil)
                      case hoq2 =>
                        simp only [List.getElem?_toArray, List.getElem?_cons_succ, List.getElem?_cons_zero]
                        rfl
                      case hkq2 =>
                        go_simp
                        go_at_call 16
                        refine (hcl1 wr.drew (Below.drew (Below.refl _ _))).mono ?_
                        rintro e y1a ⟨tv1p, tus1p, rfl, ot1p, _, bq⟩
                        have Y1A : Hid (Below wr.heap.size wr y1a) := Below.trans (Below.drew (Below.refl _ _)) bq
                        obtain ⟨g1p, tc1p, rfl⟩ := row_some ot1p (by omega)
                        obtain ⟨u1p, _, cu1p, ou1p⟩ := ot1p.at (j := a) haT
                        rw [hx1] at ou1p
                        have CU1p : Hid (y1a.cell? ⟨g1p, a, none⟩ = some u1p) := cu1p
                        have RU1p : Hid (Reads y1a u1p (ints xs)) := reads_own ou1p
                        clear bq ot1p ou1p
                        try go_wp2_with fail
                        refine hK.out _ _ (HT.out _ Y1A.out) (fun hHeld => ?_)
                        clear hK K
                        try simp only [Act.put, List.setIfInBounds_toArray, List.set_cons_zero, List.set_cons_succ]
                        refine wpAnyH_take (i := 8) (oi := ?oiq8) (v := .pointer (some ⟨g1p, a, none⟩)) ?hiq8 (by kernel_rfl) (by kernel_rfl) (by kernel_rfl) ?hqq8 ?hyq8 hHeld ?hrq8
                        case hiq8 =>
                          simp only [List.getElem?_toArray, List.getElem?_cons_succ, List.getElem?_cons_zero]
                          rfl
                        case hqq8 => exact fun _ _ _ h => h
                        case hyq8 => exact Or.inl ⟨by kernel_rfl, fun w hSw => by go_simp⟩
                        try simp only [Act.put, List.setIfInBounds_toArray, List.set_cons_zero, List.set_cons_succ]
                        refine wpAnyH_ready (rs := [9, 12]) (by kernel_rfl) (by simp) ?_
                        refine (AllReadyH.cons (o := ?ooq9) ?hoq9 (fun K hK => ?hkq9) (AllReadyH.cons (o := ?ooq12) ?hoq12 (fun K hK => ?hkq12) AllReadyH.nil))
                        case hoq9 =>
                          simp only [List.getElem?_toArray, List.getElem?_cons_succ, List.getElem?_cons_zero]
                          rfl
                        case hoq12 =>
                          simp only [List.getElem?_toArray, List.getElem?_cons_succ, List.getElem?_cons_zero]
                          rfl
                        case hkq9 =>
                          go_simp
                          try go_wp2_with fail
                          refine hK.out _ _ (HT.out _ Y1A.out) (fun hHeld => ?_)
                          clear hK K
                          try simp only [Act.put, List.setIfInBounds_toArray, List.set_cons_zero, List.set_cons_succ]
                          refine wpAnyH_ready (rs := [12]) (by kernel_rfl) (by simp) ?_
                          refine (AllReadyH.cons (o := ?ooqa12) ?hoqa12 (fun K hK => ?hkqa12) AllReadyH.nil)
                          case hoqa12 =>
                            simp only [List.getElem?_toArray, List.getElem?_cons_succ, List.getElem?_cons_zero]
                            rfl
                          case hkqa12 =>
                            go_simp
                            go_at_call 16
                            refine (hcl2 y1a Y1A.out).mono ?_
                            rintro e y1b ⟨tv1q, tus1q, rfl, ot1q, _, bq⟩
                            have Y1B : Hid (Below wr.heap.size wr y1b) := low_stepC Y1A.out bq
                            have BB1 : Hid (Below y1a.heap.size y1a y1b) := bq
                            have cu1p := cell_stepC CU1p.out bq
                            obtain ⟨g1q, tc1q, rfl⟩ := row_some ot1q (by omega)
                            obtain ⟨u1q, _, cu1q, ou1q⟩ := ot1q.at (j := b) hbT
                            rw [hx2] at ou1q
                            have CU1q : Hid (y1b.cell? ⟨g1q, b, none⟩ = some u1q) := cu1q
                            have RU1q : Hid (Reads y1b u1q (ints xs)) := reads_own ou1q
                            clear bq ot1q ou1q
                            try go_wp2_with fail
                            refine hK.out _ _ (HT.out _ Y1B.out) (fun hHeld => ?_)
                            clear hK K
                            try simp only [Act.put, List.setIfInBounds_toArray, List.set_cons_zero, List.set_cons_succ]
                            refine wpAnyH_take (i := 18) (oi := ?oiqa18) (v := .pointer (some ⟨g1q, b, none⟩)) ?hiqa18 (by kernel_rfl) (by kernel_rfl) (by kernel_rfl) ?hqqa18 ?hyqa18 hHeld ?hrqa18
                            case hiqa18 =>
                              simp only [List.getElem?_toArray, List.getElem?_cons_succ, List.getElem?_cons_zero]
                              rfl
                            case hqqa18 => exact fun _ _ _ h => h
                            case hyqa18 => exact Or.inl ⟨by kernel_rfl, fun w hSw => by go_simp⟩
                            try simp only [Act.put, List.setIfInBounds_toArray, List.set_cons_zero, List.set_cons_succ]
                            refine wpAnyH_ready (rs := [19]) (by kernel_rfl) (by simp) ?_
                            refine (AllReadyH.cons (o := ?ooqa19) ?hoqa19 (fun K hK => ?hkqa19) AllReadyH.nil)
                            case hoqa19 =>
                              simp only [List.getElem?_toArray, List.getElem?_cons_succ, List.getElem?_cons_zero]
                              rfl
                            case hkqa19 =>
                              go_simp
                              try go_wp2_with fail
                              refine hK.out _ _ (HT.out _ Y1B.out) (fun hHeld => ?_)
                              clear hK K
                              try simp only [Act.put, List.setIfInBounds_toArray, List.set_cons_zero, List.set_cons_succ]
                              refine wpAnyH_ready (rs := [20]) (by kernel_rfl) (by simp) ?_
                              refine (AllReadyH.cons (o := ?ooqa20) ?hoqa20 (fun K hK => ?hkqa20) AllReadyH.nil)
                              case hoqa20 =>
                                simp only [List.getElem?_toArray, List.getElem?_cons_succ, List.getElem?_cons_zero]
                                rfl
                              case hkqa20 =>
                                go_simp
                                go_at_call 15
                                refine (likeInts xs u1p u1q y1b hxl (reads_below RU1p.out BB1.out) RU1q.out).mono ?_
                                rintro e y1c ⟨rfl, bq⟩
                                have Y1C : Hid (Below wr.heap.size wr y1c) := low_stepC Y1B.out bq
                                clear bq RU1p RU1q
                                try go_wp2_with fail
                                refine hK.out _ _ (HT.out _ Y1C.out) (fun hHeld => ?_)
                                clear hK K
                                try simp only [Act.put, List.setIfInBounds_toArray, List.set_cons_zero, List.set_cons_succ]
                                refine wpAnyH_take (i := 21) (oi := ?oiqa21) (v := .bool false) ?hiqa21 (by kernel_rfl) (by kernel_rfl) (by kernel_rfl) ?hqqa21 ?hyqa21 hHeld ?hrqa21
                                case hiqa21 =>
                                  simp only [List.getElem?_toArray, List.getElem?_cons_succ, List.getElem?_cons_zero]
                                  rfl
                                case hqqa21 => exact fun _ _ _ h => h
                                case hyqa21 => exact Or.inl ⟨by kernel_rfl, fun w hSw => by go_simp⟩
                                try simp only [Act.put, List.setIfInBounds_toArray, List.set_cons_zero, List.set_cons_succ]
                                refine wpAnyH_done (by kernel_rfl) ?_ _
                                have HBE : Hid (Below w7.heap.size w7 y1c) := low_stepC HBC.out Y1C.out
                                clear hS9 hcl1 hcl2
                                go_wp2
                                go_roundw
                                case rel => exact ⟨c + 1, by omega, by omega, by go_num, HBE.out⟩
                                case measure => simp [intOf]; omega
                        case hkq12 =>
                          go_simp
                          go_at_call 16
                          refine (hcl2 y1a Y1A.out).mono ?_
                          rintro e y1b ⟨tv1q, tus1q, rfl, ot1q, _, bq⟩
                          have Y1B : Hid (Below wr.heap.size wr y1b) := low_stepC Y1A.out bq
                          have BB1 : Hid (Below y1a.heap.size y1a y1b) := bq
                          have cu1p := cell_stepC CU1p.out bq
                          obtain ⟨g1q, tc1q, rfl⟩ := row_some ot1q (by omega)
                          obtain ⟨u1q, _, cu1q, ou1q⟩ := ot1q.at (j := b) hbT
                          rw [hx2] at ou1q
                          have CU1q : Hid (y1b.cell? ⟨g1q, b, none⟩ = some u1q) := cu1q
                          have RU1q : Hid (Reads y1b u1q (ints xs)) := reads_own ou1q
                          clear bq ot1q ou1q
                          try go_wp2_with fail
                          refine hK.out _ _ (HT.out _ Y1B.out) (fun hHeld => ?_)
                          clear hK K
                          try simp only [Act.put, List.setIfInBounds_toArray, List.set_cons_zero, List.set_cons_succ]
                          refine wpAnyH_take (i := 18) (oi := ?oiqb18) (v := .pointer (some ⟨g1q, b, none⟩)) ?hiqb18 (by kernel_rfl) (by kernel_rfl) (by kernel_rfl) ?hqqb18 ?hyqb18 hHeld ?hrqb18
                          case hiqb18 =>
                            simp only [List.getElem?_toArray, List.getElem?_cons_succ, List.getElem?_cons_zero]
                            rfl
                          case hqqb18 => exact fun _ _ _ h => h
                          case hyqb18 => exact Or.inl ⟨by kernel_rfl, fun w hSw => by go_simp⟩
                          try simp only [Act.put, List.setIfInBounds_toArray, List.set_cons_zero, List.set_cons_succ]
                          refine wpAnyH_ready (rs := [9, 19]) (by kernel_rfl) (by simp) ?_
                          refine (AllReadyH.cons (o := ?ooqb9) ?hoqb9 (fun K hK => ?hkqb9) (AllReadyH.cons (o := ?ooqb19) ?hoqb19 (fun K hK => ?hkqb19) AllReadyH.nil))
                          case hoqb9 =>
                            simp only [List.getElem?_toArray, List.getElem?_cons_succ, List.getElem?_cons_zero]
                            rfl
                          case hoqb19 =>
                            simp only [List.getElem?_toArray, List.getElem?_cons_succ, List.getElem?_cons_zero]
                            rfl
                          case hkqb9 =>
                            go_simp
                            try go_wp2_with fail
                            refine hK.out _ _ (HT.out _ Y1B.out) (fun hHeld => ?_)
                            clear hK K
                            try simp only [Act.put, List.setIfInBounds_toArray, List.set_cons_zero, List.set_cons_succ]
                            refine wpAnyH_ready (rs := [19]) (by kernel_rfl) (by simp) ?_
                            refine (AllReadyH.cons (o := ?ooqba19) ?hoqba19 (fun K hK => ?hkqba19) AllReadyH.nil)
                            case hoqba19 =>
                              simp only [List.getElem?_toArray, List.getElem?_cons_succ, List.getElem?_cons_zero]
                              rfl
                            case hkqba19 =>
                              go_simp
                              try go_wp2_with fail
                              refine hK.out _ _ (HT.out _ Y1B.out) (fun hHeld => ?_)
                              clear hK K
                              try simp only [Act.put, List.setIfInBounds_toArray, List.set_cons_zero, List.set_cons_succ]
                              refine wpAnyH_ready (rs := [20]) (by kernel_rfl) (by simp) ?_
                              refine (AllReadyH.cons (o := ?ooqba20) ?hoqba20 (fun K hK => ?hkqba20) AllReadyH.nil)
                              case hoqba20 =>
                                simp only [List.getElem?_toArray, List.getElem?_cons_succ, List.getElem?_cons_zero]
                                rfl
                              case hkqba20 =>
                                go_simp
                                go_at_call 15
                                refine (likeInts xs u1p u1q y1b hxl (reads_below RU1p.out BB1.out) RU1q.out).mono ?_
                                rintro e y1c ⟨rfl, bq⟩
                                have Y1C : Hid (Below wr.heap.size wr y1c) := low_stepC Y1B.out bq
                                clear bq RU1p RU1q
                                try go_wp2_with fail
                                refine hK.out _ _ (HT.out _ Y1C.out) (fun hHeld => ?_)
                                clear hK K
                                try simp only [Act.put, List.setIfInBounds_toArray, List.set_cons_zero, List.set_cons_succ]
                                refine wpAnyH_take (i := 21) (oi := ?oiqba21) (v := .bool false) ?hiqba21 (by kernel_rfl) (by kernel_rfl) (by kernel_rfl) ?hqqba21 ?hyqba21 hHeld ?hrqba21
                                case hiqba21 =>
                                  simp only [List.getElem?_toArray, List.getElem?_cons_succ, List.getElem?_cons_zero]
                                  rfl
                                case hqqba21 => exact fun _ _ _ h => h
                                case hyqba21 => exact Or.inl ⟨by kernel_rfl, fun w hSw => by go_simp⟩
                                try simp only [Act.put, List.setIfInBounds_toArray, List.set_cons_zero, List.set_cons_succ]
                                refine wpAnyH_done (by kernel_rfl) ?_ _
                                have HBE : Hid (Below w7.heap.size w7 y1c) := low_stepC HBC.out Y1C.out
                                clear hS9 hcl1 hcl2
                                go_wp2
                                go_roundw
                                case rel => exact ⟨c + 1, by omega, by omega, by go_num, HBE.out⟩
                                case measure => simp [intOf]; omega
                          case hkqb19 =>
                            go_simp
                            try go_wp2_with fail
                            refine hK.out _ _ (HT.out _ Y1B.out) (fun hHeld => ?_)
                            clear hK K
                            try simp only [Act.put, List.setIfInBounds_toArray, List.set_cons_zero, List.set_cons_succ]
                            refine wpAnyH_ready (rs := [9]) (by kernel_rfl) (by simp) ?_
                            refine (AllReadyH.cons (o := ?ooqbb9) ?hoqbb9 (fun K hK => ?hkqbb9) AllReadyH.nil)
                            case hoqbb9 =>
                              simp only [List.getElem?_toArray, List.getElem?_cons_succ, List.getElem?_cons_zero]
                              rfl
                            case hkqbb9 =>
                              go_simp
                              try go_wp2_with fail
                              refine hK.out _ _ (HT.out _ Y1B.out) (fun hHeld => ?_)
                              clear hK K
                              try simp only [Act.put, List.setIfInBounds_toArray, List.set_cons_zero, List.set_cons_succ]
                              refine wpAnyH_ready (rs := [20]) (by kernel_rfl) (by simp) ?_
                              refine (AllReadyH.cons (o := ?ooqbb20) ?hoqbb20 (fun K hK => ?hkqbb20) AllReadyH.nil)
                              case hoqbb20 =>
                                simp only [List.getElem?_toArray, List.getElem?_cons_succ, List.getElem?_cons_zero]
                                rfl
                              case hkqbb20 =>
                                go_simp
                                go_at_call 15
                                refine (likeInts xs u1p u1q y1b hxl (reads_below RU1p.out BB1.out) RU1q.out).mono ?_
                                rintro e y1c ⟨rfl, bq⟩
                                have Y1C : Hid (Below wr.heap.size wr y1c) := low_stepC Y1B.out bq
                                clear bq RU1p RU1q
                                try go_wp2_with fail
                                refine hK.out _ _ (HT.out _ Y1C.out) (fun hHeld => ?_)
                                clear hK K
                                try simp only [Act.put, List.setIfInBounds_toArray, List.set_cons_zero, List.set_cons_succ]
                                refine wpAnyH_take (i := 21) (oi := ?oiqbb21) (v := .bool false) ?hiqbb21 (by kernel_rfl) (by kernel_rfl) (by kernel_rfl) ?hqqbb21 ?hyqbb21 hHeld ?hrqbb21
                                case hiqbb21 =>
                                  simp only [List.getElem?_toArray, List.getElem?_cons_succ, List.getElem?_cons_zero]
                                  rfl
                                case hqqbb21 => exact fun _ _ _ h => h
                                case hyqbb21 => exact Or.inl ⟨by kernel_rfl, fun w hSw => by go_simp⟩
                                try simp only [Act.put, List.setIfInBounds_toArray, List.set_cons_zero, List.set_cons_succ]
                                refine wpAnyH_done (by kernel_rfl) ?_ _
                                have HBE : Hid (Below w7.heap.size w7 y1c) := low_stepC HBC.out Y1C.out
                                clear hS9 hcl1 hcl2
                                go_wp2
                                go_roundw
                                case rel => exact ⟨c + 1, by omega, by omega, by go_num, HBE.out⟩
                                case measure => simp [intOf]; omega
                    · have hcn3 : ¬ (c : Int) ≤ 2 := by omega
                      clear hbr
                      go_wp2
                      go_roundw
                      case rel => exact ⟨i + 1, by omega, by go_num, HBC.out⟩
                      case measure => simp [intOf]; omega
                · have hni : ¬ (i : Int) < (n : Int) := by omega
                  have LOWr : Hid (Below w.heap.size w wr) := low_stepC LOW.out hbr
                  have HT : Hid (∀ Z, Below wr.heap.size wr Z → Z.cell? ⟨bBP, 0, none⟩ = some (.slice pa pn pc) ∧ Z.cell? ⟨bBC, 0, none⟩ = some (.slice ca cn cc)) := fun Z hZ => ⟨(HS.out Z (low_stepC HBI.out hZ)).2.2.1, (HS.out Z (low_stepC HBI.out hZ)).2.2.2⟩
                  have hS9 := HT.out wr (Below.refl _ _)
                  have hcp := fun Z (hZ : Below wr.heap.size wr Z) => HIC.out Z (low_stepC HBI.out hZ)
                  have RQr : Hid (ReadsP wr (.slice ca cn cc) Q) := readsP_below RQ.out hbr
                  have RPr : Hid (ReadsP wr (.slice pa pn pc) ps) := readsP_below RP.out hbr
                  clear hbr f1 f2 HF1 HF2
                  obtain ⟨s0, s1⟩ := id hS9
                  cases hb : hasB ps i0 with
                  | false =>
                    have hQ0 : Q = [] := by have := HQ.out; unfold cloA at this; rw [hb] at this; simpa using this.symm
                    have hcn0 : (cn : Int) = 0 := by have := HCN.out; rw [hQ0] at this; simp at this; omega
                    have hsx0 : sx = ⟨#[]⟩ := by have := HSX.out; rw [conA_no hb] at this; exact this.symm
                    clear hQ0 hb
                    subst hsx0
                    go_wp2_with fail
                    go_at_call 13
                    refine (hcp _ (Below.refl _ _)).mono ?_
                    rintro e v1 ⟨rfl, bq⟩
                    have HBE : Hid (Below w.heap.size w v1) := low_stepC LOWr.out bq
                    clear bq hcp s0 s1 hS9
                    go_wp2
                    go_ret
                    exact ⟨rfl, HBE.out⟩
                  | true =>
                    obtain ⟨hpok, j, hj, hij, _⟩ := hasB_true hb
                    subst hij
                    have hQok : programOk Q = true := by rw [← HQ.out, cloA_yes hb]; exact cloA_ok hb
                    have hQ1 : 1 ≤ Q.length := by
                      have := hQok
                      unfold programOk at this
                      simp only [Bool.and_eq_true, decide_eq_true_eq] at this
                      omega
                    have hcn0 : ¬ (cn : Int) = 0 := by have := HCN.out; omega
                    have hQm : Q.length ≤ maxLen ∧ ∀ p ∈ Q, p.length ≤ maxLen := ⟨by have := HQL.out.1; unfold maxLen; omega, fun p hp => by have := HQL.out.2 p hp; unfold maxLen; omega⟩
                    have HQM : Hid (Q.length ≤ maxLen ∧ ∀ p ∈ Q, p.length ≤ maxLen) := hQm
                    have hQQ : cloA Q 0 = Q := by rw [← HQ.out]; exact cloA_twice hb
                    have hpk := fun Z (hZ : Below wr.heap.size wr Z) => implProgramOk Q (.slice ca cn cc) Z HQM.out.1 HQM.out.2 (readsP_below RQr.out hZ)
                    have hcl := fun Z (hZ : Below wr.heap.size wr Z) => implClosure Q 0 (.slice ca cn cc) Z HQM.out.1 HQM.out.2 (readsP_below RQr.out hZ)
                    have hcq := fun Z (hZ : Below wr.heap.size wr Z) => implContent Q 0 (.slice ca cn cc) Z HQM.out.1 HQM.out.2 (readsP_below RQr.out hZ)
                    rw [hQok] at hpk
                    rw [hQQ] at hcl
                    have hcon : conA Q 0 = conA ps (j : Int) := by unfold conA; rw [hQQ, HQ.out]
                    have hsx9 : (⟨(conA ps (j : Int)).toArray⟩ : ByteArray) = sx := HSX.out
                    rw [hcon, hsx9] at hcq
                    obtain ⟨A, hA, _⟩ := reachA_some ps (j : Int)
                    have hAl : A.length = Q.length := by rw [← ord14_reach hb (by simpa using hA.1 hb), ← HQ.out, cloA_yes hb, clo14_lenM]
                    have hAL : A.length = cn := by have := HCN.out; omega
                    have hrc := fun Z (hZ : Below wr.heap.size wr Z) => implReach ps (j : Int) A hA (.slice pa pn pc) Z HL.out.1 HL.out.2 (readsP_below RPr.out hZ)
                    obtain ⟨f1, hf1⟩ := tabs_all ps
                    obtain ⟨f2, hf2⟩ := tabs_all Q
                    obtain ⟨ol1, ot1⟩ := tabs_is (hf1 1) hpok (.inl rfl)
                    obtain ⟨ol2, ot2⟩ := tabs_is (hf1 2) hpok (.inr rfl)
                    obtain ⟨ol3, ot3⟩ := tabs_is (hf2 1) hQok (.inl rfl)
                    obtain ⟨ol4, ot4⟩ := tabs_is (hf2 2) hQok (.inr rfl)
                    have hw1 := table_clo (.inl rfl) hb ot1 (by rw [HQ.out]; exact ot3)
                    have hw2 := table_clo (.inr rfl) hb ot2 (by rw [HQ.out]; exact ot4)
                    rw [Int.toNat_natCast] at hw1 hw2
                    have g1 := (ot1.good j hj).1
                    have g2 := (ot2.good j hj).1
                    have k1 := hf1 1
                    have k2 := hf1 2
                    have k3 := hf2 1
                    have k4 := hf2 2
                    obtain ⟨T1, hT1⟩ : ∃ T, f1 1 = T := ⟨_, rfl⟩
                    obtain ⟨T2, hT2⟩ : ∃ T, f1 2 = T := ⟨_, rfl⟩
                    obtain ⟨U1, hU1⟩ : ∃ T, f2 1 = T := ⟨_, rfl⟩
                    obtain ⟨U2, hU2⟩ : ∃ T, f2 2 = T := ⟨_, rfl⟩
                    rw [hT1] at ol1 hw1 g1 k1
                    rw [hT2] at ol2 hw2 g2 k2
                    rw [hU1] at ol3 hw1 k3
                    rw [hU2] at ol4 hw2 k4
                    clear hT1 hT2 hU1 hU2 ot1 ot2 ot3 ot4 hf1 hf2
                    have hT1 : j < T1.length := by omega
                    have hT2 : j < T2.length := by omega
                    have hU1 : 0 < U1.length := by omega
                    have hU2 : 0 < U2.length := by omega
                    have e1 : T1.getD j [] = T1[j]'hT1 := by simp [List.getD, hT1]
                    have e2 : T2.getD j [] = T2[j]'hT2 := by simp [List.getD, hT2]
                    have e3 : U1.getD 0 [] = U1[0]'hU1 := by simp [List.getD, hU1]
                    have e4 : U2.getD 0 [] = U2[0]'hU2 := by simp [List.getD, hU2]
                    rw [e1] at hw1 g1
                    rw [e2] at hw2 g2
                    rw [e3] at hw1
                    rw [e4] at hw2
                    obtain ⟨ns, ho2⟩ : ∃ xs, T1[j]'hT1 = xs := ⟨_, rfl⟩
                    obtain ⟨os, ho4⟩ : ∃ xs, T2[j]'hT2 = xs := ⟨_, rfl⟩
                    rw [ho2] at hw1 g1
                    rw [ho4] at hw2 g2
                    have HTT : Hid (TabA ps 1 T1 ∧ TabA ps 2 T2 ∧ TabA Q 1 U1 ∧ TabA Q 2 U2 ∧ ns.length ≤ maxLen ∧ os.length ≤ maxLen) := ⟨k1, k2, k3, k4, by rw [g1]; unfold maxLen; omega, by rw [g2]; unfold maxLen; omega⟩
                    clear e1 e2 e3 e4 g1 g2 k1 k2 k3 k4 ol1 ol2 ol3 ol4 hQ1 hQm hQQ hcon hsx9 hA hAl
                    have hTj1 : (j : Int) < (T1.length : Int) := by omega
                    have hTj2 : (j : Int) < (T2.length : Int) := by omega
                    have hUj1 : (0 : Int) < (U1.length : Int) := by omega
                    have hUj2 : (0 : Int) < (U2.length : Int) := by omega
                    have hj0 : (0 : Int) ≤ (j : Int) := by omega
                    go_wp2_with fail
                    refine wp_region_held_drew (S := fun Z => Z.cell? ⟨bBP, 0, none⟩ = some (.slice pa pn pc) ∧ Z.cell? ⟨bBC, 0, none⟩ = some (.slice ca cn cc)) (by kernel_rfl) hS9 (fun hHeld => ?_)
                    refine wpAnyH_take (i := 0) (oi := ?oiu0) (v := .agg #[.slice ca cn cc]) ?hiu0 (by kernel_rfl) (by kernel_rfl) (by kernel_rfl) ?hqu0 ?hyu0 hHeld ?hru0
                    case hiu0 =>
                      simp only [List.getElem?_toArray, List.getElem?_cons_succ, List.getElem?_cons_zero]
                      rfl
                    case hqu0 => exact fun _ _ _ h => h
                    case hyu0 => exact Or.inl ⟨by kernel_rfl, fun w hSw => by obtain ⟨s0, s1⟩ := hSw; go_simp⟩
                    try simp only [Act.put, List.setIfInBounds_toArray, List.set_cons_zero, List.set_cons_succ]
                    refine wpAnyH_ready (rs := [1]) (by kernel_rfl) (by simp) ?_
                    refine (AllReadyH.cons (o := ?oou1) ?hou1 (fun K hK => ?hku1) AllReadyH.nil)
                    case hou1 =>
                      simp only [List.getElem?_toArray, List.getElem?_cons_succ, List.getElem?_cons_zero]
                      rfl
                    case hku1 =>
                      go_simp
                      go_at_call 17
                      refine (hpk wr.drew (Below.drew (Below.refl _ _))).mono ?_
                      rintro e v1 ⟨rfl, bq⟩
                      have V1 : Hid (Below wr.heap.size wr v1) := Below.trans (Below.drew (Below.refl _ _)) bq
                      clear bq 
                      try go_wp2_with fail
                      refine hK.out _ _ (HT.out _ V1.out) (fun hHeld => ?_)
                      clear hK K
                      try simp only [Act.put, List.setIfInBounds_toArray, List.set_cons_zero, List.set_cons_succ]
                      refine wpAnyH_take (i := 2) (oi := ?oiu2) (v := .bool false) ?hiu2 (by kernel_rfl) (by kernel_rfl) (by kernel_rfl) ?hqu2 ?hyu2 hHeld ?hru2
                      case hiu2 =>
                        simp only [List.getElem?_toArray, List.getElem?_cons_succ, List.getElem?_cons_zero]
                        rfl
                      case hqu2 => exact fun _ _ _ h => h
                      case hyu2 => exact Or.inl ⟨by kernel_rfl, fun w hSw => by go_simp⟩
                      try simp only [Act.put, List.setIfInBounds_toArray, List.set_cons_zero, List.set_cons_succ]
                      refine wpAnyH_take (i := 3) (oi := ?oiu3) (v := .bool false) ?hiu3 (by kernel_rfl) (by kernel_rfl) (by kernel_rfl) ?hqu3 ?hyu3 hHeld ?hru3
                      case hiu3 =>
                        simp only [List.getElem?_toArray, List.getElem?_cons_succ, List.getElem?_cons_zero]
                        rfl
                      case hqu3 => exact fun _ _ _ h => h
                      case hyu3 => exact Or.inl ⟨by kernel_rfl, fun w hSw => by go_simp⟩
                      try simp only [Act.put, List.setIfInBounds_toArray, List.set_cons_zero, List.set_cons_succ]
                      refine wpAnyH_take (i := 4) (oi := ?oiu4) (v := .agg #[.slice ca cn cc]) ?hiu4 (by kernel_rfl) (by kernel_rfl) (by kernel_rfl) ?hqu4 ?hyu4 hHeld ?hru4
                      case hiu4 =>
                        simp only [List.getElem?_toArray, List.getElem?_cons_succ, List.getElem?_cons_zero]
                        rfl
                      case hqu4 => exact fun _ _ _ h => h
                      case hyu4 => exact Or.inl ⟨by kernel_rfl, fun w hSw => by obtain ⟨s0, s1⟩ := hSw; go_simp⟩
                      try simp only [Act.put, List.setIfInBounds_toArray, List.set_cons_zero, List.set_cons_succ]
                      refine wpAnyH_take (i := 6) (oi := ?oiu6) (v := .agg #[.slice ca cn cc]) ?hiu6 (by kernel_rfl) (by kernel_rfl) (by kernel_rfl) ?hqu6 ?hyu6 hHeld ?hru6
                      case hiu6 =>
                        simp only [List.getElem?_toArray, List.getElem?_cons_succ, List.getElem?_cons_zero]
                        rfl
                      case hqu6 => exact fun _ _ _ h => h
                      case hyu6 => exact Or.inl ⟨by kernel_rfl, fun w hSw => by obtain ⟨s0, s1⟩ := hSw; go_simp⟩
                      try simp only [Act.put, List.setIfInBounds_toArray, List.set_cons_zero, List.set_cons_succ]
                      refine wpAnyH_ready (rs := [5]) (by kernel_rfl) (by simp) ?_
                      refine (AllReadyH.cons (o := ?oou5) ?hou5 (fun K hK => ?hku5) AllReadyH.nil)
                      case hou5 =>
                        simp only [List.getElem?_toArray, List.getElem?_cons_succ, List.getElem?_cons_zero]
                        rfl
                      case hku5 =>
                        go_simp
                        go_at_call 8
                        refine (hcl v1 V1.out).mono ?_
                        rintro e v2 ⟨uz, zus, rfl, oz, bq⟩
                        have V2 : Hid (Below wr.heap.size wr v2) := low_stepC V1.out bq
                        obtain ⟨za, zn, zc, rfl⟩ := own_slice oz.row
                        have RZ : Hid (ReadsP v2 (.slice za zn zc) Q) := readsP_own oz.ownP
                        clear bq oz
                        try go_wp2_with fail
                        refine hK.out _ _ (HT.out _ V2.out) (fun hHeld => ?_)
                        clear hK K
                        try simp only [Act.put, List.setIfInBounds_toArray, List.set_cons_zero, List.set_cons_succ]
                        refine wpAnyH_ready (rs := [7]) (by kernel_rfl) (by simp) ?_
                        refine (AllReadyH.cons (o := ?oou7) ?hou7 (fun K hK => ?hku7) AllReadyH.nil)
                        case hou7 =>
                          simp only [List.getElem?_toArray, List.getElem?_cons_succ, List.getElem?_cons_zero]
                          rfl
                        case hku7 =>
                          go_simp
                          go_at_call 11
                          refine (likeProgram Q (.slice za zn zc) (.slice ca cn cc) v2 HQL.out.1 HQL.out.2 RZ.out (readsP_below RQr.out V2.out)).mono ?_
                          rintro e v3 ⟨rfl, bq⟩
                          have V3 : Hid (Below wr.heap.size wr v3) := low_stepC V2.out bq
                          clear bq RZ
                          try go_wp2_with fail
                          refine hK.out _ _ (HT.out _ V3.out) (fun hHeld => ?_)
                          clear hK K
                          try simp only [Act.put, List.setIfInBounds_toArray, List.set_cons_zero, List.set_cons_succ]
                          refine wpAnyH_take (i := 8) (oi := ?oiu8) (v := .bool false) ?hiu8 (by kernel_rfl) (by kernel_rfl) (by kernel_rfl) ?hqu8 ?hyu8 hHeld ?hru8
                          case hiu8 =>
                            simp only [List.getElem?_toArray, List.getElem?_cons_succ, List.getElem?_cons_zero]
                            rfl
                          case hqu8 => exact fun _ _ _ h => h
                          case hyu8 => exact Or.inl ⟨by kernel_rfl, fun w hSw => by go_simp⟩
                          try simp only [Act.put, List.setIfInBounds_toArray, List.set_cons_zero, List.set_cons_succ]
                          refine wpAnyH_take (i := 9) (oi := ?oiu9) (v := .bool false) ?hiu9 (by kernel_rfl) (by kernel_rfl) (by kernel_rfl) ?hqu9 ?hyu9 hHeld ?hru9
                          case hiu9 =>
                            simp only [List.getElem?_toArray, List.getElem?_cons_succ, List.getElem?_cons_zero]
                            rfl
                          case hqu9 => exact fun _ _ _ h => h
                          case hyu9 => exact Or.inl ⟨by kernel_rfl, fun w hSw => by go_simp⟩
                          try simp only [Act.put, List.setIfInBounds_toArray, List.set_cons_zero, List.set_cons_succ]
                          refine wpAnyH_take (i := 10) (oi := ?oiu10) (v := .bool false) ?hiu10 (by kernel_rfl) (by kernel_rfl) (by kernel_rfl) ?hqu10 ?hyu10 hHeld ?hru10
                          case hiu10 =>
                            simp only [List.getElem?_toArray, List.getElem?_cons_succ, List.getElem?_cons_zero]
                            rfl
                          case hqu10 => exact fun _ _ _ h => h
                          case hyu10 => exact Or.inl ⟨by kernel_rfl, fun w hSw => by go_simp⟩
                          try simp only [Act.put, List.setIfInBounds_toArray, List.set_cons_zero, List.set_cons_succ]
                          refine wpAnyH_take (i := 11) (oi := ?oiu11) (v := .agg #[.slice ca cn cc]) ?hiu11 (by kernel_rfl) (by kernel_rfl) (by kernel_rfl) ?hqu11 ?hyu11 hHeld ?hru11
                          case hiu11 =>
                            simp only [List.getElem?_toArray, List.getElem?_cons_succ, List.getElem?_cons_zero]
                            rfl
                          case hqu11 => exact fun _ _ _ h => h
                          case hyu11 => exact Or.inl ⟨by kernel_rfl, fun w hSw => by obtain ⟨s0, s1⟩ := hSw; go_simp⟩
                          try simp only [Act.put, List.setIfInBounds_toArray, List.set_cons_zero, List.set_cons_succ]
                          refine wpAnyH_take (i := 13) (oi := ?oiu13) (v := .agg #[.slice pa pn pc]) ?hiu13 (by kernel_rfl) (by kernel_rfl) (by kernel_rfl) ?hqu13 ?hyu13 hHeld ?hru13
                          case hiu13 =>
                            simp only [List.getElem?_toArray, List.getElem?_cons_succ, List.getElem?_cons_zero]
                            rfl
                          case hqu13 => exact fun _ _ _ h => h
                          case hyu13 => exact Or.inl ⟨by kernel_rfl, fun w hSw => by obtain ⟨s0, s1⟩ := hSw; go_simp⟩
                          try simp only [Act.put, List.setIfInBounds_toArray, List.set_cons_zero, List.set_cons_succ]
                          refine wpAnyH_take (i := 14) (oi := ?oiu14) (v := .int .i64 (j : Int)) ?hiu14 (by kernel_rfl) (by kernel_rfl) (by kernel_rfl) ?hqu14 ?hyu14 hHeld ?hru14
                          case hiu14 =>
                            simp only [List.getElem?_toArray, List.getElem?_cons_succ, List.getElem?_cons_zero]
                            rfl
                          case hqu14 => exact fun _ _ _ h => h
                          case hyu14 => exact Or.inl ⟨by kernel_rfl, fun w hSw => by go_simp⟩
                          try simp only [Act.put, List.setIfInBounds_toArray, List.set_cons_zero, List.set_cons_succ]
                          refine wpAnyH_ready (rs := [12]) (by kernel_rfl) (by simp) ?_
                          refine (AllReadyH.cons (o := ?oou12) ?hou12 (fun K hK => ?hku12) AllReadyH.nil)
                          case hou12 =>
                            simp only [List.getElem?_toArray, List.getElem?_cons_succ, List.getElem?_cons_zero]
                            rfl
                          case hku12 =>
                            go_simp
                            go_at_call 13
                            refine (hcq v3 V3.out).mono ?_
                            rintro e v4 ⟨rfl, bq⟩
                            have V4 : Hid (Below wr.heap.size wr v4) := low_stepC V3.out bq
                            clear bq 
                            try go_wp2_with fail
                            refine hK.out _ _ (HT.out _ V4.out) (fun hHeld => ?_)
                            clear hK K
                            try simp only [Act.put, List.setIfInBounds_toArray, List.set_cons_zero, List.set_cons_succ]
                            refine wpAnyH_ready (rs := [15]) (by kernel_rfl) (by simp) ?_
                            refine (AllReadyH.cons (o := ?oou15) ?hou15 (fun K hK => ?hku15) AllReadyH.nil)
                            case hou15 =>
                              simp only [List.getElem?_toArray, List.getElem?_cons_succ, List.getElem?_cons_zero]
                              rfl
                            case hku15 =>
                              go_simp
                              go_at_call 13
                              refine (hcp v4 V4.out).mono ?_
                              rintro e v5 ⟨rfl, bq⟩
                              have V5 : Hid (Below wr.heap.size wr v5) := low_stepC V4.out bq
                              clear bq 
                              try go_wp2_with fail
                              refine hK.out _ _ (HT.out _ V5.out) (fun hHeld => ?_)
                              clear hK K
                              try simp only [Act.put, List.setIfInBounds_toArray, List.set_cons_zero, List.set_cons_succ]
                              refine wpAnyH_take (i := 16) (oi := ?oiu16) (v := .bool false) ?hiu16 (by kernel_rfl) (by kernel_rfl) (by kernel_rfl) ?hqu16 ?hyu16 hHeld ?hru16
                              case hiu16 =>
                                simp only [List.getElem?_toArray, List.getElem?_cons_succ, List.getElem?_cons_zero]
                                rfl
                              case hqu16 => exact fun _ _ _ h => h
                              case hyu16 => exact Or.inl ⟨by kernel_rfl, fun w hSw => by go_simp⟩
                              try simp only [Act.put, List.setIfInBounds_toArray, List.set_cons_zero, List.set_cons_succ]
                              refine wpAnyH_take (i := 17) (oi := ?oiu17) (v := .bool false) ?hiu17 (by kernel_rfl) (by kernel_rfl) (by kernel_rfl) ?hqu17 ?hyu17 hHeld ?hru17
                              case hiu17 =>
                                simp only [List.getElem?_toArray, List.getElem?_cons_succ, List.getElem?_cons_zero]
                                rfl
                              case hqu17 => exact fun _ _ _ h => h
                              case hyu17 => exact Or.inl ⟨by kernel_rfl, fun w hSw => by go_simp⟩
                              try simp only [Act.put, List.setIfInBounds_toArray, List.set_cons_zero, List.set_cons_succ]
                              refine wpAnyH_take (i := 18) (oi := ?oiu18) (v := .bool false) ?hiu18 (by kernel_rfl) (by kernel_rfl) (by kernel_rfl) ?hqu18 ?hyu18 hHeld ?hru18
                              case hiu18 =>
                                simp only [List.getElem?_toArray, List.getElem?_cons_succ, List.getElem?_cons_zero]
                                rfl
                              case hqu18 => exact fun _ _ _ h => h
                              case hyu18 => exact Or.inl ⟨by kernel_rfl, fun w hSw => by go_simp⟩
                              try simp only [Act.put, List.setIfInBounds_toArray, List.set_cons_zero, List.set_cons_succ]
                              refine wpAnyH_take (i := 19) (oi := ?oiu19) (v := .pointer (some ⟨bBC, 0, none⟩)) ?hiu19 (by kernel_rfl) (by kernel_rfl) (by kernel_rfl) ?hqu19 ?hyu19 hHeld ?hru19
                              case hiu19 =>
                                simp only [List.getElem?_toArray, List.getElem?_cons_succ, List.getElem?_cons_zero]
                                rfl
                              case hqu19 => exact fun _ _ _ h => h
                              case hyu19 => exact Or.inl ⟨by kernel_rfl, fun w hSw => by go_simp⟩
                              try simp only [Act.put, List.setIfInBounds_toArray, List.set_cons_zero, List.set_cons_succ]
                              refine wpAnyH_take (i := 20) (oi := ?oiu20) (v := .slice ca cn cc) ?hiu20 (by kernel_rfl) (by kernel_rfl) (by kernel_rfl) ?hqu20 ?hyu20 hHeld ?hru20
                              case hiu20 =>
                                simp only [List.getElem?_toArray, List.getElem?_cons_succ, List.getElem?_cons_zero]
                                rfl
                              case hqu20 => exact fun _ _ _ h => h
                              case hyu20 => exact Or.inl ⟨by kernel_rfl, fun w hSw => by obtain ⟨s0, s1⟩ := hSw; go_simp⟩
                              try simp only [Act.put, List.setIfInBounds_toArray, List.set_cons_zero, List.set_cons_succ]
                              refine wpAnyH_take (i := 21) (oi := ?oiu21) (v := .int .i64 (cn : Int)) ?hiu21 (by kernel_rfl) (by kernel_rfl) (by kernel_rfl) ?hqu21 ?hyu21 hHeld ?hru21
                              case hiu21 =>
                                simp only [List.getElem?_toArray, List.getElem?_cons_succ, List.getElem?_cons_zero]
                                rfl
                              case hqu21 => exact fun _ _ _ h => h
                              case hyu21 => exact Or.inl ⟨by kernel_rfl, fun w hSw => by go_simp⟩
                              try simp only [Act.put, List.setIfInBounds_toArray, List.set_cons_zero, List.set_cons_succ]
                              refine wpAnyH_take (i := 22) (oi := ?oiu22) (v := .agg #[.slice pa pn pc]) ?hiu22 (by kernel_rfl) (by kernel_rfl) (by kernel_rfl) ?hqu22 ?hyu22 hHeld ?hru22
                              case hiu22 =>
                                simp only [List.getElem?_toArray, List.getElem?_cons_succ, List.getElem?_cons_zero]
                                rfl
                              case hqu22 => exact fun _ _ _ h => h
                              case hyu22 => exact Or.inl ⟨by kernel_rfl, fun w hSw => by obtain ⟨s0, s1⟩ := hSw; go_simp⟩
                              try simp only [Act.put, List.setIfInBounds_toArray, List.set_cons_zero, List.set_cons_succ]
                              refine wpAnyH_take (i := 23) (oi := ?oiu23) (v := .int .i64 (j : Int)) ?hiu23 (by kernel_rfl) (by kernel_rfl) (by kernel_rfl) ?hqu23 ?hyu23 hHeld ?hru23
                              case hiu23 =>
                                simp only [List.getElem?_toArray, List.getElem?_cons_succ, List.getElem?_cons_zero]
                                rfl
                              case hqu23 => exact fun _ _ _ h => h
                              case hyu23 => exact Or.inl ⟨by kernel_rfl, fun w hSw => by go_simp⟩
                              try simp only [Act.put, List.setIfInBounds_toArray, List.set_cons_zero, List.set_cons_succ]
                              refine wpAnyH_ready (rs := [24]) (by kernel_rfl) (by simp) ?_
                              refine (AllReadyH.cons (o := ?oou24) ?hou24 (fun K hK => ?hku24) AllReadyH.nil)
                              case hou24 =>
                                simp only [List.getElem?_toArray, List.getElem?_cons_succ, List.getElem?_cons_zero]
                                rfl
                              case hku24 =>
                                go_simp
                                go_at_call 18
                                refine (hrc v5 V5.out).mono ?_
                                rintro e v6 ⟨ur, rfl, our, bq⟩
                                have V6 : Hid (Below wr.heap.size wr v6) := low_stepC V5.out bq
                                obtain ⟨rra, rrc, rfl⟩ := own_lenC (hAL.symm ▸ our)
                                clear bq our
                                try go_wp2_with fail
                                refine hK.out _ _ (HT.out _ V6.out) (fun hHeld => ?_)
                                clear hK K
                                try simp only [Act.put, List.setIfInBounds_toArray, List.set_cons_zero, List.set_cons_succ]
                                refine wpAnyH_take (i := 25) (oi := ?oiu25) (v := .int .i64 (cn : Int)) ?hiu25 (by kernel_rfl) (by kernel_rfl) (by kernel_rfl) ?hqu25 ?hyu25 hHeld ?hru25
                                case hiu25 =>
                                  simp only [List.getElem?_toArray, List.getElem?_cons_succ, List.getElem?_cons_zero]
                                  rfl
                                case hqu25 => exact fun _ _ _ h => h
                                case hyu25 => exact Or.inl ⟨by kernel_rfl, fun w hSw => by go_simp⟩
                                try simp only [Act.put, List.setIfInBounds_toArray, List.set_cons_zero, List.set_cons_succ]
                                refine wpAnyH_take (i := 26) (oi := ?oiu26) (v := .bool false) ?hiu26 (by kernel_rfl) (by kernel_rfl) (by kernel_rfl) ?hqu26 ?hyu26 hHeld ?hru26
                                case hiu26 =>
                                  simp only [List.getElem?_toArray, List.getElem?_cons_succ, List.getElem?_cons_zero]
                                  rfl
                                case hqu26 => exact fun _ _ _ h => h
                                case hyu26 => exact Or.inl ⟨by kernel_rfl, fun w hSw => by go_simp⟩
                                try simp only [Act.put, List.setIfInBounds_toArray, List.set_cons_zero, List.set_cons_succ]
                                refine wpAnyH_take (i := 27) (oi := ?oiu27) (v := .bool false) ?hiu27 (by kernel_rfl) (by kernel_rfl) (by kernel_rfl) ?hqu27 ?hyu27 hHeld ?hru27
                                case hiu27 =>
                                  simp only [List.getElem?_toArray, List.getElem?_cons_succ, List.getElem?_cons_zero]
                                  rfl
                                case hqu27 => exact fun _ _ _ h => h
                                case hyu27 => exact Or.inl ⟨by kernel_rfl, fun w hSw => by go_simp⟩
                                try simp only [Act.put, List.setIfInBounds_toArray, List.set_cons_zero, List.set_cons_succ]
                                refine wpAnyH_done (by kernel_rfl) ?_ _
                                have LOWv : Hid (Below w.heap.size w v6) := low_stepC LOWr.out V6.out
                                have RPv : Hid (ReadsP v6 (.slice pa pn pc) ps) := readsP_below RPr.out V6.out
                                have RQv : Hid (ReadsP v6 (.slice ca cn cc) Q) := readsP_below RQr.out V6.out
                                have HTv : Hid (∀ Z, Below v6.heap.size v6 Z → Z.cell? ⟨bBP, 0, none⟩ = some (.slice pa pn pc) ∧ Z.cell? ⟨bBC, 0, none⟩ = some (.slice ca cn cc)) := fun Z hZ => HT.out Z (low_stepC V6.out hZ)
                                clear s0 s1 hS9 HT hpk hcl hcq hcp hrc
                                have hS9 := HTv.out v6 (Below.refl _ _)
                                obtain ⟨s0, s1⟩ := id hS9
                                go_wp2_with fail
                                have hq1 := fun Z (hZ : Below v6.heap.size v6 Z) => implTables Q 1 U1 HTT.out.2.2.1 (.slice ca cn cc) Z HQM.out.1 HQM.out.2 (readsP_below RQv.out hZ)
                                have hq2 := fun Z (hZ : Below v6.heap.size v6 Z) => implTables Q 2 U2 HTT.out.2.2.2.1 (.slice ca cn cc) Z HQM.out.1 HQM.out.2 (readsP_below RQv.out hZ)
                                have hp1 := fun Z (hZ : Below v6.heap.size v6 Z) => implTables ps 1 T1 HTT.out.1 (.slice pa pn pc) Z HL.out.1 HL.out.2 (readsP_below RPv.out hZ)
                                have hp2 := fun Z (hZ : Below v6.heap.size v6 Z) => implTables ps 2 T2 HTT.out.2.1 (.slice pa pn pc) Z HL.out.1 HL.out.2 (readsP_below RPv.out hZ)
                                have hnl := HTT.out.2.2.2.2.1
                                have hol := HTT.out.2.2.2.2.2
                                have ho1 := hw1
                                have ho3 := hw2
                                refine wp_region_held_drew (S := fun Z => Z.cell? ⟨bBP, 0, none⟩ = some (.slice pa pn pc) ∧ Z.cell? ⟨bBC, 0, none⟩ = some (.slice ca cn cc)) (by kernel_rfl) hS9 (fun hHeld => ?_)
                                refine wpAnyH_take (i := 0) (oi := ?oit0) (v := .agg #[.slice ca cn cc]) ?hit0 (by kernel_rfl) (by kernel_rfl) (by kernel_rfl) ?hqt0 ?hyt0 hHeld ?hrt0
                                case hit0 =>
                                  simp only [List.getElem?_toArray, List.getElem?_cons_succ, List.getElem?_cons_zero]
                                  rfl
                                case hqt0 => exact fun _ _ _ h => h
                                case hyt0 => exact Or.inl ⟨by kernel_rfl, fun w hSw => by obtain ⟨s0, s1⟩ := hSw; go_simp⟩
                                try simp only [Act.put, List.setIfInBounds_toArray, List.set_cons_zero, List.set_cons_succ]
                                refine wpAnyH_take (i := 4) (oi := ?oit4) (v := .agg #[.slice pa pn pc]) ?hit4 (by kernel_rfl) (by kernel_rfl) (by kernel_rfl) ?hqt4 ?hyt4 hHeld ?hrt4
                                case hit4 =>
                                  simp only [List.getElem?_toArray, List.getElem?_cons_succ, List.getElem?_cons_zero]
                                  rfl
                                case hqt4 => exact fun _ _ _ h => h
                                case hyt4 => exact Or.inl ⟨by kernel_rfl, fun w hSw => by obtain ⟨s0, s1⟩ := hSw; go_simp⟩
                                try simp only [Act.put, List.setIfInBounds_toArray, List.set_cons_zero, List.set_cons_succ]
                                refine wpAnyH_take (i := 6) (oi := ?oit6) (v := .int .i64 (j : Int)) ?hit6 (by kernel_rfl) (by kernel_rfl) (by kernel_rfl) ?hqt6 ?hyt6 hHeld ?hrt6
                                case hit6 =>
                                  simp only [List.getElem?_toArray, List.getElem?_cons_succ, List.getElem?_cons_zero]
                                  rfl
                                case hqt6 => exact fun _ _ _ h => h
                                case hyt6 => exact Or.inl ⟨by kernel_rfl, fun w hSw => by go_simp⟩
                                try simp only [Act.put, List.setIfInBounds_toArray, List.set_cons_zero, List.set_cons_succ]
                                refine wpAnyH_ready (rs := [1]) (by kernel_rfl) (by simp) ?_
                                refine (AllReadyH.cons (o := ?oot1) ?hot1 (fun K hK => ?hkt1) AllReadyH.nil)
                                case hot1 =>
                                  simp only [List.getElem?_toArray, List.getElem?_cons_succ, List.getElem?_cons_zero]
                                  rfl
                                case hkt1 =>
                                  go_simp
                                  go_at_call 16
                                  refine (hq1 v6.drew (Below.drew (Below.refl _ _))).mono ?_
                                  rintro e y2a ⟨tv2p, tus2p, rfl, ot2p, _, bq⟩
                                  have Y2A : Hid (Below v6.heap.size v6 y2a) := Below.trans (Below.drew (Below.refl _ _)) bq
                                  obtain ⟨g2p, tc2p, rfl⟩ := row_some ot2p (by omega)
                                  obtain ⟨u2p, _, cu2p, ou2p⟩ := ot2p.at (j := 0) hU1
                                  rw [ho1] at ou2p
                                  have CU2p : Hid (y2a.cell? ⟨g2p, 0, none⟩ = some u2p) := cu2p
                                  have RU2p : Hid (Reads y2a u2p (ints ns)) := reads_own ou2p
                                  clear bq ot2p ou2p
                                  try go_wp2_with fail
                                  refine hK.out _ _ (HTv.out _ Y2A.out) (fun hHeld => ?_)
                                  clear hK K
                                  try simp only [Act.put, List.setIfInBounds_toArray, List.set_cons_zero, List.set_cons_succ]
                                  refine wpAnyH_take (i := 2) (oi := ?oit2) (v := .pointer (some ⟨g2p, 0, none⟩)) ?hit2 (by kernel_rfl) (by kernel_rfl) (by kernel_rfl) ?hqt2 ?hyt2 hHeld ?hrt2
                                  case hit2 =>
                                    simp only [List.getElem?_toArray, List.getElem?_cons_succ, List.getElem?_cons_zero]
                                    rfl
                                  case hqt2 => exact fun _ _ _ h => h
                                  case hyt2 => exact Or.inl ⟨by kernel_rfl, fun w hSw => by go_simp⟩
                                  try simp only [Act.put, List.setIfInBounds_toArray, List.set_cons_zero, List.set_cons_succ]
                                  refine wpAnyH_ready (rs := [3, 5]) (by kernel_rfl) (by simp) ?_
                                  refine (AllReadyH.cons (o := ?oot3) ?hot3 (fun K hK => ?hkt3) (AllReadyH.cons (o := ?oot5) ?hot5 (fun K hK => ?hkt5) AllReadyH.nil))
                                  case hot3 =>
                                    simp only [List.getElem?_toArray, List.getElem?_cons_succ, List.getElem?_cons_zero]
                                    rfl
                                  case hot5 =>
                                    simp only [List.getElem?_toArray, List.getElem?_cons_succ, List.getElem?_cons_zero]
                                    rfl
                                  case hkt3 =>
                                    go_simp
                                    try go_wp2_with fail
                                    refine hK.out _ _ (HTv.out _ Y2A.out) (fun hHeld => ?_)
                                    clear hK K
                                    try simp only [Act.put, List.setIfInBounds_toArray, List.set_cons_zero, List.set_cons_succ]
                                    refine wpAnyH_ready (rs := [5]) (by kernel_rfl) (by simp) ?_
                                    refine (AllReadyH.cons (o := ?oota5) ?hota5 (fun K hK => ?hkta5) AllReadyH.nil)
                                    case hota5 =>
                                      simp only [List.getElem?_toArray, List.getElem?_cons_succ, List.getElem?_cons_zero]
                                      rfl
                                    case hkta5 =>
                                      go_simp
                                      go_at_call 16
                                      refine (hp1 y2a Y2A.out).mono ?_
                                      rintro e y2b ⟨tv2q, tus2q, rfl, ot2q, _, bq⟩
                                      have Y2B : Hid (Below v6.heap.size v6 y2b) := low_stepC Y2A.out bq
                                      have BB2 : Hid (Below y2a.heap.size y2a y2b) := bq
                                      have cu2p := cell_stepC CU2p.out bq
                                      obtain ⟨g2q, tc2q, rfl⟩ := row_some ot2q (by omega)
                                      obtain ⟨u2q, _, cu2q, ou2q⟩ := ot2q.at (j := j) hT1
                                      rw [ho2] at ou2q
                                      have CU2q : Hid (y2b.cell? ⟨g2q, j, none⟩ = some u2q) := cu2q
                                      have RU2q : Hid (Reads y2b u2q (ints ns)) := reads_own ou2q
                                      clear bq ot2q ou2q
                                      try go_wp2_with fail
                                      refine hK.out _ _ (HTv.out _ Y2B.out) (fun hHeld => ?_)
                                      clear hK K
                                      try simp only [Act.put, List.setIfInBounds_toArray, List.set_cons_zero, List.set_cons_succ]
                                      refine wpAnyH_take (i := 7) (oi := ?oita7) (v := .pointer (some ⟨g2q, j, none⟩)) ?hita7 (by kernel_rfl) (by kernel_rfl) (by kernel_rfl) ?hqta7 ?hyta7 hHeld ?hrta7
                                      case hita7 =>
                                        simp only [List.getElem?_toArray, List.getElem?_cons_succ, List.getElem?_cons_zero]
                                        rfl
                                      case hqta7 => exact fun _ _ _ h => h
                                      case hyta7 => exact Or.inl ⟨by kernel_rfl, fun w hSw => by go_simp⟩
                                      try simp only [Act.put, List.setIfInBounds_toArray, List.set_cons_zero, List.set_cons_succ]
                                      refine wpAnyH_ready (rs := [8]) (by kernel_rfl) (by simp) ?_
                                      refine (AllReadyH.cons (o := ?oota8) ?hota8 (fun K hK => ?hkta8) AllReadyH.nil)
                                      case hota8 =>
                                        simp only [List.getElem?_toArray, List.getElem?_cons_succ, List.getElem?_cons_zero]
                                        rfl
                                      case hkta8 =>
                                        go_simp
                                        try go_wp2_with fail
                                        refine hK.out _ _ (HTv.out _ Y2B.out) (fun hHeld => ?_)
                                        clear hK K
                                        try simp only [Act.put, List.setIfInBounds_toArray, List.set_cons_zero, List.set_cons_succ]
                                        refine wpAnyH_ready (rs := [9]) (by kernel_rfl) (by simp) ?_
                                        refine (AllReadyH.cons (o := ?oota9) ?hota9 (fun K hK => ?hkta9) AllReadyH.nil)
                                        case hota9 =>
                                          simp only [List.getElem?_toArray, List.getElem?_cons_succ, List.getElem?_cons_zero]
                                          rfl
                                        case hkta9 =>
                                          go_simp
                                          go_at_call 15
                                          refine (likeInts ns u2p u2q y2b hnl (reads_below RU2p.out BB2.out) RU2q.out).mono ?_
                                          rintro e y2c ⟨rfl, bq⟩
                                          have Y2C : Hid (Below v6.heap.size v6 y2c) := low_stepC Y2B.out bq
                                          clear bq RU2p RU2q
                                          try go_wp2_with fail
                                          refine hK.out _ _ (HTv.out _ Y2C.out) (fun hHeld => ?_)
                                          clear hK K
                                          try simp only [Act.put, List.setIfInBounds_toArray, List.set_cons_zero, List.set_cons_succ]
                                          refine wpAnyH_take (i := 10) (oi := ?oita10) (v := .bool true) ?hita10 (by kernel_rfl) (by kernel_rfl) (by kernel_rfl) ?hqta10 ?hyta10 hHeld ?hrta10
                                          case hita10 =>
                                            simp only [List.getElem?_toArray, List.getElem?_cons_succ, List.getElem?_cons_zero]
                                            rfl
                                          case hqta10 => exact fun _ _ _ h => h
                                          case hyta10 => exact Or.inl ⟨by kernel_rfl, fun w hSw => by go_simp⟩
                                          try simp only [Act.put, List.setIfInBounds_toArray, List.set_cons_zero, List.set_cons_succ]
                                          refine wpAnyH_take (i := 11) (oi := ?oita11) (v := .agg #[.slice ca cn cc]) ?hita11 (by kernel_rfl) (by kernel_rfl) (by kernel_rfl) ?hqta11 ?hyta11 hHeld ?hrta11
                                          case hita11 =>
                                            simp only [List.getElem?_toArray, List.getElem?_cons_succ, List.getElem?_cons_zero]
                                            rfl
                                          case hqta11 => exact fun _ _ _ h => h
                                          case hyta11 => exact Or.inl ⟨by kernel_rfl, fun w hSw => by obtain ⟨s0, s1⟩ := hSw; go_simp⟩
                                          try simp only [Act.put, List.setIfInBounds_toArray, List.set_cons_zero, List.set_cons_succ]
                                          refine wpAnyH_take (i := 15) (oi := ?oita15) (v := .agg #[.slice pa pn pc]) ?hita15 (by kernel_rfl) (by kernel_rfl) (by kernel_rfl) ?hqta15 ?hyta15 hHeld ?hrta15
                                          case hita15 =>
                                            simp only [List.getElem?_toArray, List.getElem?_cons_succ, List.getElem?_cons_zero]
                                            rfl
                                          case hqta15 => exact fun _ _ _ h => h
                                          case hyta15 => exact Or.inl ⟨by kernel_rfl, fun w hSw => by obtain ⟨s0, s1⟩ := hSw; go_simp⟩
                                          try simp only [Act.put, List.setIfInBounds_toArray, List.set_cons_zero, List.set_cons_succ]
                                          refine wpAnyH_take (i := 17) (oi := ?oita17) (v := .int .i64 (j : Int)) ?hita17 (by kernel_rfl) (by kernel_rfl) (by kernel_rfl) ?hqta17 ?hyta17 hHeld ?hrta17
                                          case hita17 =>
                                            simp only [List.getElem?_toArray, List.getElem?_cons_succ, List.getElem?_cons_zero]
                                            rfl
                                          case hqta17 => exact fun _ _ _ h => h
                                          case hyta17 => exact Or.inl ⟨by kernel_rfl, fun w hSw => by go_simp⟩
                                          try simp only [Act.put, List.setIfInBounds_toArray, List.set_cons_zero, List.set_cons_succ]
                                          refine wpAnyH_ready (rs := [12]) (by kernel_rfl) (by simp) ?_
                                          refine (AllReadyH.cons (o := ?oota12) ?hota12 (fun K hK => ?hkta12) AllReadyH.nil)
                                          case hota12 =>
                                            simp only [List.getElem?_toArray, List.getElem?_cons_succ, List.getElem?_cons_zero]
                                            rfl
                                          case hkta12 =>
                                            go_simp
                                            go_at_call 16
                                            refine (hq2 y2c Y2C.out).mono ?_
                                            rintro e y3a ⟨tv3p, tus3p, rfl, ot3p, _, bq⟩
                                            have Y3A : Hid (Below v6.heap.size v6 y3a) := low_stepC Y2C.out bq
                                            obtain ⟨g3p, tc3p, rfl⟩ := row_some ot3p (by omega)
                                            obtain ⟨u3p, _, cu3p, ou3p⟩ := ot3p.at (j := 0) hU2
                                            rw [ho3] at ou3p
                                            have CU3p : Hid (y3a.cell? ⟨g3p, 0, none⟩ = some u3p) := cu3p
                                            have RU3p : Hid (Reads y3a u3p (ints os)) := reads_own ou3p
                                            clear bq ot3p ou3p
                                            try go_wp2_with fail
                                            refine hK.out _ _ (HTv.out _ Y3A.out) (fun hHeld => ?_)
                                            clear hK K
                                            try simp only [Act.put, List.setIfInBounds_toArray, List.set_cons_zero, List.set_cons_succ]
                                            refine wpAnyH_take (i := 13) (oi := ?oita13) (v := .pointer (some ⟨g3p, 0, none⟩)) ?hita13 (by kernel_rfl) (by kernel_rfl) (by kernel_rfl) ?hqta13 ?hyta13 hHeld ?hrta13
                                            case hita13 =>
                                              simp only [List.getElem?_toArray, List.getElem?_cons_succ, List.getElem?_cons_zero]
                                              rfl
                                            case hqta13 => exact fun _ _ _ h => h
                                            case hyta13 => exact Or.inl ⟨by kernel_rfl, fun w hSw => by go_simp⟩
                                            try simp only [Act.put, List.setIfInBounds_toArray, List.set_cons_zero, List.set_cons_succ]
                                            refine wpAnyH_ready (rs := [14, 16]) (by kernel_rfl) (by simp) ?_
                                            refine (AllReadyH.cons (o := ?oota14) ?hota14 (fun K hK => ?hkta14) (AllReadyH.cons (o := ?oota16) ?hota16 (fun K hK => ?hkta16) AllReadyH.nil))
                                            case hota14 =>
                                              simp only [List.getElem?_toArray, List.getElem?_cons_succ, List.getElem?_cons_zero]
                                              rfl
                                            case hota16 =>
                                              simp only [List.getElem?_toArray, List.getElem?_cons_succ, List.getElem?_cons_zero]
                                              rfl
                                            case hkta14 =>
                                              go_simp
                                              try go_wp2_with fail
                                              refine hK.out _ _ (HTv.out _ Y3A.out) (fun hHeld => ?_)
                                              clear hK K
                                              try simp only [Act.put, List.setIfInBounds_toArray, List.set_cons_zero, List.set_cons_succ]
                                              refine wpAnyH_ready (rs := [16]) (by kernel_rfl) (by simp) ?_
                                              refine (AllReadyH.cons (o := ?ootaa16) ?hotaa16 (fun K hK => ?hktaa16) AllReadyH.nil)
                                              case hotaa16 =>
                                                simp only [List.getElem?_toArray, List.getElem?_cons_succ, List.getElem?_cons_zero]
                                                rfl
                                              case hktaa16 =>
                                                go_simp
                                                go_at_call 16
                                                refine (hp2 y3a Y3A.out).mono ?_
                                                rintro e y3b ⟨tv3q, tus3q, rfl, ot3q, _, bq⟩
                                                have Y3B : Hid (Below v6.heap.size v6 y3b) := low_stepC Y3A.out bq
                                                have BB3 : Hid (Below y3a.heap.size y3a y3b) := bq
                                                have cu3p := cell_stepC CU3p.out bq
                                                obtain ⟨g3q, tc3q, rfl⟩ := row_some ot3q (by omega)
                                                obtain ⟨u3q, _, cu3q, ou3q⟩ := ot3q.at (j := j) hT2
                                                rw [ho4] at ou3q
                                                have CU3q : Hid (y3b.cell? ⟨g3q, j, none⟩ = some u3q) := cu3q
                                                have RU3q : Hid (Reads y3b u3q (ints os)) := reads_own ou3q
                                                clear bq ot3q ou3q
                                                try go_wp2_with fail
                                                refine hK.out _ _ (HTv.out _ Y3B.out) (fun hHeld => ?_)
                                                clear hK K
                                                try simp only [Act.put, List.setIfInBounds_toArray, List.set_cons_zero, List.set_cons_succ]
                                                refine wpAnyH_take (i := 18) (oi := ?oitaa18) (v := .pointer (some ⟨g3q, j, none⟩)) ?hitaa18 (by kernel_rfl) (by kernel_rfl) (by kernel_rfl) ?hqtaa18 ?hytaa18 hHeld ?hrtaa18
                                                case hitaa18 =>
                                                  simp only [List.getElem?_toArray, List.getElem?_cons_succ, List.getElem?_cons_zero]
                                                  rfl
                                                case hqtaa18 => exact fun _ _ _ h => h
                                                case hytaa18 => exact Or.inl ⟨by kernel_rfl, fun w hSw => by go_simp⟩
                                                try simp only [Act.put, List.setIfInBounds_toArray, List.set_cons_zero, List.set_cons_succ]
                                                refine wpAnyH_ready (rs := [19]) (by kernel_rfl) (by simp) ?_
                                                refine (AllReadyH.cons (o := ?ootaa19) ?hotaa19 (fun K hK => ?hktaa19) AllReadyH.nil)
                                                case hotaa19 =>
                                                  simp only [List.getElem?_toArray, List.getElem?_cons_succ, List.getElem?_cons_zero]
                                                  rfl
                                                case hktaa19 =>
                                                  go_simp
                                                  try go_wp2_with fail
                                                  refine hK.out _ _ (HTv.out _ Y3B.out) (fun hHeld => ?_)
                                                  clear hK K
                                                  try simp only [Act.put, List.setIfInBounds_toArray, List.set_cons_zero, List.set_cons_succ]
                                                  refine wpAnyH_ready (rs := [20]) (by kernel_rfl) (by simp) ?_
                                                  refine (AllReadyH.cons (o := ?ootaa20) ?hotaa20 (fun K hK => ?hktaa20) AllReadyH.nil)
                                                  case hotaa20 =>
                                                    simp only [List.getElem?_toArray, List.getElem?_cons_succ, List.getElem?_cons_zero]
                                                    rfl
                                                  case hktaa20 =>
                                                    go_simp
                                                    go_at_call 15
                                                    refine (likeInts os u3p u3q y3b hol (reads_below RU3p.out BB3.out) RU3q.out).mono ?_
                                                    rintro e y3c ⟨rfl, bq⟩
                                                    have Y3C : Hid (Below v6.heap.size v6 y3c) := low_stepC Y3B.out bq
                                                    clear bq RU3p RU3q
                                                    try go_wp2_with fail
                                                    refine hK.out _ _ (HTv.out _ Y3C.out) (fun hHeld => ?_)
                                                    clear hK K
                                                    try simp only [Act.put, List.setIfInBounds_toArray, List.set_cons_zero, List.set_cons_succ]
                                                    refine wpAnyH_take (i := 21) (oi := ?oitaa21) (v := .bool true) ?hitaa21 (by kernel_rfl) (by kernel_rfl) (by kernel_rfl) ?hqtaa21 ?hytaa21 hHeld ?hrtaa21
                                                    case hitaa21 =>
                                                      simp only [List.getElem?_toArray, List.getElem?_cons_succ, List.getElem?_cons_zero]
                                                      rfl
                                                    case hqtaa21 => exact fun _ _ _ h => h
                                                    case hytaa21 => exact Or.inl ⟨by kernel_rfl, fun w hSw => by go_simp⟩
                                                    try simp only [Act.put, List.setIfInBounds_toArray, List.set_cons_zero, List.set_cons_succ]
                                                    refine wpAnyH_take (i := 22) (oi := ?oitaa22) (v := .bool true) ?hitaa22 (by kernel_rfl) (by kernel_rfl) (by kernel_rfl) ?hqtaa22 ?hytaa22 hHeld ?hrtaa22
                                                    case hitaa22 =>
                                                      simp only [List.getElem?_toArray, List.getElem?_cons_succ, List.getElem?_cons_zero]
                                                      rfl
                                                    case hqtaa22 => exact fun _ _ _ h => h
                                                    case hytaa22 => exact Or.inl ⟨by kernel_rfl, fun w hSw => by go_simp⟩
                                                    try simp only [Act.put, List.setIfInBounds_toArray, List.set_cons_zero, List.set_cons_succ]
                                                    refine wpAnyH_done (by kernel_rfl) ?_ _
                                                    have HBE : Hid (Below w.heap.size w y3c) := low_stepC LOWv.out Y3C.out
                                                    clear hS9 hq1 hp1 hq2 hp2
                                                    go_wp2
                                                    go_ret
                                                    exact ⟨rfl, HBE.out⟩
                                            case hkta16 =>
                                              go_simp
                                              go_at_call 16
                                              refine (hp2 y3a Y3A.out).mono ?_
                                              rintro e y3b ⟨tv3q, tus3q, rfl, ot3q, _, bq⟩
                                              have Y3B : Hid (Below v6.heap.size v6 y3b) := low_stepC Y3A.out bq
                                              have BB3 : Hid (Below y3a.heap.size y3a y3b) := bq
                                              have cu3p := cell_stepC CU3p.out bq
                                              obtain ⟨g3q, tc3q, rfl⟩ := row_some ot3q (by omega)
                                              obtain ⟨u3q, _, cu3q, ou3q⟩ := ot3q.at (j := j) hT2
                                              rw [ho4] at ou3q
                                              have CU3q : Hid (y3b.cell? ⟨g3q, j, none⟩ = some u3q) := cu3q
                                              have RU3q : Hid (Reads y3b u3q (ints os)) := reads_own ou3q
                                              clear bq ot3q ou3q
                                              try go_wp2_with fail
                                              refine hK.out _ _ (HTv.out _ Y3B.out) (fun hHeld => ?_)
                                              clear hK K
                                              try simp only [Act.put, List.setIfInBounds_toArray, List.set_cons_zero, List.set_cons_succ]
                                              refine wpAnyH_take (i := 18) (oi := ?oitab18) (v := .pointer (some ⟨g3q, j, none⟩)) ?hitab18 (by kernel_rfl) (by kernel_rfl) (by kernel_rfl) ?hqtab18 ?hytab18 hHeld ?hrtab18
                                              case hitab18 =>
                                                simp only [List.getElem?_toArray, List.getElem?_cons_succ, List.getElem?_cons_zero]
                                                rfl
                                              case hqtab18 => exact fun _ _ _ h => h
                                              case hytab18 => exact Or.inl ⟨by kernel_rfl, fun w hSw => by go_simp⟩
                                              try simp only [Act.put, List.setIfInBounds_toArray, List.set_cons_zero, List.set_cons_succ]
                                              refine wpAnyH_ready (rs := [14, 19]) (by kernel_rfl) (by simp) ?_
                                              refine (AllReadyH.cons (o := ?ootab14) ?hotab14 (fun K hK => ?hktab14) (AllReadyH.cons (o := ?ootab19) ?hotab19 (fun K hK => ?hktab19) AllReadyH.nil))
                                              case hotab14 =>
                                                simp only [List.getElem?_toArray, List.getElem?_cons_succ, List.getElem?_cons_zero]
                                                rfl
                                              case hotab19 =>
                                                simp only [List.getElem?_toArray, List.getElem?_cons_succ, List.getElem?_cons_zero]
                                                rfl
                                              case hktab14 =>
                                                go_simp
                                                try go_wp2_with fail
                                                refine hK.out _ _ (HTv.out _ Y3B.out) (fun hHeld => ?_)
                                                clear hK K
                                                try simp only [Act.put, List.setIfInBounds_toArray, List.set_cons_zero, List.set_cons_succ]
                                                refine wpAnyH_ready (rs := [19]) (by kernel_rfl) (by simp) ?_
                                                refine (AllReadyH.cons (o := ?ootaba19) ?hotaba19 (fun K hK => ?hktaba19) AllReadyH.nil)
                                                case hotaba19 =>
                                                  simp only [List.getElem?_toArray, List.getElem?_cons_succ, List.getElem?_cons_zero]
                                                  rfl
                                                case hktaba19 =>
                                                  go_simp
                                                  try go_wp2_with fail
                                                  refine hK.out _ _ (HTv.out _ Y3B.out) (fun hHeld => ?_)
                                                  clear hK K
                                                  try simp only [Act.put, List.setIfInBounds_toArray, List.set_cons_zero, List.set_cons_succ]
                                                  refine wpAnyH_ready (rs := [20]) (by kernel_rfl) (by simp) ?_
                                                  refine (AllReadyH.cons (o := ?ootaba20) ?hotaba20 (fun K hK => ?hktaba20) AllReadyH.nil)
                                                  case hotaba20 =>
                                                    simp only [List.getElem?_toArray, List.getElem?_cons_succ, List.getElem?_cons_zero]
                                                    rfl
                                                  case hktaba20 =>
                                                    go_simp
                                                    go_at_call 15
                                                    refine (likeInts os u3p u3q y3b hol (reads_below RU3p.out BB3.out) RU3q.out).mono ?_
                                                    rintro e y3c ⟨rfl, bq⟩
                                                    have Y3C : Hid (Below v6.heap.size v6 y3c) := low_stepC Y3B.out bq
                                                    clear bq RU3p RU3q
                                                    try go_wp2_with fail
                                                    refine hK.out _ _ (HTv.out _ Y3C.out) (fun hHeld => ?_)
                                                    clear hK K
                                                    try simp only [Act.put, List.setIfInBounds_toArray, List.set_cons_zero, List.set_cons_succ]
                                                    refine wpAnyH_take (i := 21) (oi := ?oitaba21) (v := .bool true) ?hitaba21 (by kernel_rfl) (by kernel_rfl) (by kernel_rfl) ?hqtaba21 ?hytaba21 hHeld ?hrtaba21
                                                    case hitaba21 =>
                                                      simp only [List.getElem?_toArray, List.getElem?_cons_succ, List.getElem?_cons_zero]
                                                      rfl
                                                    case hqtaba21 => exact fun _ _ _ h => h
                                                    case hytaba21 => exact Or.inl ⟨by kernel_rfl, fun w hSw => by go_simp⟩
                                                    try simp only [Act.put, List.setIfInBounds_toArray, List.set_cons_zero, List.set_cons_succ]
                                                    refine wpAnyH_take (i := 22) (oi := ?oitaba22) (v := .bool true) ?hitaba22 (by kernel_rfl) (by kernel_rfl) (by kernel_rfl) ?hqtaba22 ?hytaba22 hHeld ?hrtaba22
                                                    case hitaba22 =>
                                                      simp only [List.getElem?_toArray, List.getElem?_cons_succ, List.getElem?_cons_zero]
                                                      rfl
                                                    case hqtaba22 => exact fun _ _ _ h => h
                                                    case hytaba22 => exact Or.inl ⟨by kernel_rfl, fun w hSw => by go_simp⟩
                                                    try simp only [Act.put, List.setIfInBounds_toArray, List.set_cons_zero, List.set_cons_succ]
                                                    refine wpAnyH_done (by kernel_rfl) ?_ _
                                                    have HBE : Hid (Below w.heap.size w y3c) := low_stepC LOWv.out Y3C.out
                                                    clear hS9 hq1 hp1 hq2 hp2
                                                    go_wp2
                                                    go_ret
                                                    exact ⟨rfl, HBE.out⟩
                                              case hktab19 =>
                                                go_simp
                                                try go_wp2_with fail
                                                refine hK.out _ _ (HTv.out _ Y3B.out) (fun hHeld => ?_)
                                                clear hK K
                                                try simp only [Act.put, List.setIfInBounds_toArray, List.set_cons_zero, List.set_cons_succ]
                                                refine wpAnyH_ready (rs := [14]) (by kernel_rfl) (by simp) ?_
                                                refine (AllReadyH.cons (o := ?ootabb14) ?hotabb14 (fun K hK => ?hktabb14) AllReadyH.nil)
                                                case hotabb14 =>
                                                  simp only [List.getElem?_toArray, List.getElem?_cons_succ, List.getElem?_cons_zero]
                                                  rfl
                                                case hktabb14 =>
                                                  go_simp
                                                  try go_wp2_with fail
                                                  refine hK.out _ _ (HTv.out _ Y3B.out) (fun hHeld => ?_)
                                                  clear hK K
                                                  try simp only [Act.put, List.setIfInBounds_toArray, List.set_cons_zero, List.set_cons_succ]
                                                  refine wpAnyH_ready (rs := [20]) (by kernel_rfl) (by simp) ?_
                                                  refine (AllReadyH.cons (o := ?ootabb20) ?hotabb20 (fun K hK => ?hktabb20) AllReadyH.nil)
                                                  case hotabb20 =>
                                                    simp only [List.getElem?_toArray, List.getElem?_cons_succ, List.getElem?_cons_zero]
                                                    rfl
                                                  case hktabb20 =>
                                                    go_simp
                                                    go_at_call 15
                                                    refine (likeInts os u3p u3q y3b hol (reads_below RU3p.out BB3.out) RU3q.out).mono ?_
                                                    rintro e y3c ⟨rfl, bq⟩
                                                    have Y3C : Hid (Below v6.heap.size v6 y3c) := low_stepC Y3B.out bq
                                                    clear bq RU3p RU3q
                                                    try go_wp2_with fail
                                                    refine hK.out _ _ (HTv.out _ Y3C.out) (fun hHeld => ?_)
                                                    clear hK K
                                                    try simp only [Act.put, List.setIfInBounds_toArray, List.set_cons_zero, List.set_cons_succ]
                                                    refine wpAnyH_take (i := 21) (oi := ?oitabb21) (v := .bool true) ?hitabb21 (by kernel_rfl) (by kernel_rfl) (by kernel_rfl) ?hqtabb21 ?hytabb21 hHeld ?hrtabb21
                                                    case hitabb21 =>
                                                      simp only [List.getElem?_toArray, List.getElem?_cons_succ, List.getElem?_cons_zero]
                                                      rfl
                                                    case hqtabb21 => exact fun _ _ _ h => h
                                                    case hytabb21 => exact Or.inl ⟨by kernel_rfl, fun w hSw => by go_simp⟩
                                                    try simp only [Act.put, List.setIfInBounds_toArray, List.set_cons_zero, List.set_cons_succ]
                                                    refine wpAnyH_take (i := 22) (oi := ?oitabb22) (v := .bool true) ?hitabb22 (by kernel_rfl) (by kernel_rfl) (by kernel_rfl) ?hqtabb22 ?hytabb22 hHeld ?hrtabb22
                                                    case hitabb22 =>
                                                      simp only [List.getElem?_toArray, List.getElem?_cons_succ, List.getElem?_cons_zero]
                                                      rfl
                                                    case hqtabb22 => exact fun _ _ _ h => h
                                                    case hytabb22 => exact Or.inl ⟨by kernel_rfl, fun w hSw => by go_simp⟩
                                                    try simp only [Act.put, List.setIfInBounds_toArray, List.set_cons_zero, List.set_cons_succ]
                                                    refine wpAnyH_done (by kernel_rfl) ?_ _
                                                    have HBE : Hid (Below w.heap.size w y3c) := low_stepC LOWv.out Y3C.out
                                                    clear hS9 hq1 hp1 hq2 hp2
                                                    go_wp2
                                                    go_ret
                                                    exact ⟨rfl, HBE.out⟩
                                  case hkt5 =>
                                    go_simp
                                    go_at_call 16
                                    refine (hp1 y2a Y2A.out).mono ?_
                                    rintro e y2b ⟨tv2q, tus2q, rfl, ot2q, _, bq⟩
                                    have Y2B : Hid (Below v6.heap.size v6 y2b) := low_stepC Y2A.out bq
                                    have BB2 : Hid (Below y2a.heap.size y2a y2b) := bq
                                    have cu2p := cell_stepC CU2p.out bq
                                    obtain ⟨g2q, tc2q, rfl⟩ := row_some ot2q (by omega)
                                    obtain ⟨u2q, _, cu2q, ou2q⟩ := ot2q.at (j := j) hT1
                                    rw [ho2] at ou2q
                                    have CU2q : Hid (y2b.cell? ⟨g2q, j, none⟩ = some u2q) := cu2q
                                    have RU2q : Hid (Reads y2b u2q (ints ns)) := reads_own ou2q
                                    clear bq ot2q ou2q
                                    try go_wp2_with fail
                                    refine hK.out _ _ (HTv.out _ Y2B.out) (fun hHeld => ?_)
                                    clear hK K
                                    try simp only [Act.put, List.setIfInBounds_toArray, List.set_cons_zero, List.set_cons_succ]
                                    refine wpAnyH_take (i := 7) (oi := ?oitb7) (v := .pointer (some ⟨g2q, j, none⟩)) ?hitb7 (by kernel_rfl) (by kernel_rfl) (by kernel_rfl) ?hqtb7 ?hytb7 hHeld ?hrtb7
                                    case hitb7 =>
                                      simp only [List.getElem?_toArray, List.getElem?_cons_succ, List.getElem?_cons_zero]
                                      rfl
                                    case hqtb7 => exact fun _ _ _ h => h
                                    case hytb7 => exact Or.inl ⟨by kernel_rfl, fun w hSw => by go_simp⟩
                                    try simp only [Act.put, List.setIfInBounds_toArray, List.set_cons_zero, List.set_cons_succ]
                                    refine wpAnyH_ready (rs := [3, 8]) (by kernel_rfl) (by simp) ?_
                                    refine (AllReadyH.cons (o := ?ootb3) ?hotb3 (fun K hK => ?hktb3) (AllReadyH.cons (o := ?ootb8) ?hotb8 (fun K hK => ?hktb8) AllReadyH.nil))
                                    case hotb3 =>
                                      simp only [List.getElem?_toArray, List.getElem?_cons_succ, List.getElem?_cons_zero]
                                      rfl
                                    case hotb8 =>
                                      simp only [List.getElem?_toArray, List.getElem?_cons_succ, List.getElem?_cons_zero]
                                      rfl
                                    case hktb3 =>
                                      go_simp
                                      try go_wp2_with fail
                                      refine hK.out _ _ (HTv.out _ Y2B.out) (fun hHeld => ?_)
                                      clear hK K
                                      try simp only [Act.put, List.setIfInBounds_toArray, List.set_cons_zero, List.set_cons_succ]
                                      refine wpAnyH_ready (rs := [8]) (by kernel_rfl) (by simp) ?_
                                      refine (AllReadyH.cons (o := ?ootba8) ?hotba8 (fun K hK => ?hktba8) AllReadyH.nil)
                                      case hotba8 =>
                                        simp only [List.getElem?_toArray, List.getElem?_cons_succ, List.getElem?_cons_zero]
                                        rfl
                                      case hktba8 =>
                                        go_simp
                                        try go_wp2_with fail
                                        refine hK.out _ _ (HTv.out _ Y2B.out) (fun hHeld => ?_)
                                        clear hK K
                                        try simp only [Act.put, List.setIfInBounds_toArray, List.set_cons_zero, List.set_cons_succ]
                                        refine wpAnyH_ready (rs := [9]) (by kernel_rfl) (by simp) ?_
                                        refine (AllReadyH.cons (o := ?ootba9) ?hotba9 (fun K hK => ?hktba9) AllReadyH.nil)
                                        case hotba9 =>
                                          simp only [List.getElem?_toArray, List.getElem?_cons_succ, List.getElem?_cons_zero]
                                          rfl
                                        case hktba9 =>
                                          go_simp
                                          go_at_call 15
                                          refine (likeInts ns u2p u2q y2b hnl (reads_below RU2p.out BB2.out) RU2q.out).mono ?_
                                          rintro e y2c ⟨rfl, bq⟩
                                          have Y2C : Hid (Below v6.heap.size v6 y2c) := low_stepC Y2B.out bq
                                          clear bq RU2p RU2q
                                          try go_wp2_with fail
                                          refine hK.out _ _ (HTv.out _ Y2C.out) (fun hHeld => ?_)
                                          clear hK K
                                          try simp only [Act.put, List.setIfInBounds_toArray, List.set_cons_zero, List.set_cons_succ]
                                          refine wpAnyH_take (i := 10) (oi := ?oitba10) (v := .bool true) ?hitba10 (by kernel_rfl) (by kernel_rfl) (by kernel_rfl) ?hqtba10 ?hytba10 hHeld ?hrtba10
                                          case hitba10 =>
                                            simp only [List.getElem?_toArray, List.getElem?_cons_succ, List.getElem?_cons_zero]
                                            rfl
                                          case hqtba10 => exact fun _ _ _ h => h
                                          case hytba10 => exact Or.inl ⟨by kernel_rfl, fun w hSw => by go_simp⟩
                                          try simp only [Act.put, List.setIfInBounds_toArray, List.set_cons_zero, List.set_cons_succ]
                                          refine wpAnyH_take (i := 11) (oi := ?oitba11) (v := .agg #[.slice ca cn cc]) ?hitba11 (by kernel_rfl) (by kernel_rfl) (by kernel_rfl) ?hqtba11 ?hytba11 hHeld ?hrtba11
                                          case hitba11 =>
                                            simp only [List.getElem?_toArray, List.getElem?_cons_succ, List.getElem?_cons_zero]
                                            rfl
                                          case hqtba11 => exact fun _ _ _ h => h
                                          case hytba11 => exact Or.inl ⟨by kernel_rfl, fun w hSw => by obtain ⟨s0, s1⟩ := hSw; go_simp⟩
                                          try simp only [Act.put, List.setIfInBounds_toArray, List.set_cons_zero, List.set_cons_succ]
                                          refine wpAnyH_take (i := 15) (oi := ?oitba15) (v := .agg #[.slice pa pn pc]) ?hitba15 (by kernel_rfl) (by kernel_rfl) (by kernel_rfl) ?hqtba15 ?hytba15 hHeld ?hrtba15
                                          case hitba15 =>
                                            simp only [List.getElem?_toArray, List.getElem?_cons_succ, List.getElem?_cons_zero]
                                            rfl
                                          case hqtba15 => exact fun _ _ _ h => h
                                          case hytba15 => exact Or.inl ⟨by kernel_rfl, fun w hSw => by obtain ⟨s0, s1⟩ := hSw; go_simp⟩
                                          try simp only [Act.put, List.setIfInBounds_toArray, List.set_cons_zero, List.set_cons_succ]
                                          refine wpAnyH_take (i := 17) (oi := ?oitba17) (v := .int .i64 (j : Int)) ?hitba17 (by kernel_rfl) (by kernel_rfl) (by kernel_rfl) ?hqtba17 ?hytba17 hHeld ?hrtba17
                                          case hitba17 =>
                                            simp only [List.getElem?_toArray, List.getElem?_cons_succ, List.getElem?_cons_zero]
                                            rfl
                                          case hqtba17 => exact fun _ _ _ h => h
                                          case hytba17 => exact Or.inl ⟨by kernel_rfl, fun w hSw => by go_simp⟩
                                          try simp only [Act.put, List.setIfInBounds_toArray, List.set_cons_zero, List.set_cons_succ]
                                          refine wpAnyH_ready (rs := [12]) (by kernel_rfl) (by simp) ?_
                                          refine (AllReadyH.cons (o := ?ootba12) ?hotba12 (fun K hK => ?hktba12) AllReadyH.nil)
                                          case hotba12 =>
                                            simp only [List.getElem?_toArray, List.getElem?_cons_succ, List.getElem?_cons_zero]
                                            rfl
                                          case hktba12 =>
                                            go_simp
                                            go_at_call 16
                                            refine (hq2 y2c Y2C.out).mono ?_
                                            rintro e y3a ⟨tv3p, tus3p, rfl, ot3p, _, bq⟩
                                            have Y3A : Hid (Below v6.heap.size v6 y3a) := low_stepC Y2C.out bq
                                            obtain ⟨g3p, tc3p, rfl⟩ := row_some ot3p (by omega)
                                            obtain ⟨u3p, _, cu3p, ou3p⟩ := ot3p.at (j := 0) hU2
                                            rw [ho3] at ou3p
                                            have CU3p : Hid (y3a.cell? ⟨g3p, 0, none⟩ = some u3p) := cu3p
                                            have RU3p : Hid (Reads y3a u3p (ints os)) := reads_own ou3p
                                            clear bq ot3p ou3p
                                            try go_wp2_with fail
                                            refine hK.out _ _ (HTv.out _ Y3A.out) (fun hHeld => ?_)
                                            clear hK K
                                            try simp only [Act.put, List.setIfInBounds_toArray, List.set_cons_zero, List.set_cons_succ]
                                            refine wpAnyH_take (i := 13) (oi := ?oitba13) (v := .pointer (some ⟨g3p, 0, none⟩)) ?hitba13 (by kernel_rfl) (by kernel_rfl) (by kernel_rfl) ?hqtba13 ?hytba13 hHeld ?hrtba13
                                            case hitba13 =>
                                              simp only [List.getElem?_toArray, List.getElem?_cons_succ, List.getElem?_cons_zero]
                                              rfl
                                            case hqtba13 => exact fun _ _ _ h => h
                                            case hytba13 => exact Or.inl ⟨by kernel_rfl, fun w hSw => by go_simp⟩
                                            try simp only [Act.put, List.setIfInBounds_toArray, List.set_cons_zero, List.set_cons_succ]
                                            refine wpAnyH_ready (rs := [14, 16]) (by kernel_rfl) (by simp) ?_
                                            refine (AllReadyH.cons (o := ?ootba14) ?hotba14 (fun K hK => ?hktba14) (AllReadyH.cons (o := ?ootba16) ?hotba16 (fun K hK => ?hktba16) AllReadyH.nil))
                                            case hotba14 =>
                                              simp only [List.getElem?_toArray, List.getElem?_cons_succ, List.getElem?_cons_zero]
                                              rfl
                                            case hotba16 =>
                                              simp only [List.getElem?_toArray, List.getElem?_cons_succ, List.getElem?_cons_zero]
                                              rfl
                                            case hktba14 =>
                                              go_simp
                                              try go_wp2_with fail
                                              refine hK.out _ _ (HTv.out _ Y3A.out) (fun hHeld => ?_)
                                              clear hK K
                                              try simp only [Act.put, List.setIfInBounds_toArray, List.set_cons_zero, List.set_cons_succ]
                                              refine wpAnyH_ready (rs := [16]) (by kernel_rfl) (by simp) ?_
                                              refine (AllReadyH.cons (o := ?ootbaa16) ?hotbaa16 (fun K hK => ?hktbaa16) AllReadyH.nil)
                                              case hotbaa16 =>
                                                simp only [List.getElem?_toArray, List.getElem?_cons_succ, List.getElem?_cons_zero]
                                                rfl
                                              case hktbaa16 =>
                                                go_simp
                                                go_at_call 16
                                                refine (hp2 y3a Y3A.out).mono ?_
                                                rintro e y3b ⟨tv3q, tus3q, rfl, ot3q, _, bq⟩
                                                have Y3B : Hid (Below v6.heap.size v6 y3b) := low_stepC Y3A.out bq
                                                have BB3 : Hid (Below y3a.heap.size y3a y3b) := bq
                                                have cu3p := cell_stepC CU3p.out bq
                                                obtain ⟨g3q, tc3q, rfl⟩ := row_some ot3q (by omega)
                                                obtain ⟨u3q, _, cu3q, ou3q⟩ := ot3q.at (j := j) hT2
                                                rw [ho4] at ou3q
                                                have CU3q : Hid (y3b.cell? ⟨g3q, j, none⟩ = some u3q) := cu3q
                                                have RU3q : Hid (Reads y3b u3q (ints os)) := reads_own ou3q
                                                clear bq ot3q ou3q
                                                try go_wp2_with fail
                                                refine hK.out _ _ (HTv.out _ Y3B.out) (fun hHeld => ?_)
                                                clear hK K
                                                try simp only [Act.put, List.setIfInBounds_toArray, List.set_cons_zero, List.set_cons_succ]
                                                refine wpAnyH_take (i := 18) (oi := ?oitbaa18) (v := .pointer (some ⟨g3q, j, none⟩)) ?hitbaa18 (by kernel_rfl) (by kernel_rfl) (by kernel_rfl) ?hqtbaa18 ?hytbaa18 hHeld ?hrtbaa18
                                                case hitbaa18 =>
                                                  simp only [List.getElem?_toArray, List.getElem?_cons_succ, List.getElem?_cons_zero]
                                                  rfl
                                                case hqtbaa18 => exact fun _ _ _ h => h
                                                case hytbaa18 => exact Or.inl ⟨by kernel_rfl, fun w hSw => by go_simp⟩
                                                try simp only [Act.put, List.setIfInBounds_toArray, List.set_cons_zero, List.set_cons_succ]
                                                refine wpAnyH_ready (rs := [19]) (by kernel_rfl) (by simp) ?_
                                                refine (AllReadyH.cons (o := ?ootbaa19) ?hotbaa19 (fun K hK => ?hktbaa19) AllReadyH.nil)
                                                case hotbaa19 =>
                                                  simp only [List.getElem?_toArray, List.getElem?_cons_succ, List.getElem?_cons_zero]
                                                  rfl
                                                case hktbaa19 =>
                                                  go_simp
                                                  try go_wp2_with fail
                                                  refine hK.out _ _ (HTv.out _ Y3B.out) (fun hHeld => ?_)
                                                  clear hK K
                                                  try simp only [Act.put, List.setIfInBounds_toArray, List.set_cons_zero, List.set_cons_succ]
                                                  refine wpAnyH_ready (rs := [20]) (by kernel_rfl) (by simp) ?_
                                                  refine (AllReadyH.cons (o := ?ootbaa20) ?hotbaa20 (fun K hK => ?hktbaa20) AllReadyH.nil)
                                                  case hotbaa20 =>
                                                    simp only [List.getElem?_toArray, List.getElem?_cons_succ, List.getElem?_cons_zero]
                                                    rfl
                                                  case hktbaa20 =>
                                                    go_simp
                                                    go_at_call 15
                                                    refine (likeInts os u3p u3q y3b hol (reads_below RU3p.out BB3.out) RU3q.out).mono ?_
                                                    rintro e y3c ⟨rfl, bq⟩
                                                    have Y3C : Hid (Below v6.heap.size v6 y3c) := low_stepC Y3B.out bq
                                                    clear bq RU3p RU3q
                                                    try go_wp2_with fail
                                                    refine hK.out _ _ (HTv.out _ Y3C.out) (fun hHeld => ?_)
                                                    clear hK K
                                                    try simp only [Act.put, List.setIfInBounds_toArray, List.set_cons_zero, List.set_cons_succ]
                                                    refine wpAnyH_take (i := 21) (oi := ?oitbaa21) (v := .bool true) ?hitbaa21 (by kernel_rfl) (by kernel_rfl) (by kernel_rfl) ?hqtbaa21 ?hytbaa21 hHeld ?hrtbaa21
                                                    case hitbaa21 =>
                                                      simp only [List.getElem?_toArray, List.getElem?_cons_succ, List.getElem?_cons_zero]
                                                      rfl
                                                    case hqtbaa21 => exact fun _ _ _ h => h
                                                    case hytbaa21 => exact Or.inl ⟨by kernel_rfl, fun w hSw => by go_simp⟩
                                                    try simp only [Act.put, List.setIfInBounds_toArray, List.set_cons_zero, List.set_cons_succ]
                                                    refine wpAnyH_take (i := 22) (oi := ?oitbaa22) (v := .bool true) ?hitbaa22 (by kernel_rfl) (by kernel_rfl) (by kernel_rfl) ?hqtbaa22 ?hytbaa22 hHeld ?hrtbaa22
                                                    case hitbaa22 =>
                                                      simp only [List.getElem?_toArray, List.getElem?_cons_succ, List.getElem?_cons_zero]
                                                      rfl
                                                    case hqtbaa22 => exact fun _ _ _ h => h
                                                    case hytbaa22 => exact Or.inl ⟨by kernel_rfl, fun w hSw => by go_simp⟩
                                                    try simp only [Act.put, List.setIfInBounds_toArray, List.set_cons_zero, List.set_cons_succ]
                                                    refine wpAnyH_done (by kernel_rfl) ?_ _
                                                    have HBE : Hid (Below w.heap.size w y3c) := low_stepC LOWv.out Y3C.out
                                                    clear hS9 hq1 hp1 hq2 hp2
                                                    go_wp2
                                                    go_ret
                                                    exact ⟨rfl, HBE.out⟩
                                            case hktba16 =>
                                              go_simp
                                              go_at_call 16
                                              refine (hp2 y3a Y3A.out).mono ?_
                                              rintro e y3b ⟨tv3q, tus3q, rfl, ot3q, _, bq⟩
                                              have Y3B : Hid (Below v6.heap.size v6 y3b) := low_stepC Y3A.out bq
                                              have BB3 : Hid (Below y3a.heap.size y3a y3b) := bq
                                              have cu3p := cell_stepC CU3p.out bq
                                              obtain ⟨g3q, tc3q, rfl⟩ := row_some ot3q (by omega)
                                              obtain ⟨u3q, _, cu3q, ou3q⟩ := ot3q.at (j := j) hT2
                                              rw [ho4] at ou3q
                                              have CU3q : Hid (y3b.cell? ⟨g3q, j, none⟩ = some u3q) := cu3q
                                              have RU3q : Hid (Reads y3b u3q (ints os)) := reads_own ou3q
                                              clear bq ot3q ou3q
                                              try go_wp2_with fail
                                              refine hK.out _ _ (HTv.out _ Y3B.out) (fun hHeld => ?_)
                                              clear hK K
                                              try simp only [Act.put, List.setIfInBounds_toArray, List.set_cons_zero, List.set_cons_succ]
                                              refine wpAnyH_take (i := 18) (oi := ?oitbab18) (v := .pointer (some ⟨g3q, j, none⟩)) ?hitbab18 (by kernel_rfl) (by kernel_rfl) (by kernel_rfl) ?hqtbab18 ?hytbab18 hHeld ?hrtbab18
                                              case hitbab18 =>
                                                simp only [List.getElem?_toArray, List.getElem?_cons_succ, List.getElem?_cons_zero]
                                                rfl
                                              case hqtbab18 => exact fun _ _ _ h => h
                                              case hytbab18 => exact Or.inl ⟨by kernel_rfl, fun w hSw => by go_simp⟩
                                              try simp only [Act.put, List.setIfInBounds_toArray, List.set_cons_zero, List.set_cons_succ]
                                              refine wpAnyH_ready (rs := [14, 19]) (by kernel_rfl) (by simp) ?_
                                              refine (AllReadyH.cons (o := ?ootbab14) ?hotbab14 (fun K hK => ?hktbab14) (AllReadyH.cons (o := ?ootbab19) ?hotbab19 (fun K hK => ?hktbab19) AllReadyH.nil))
                                              case hotbab14 =>
                                                simp only [List.getElem?_toArray, List.getElem?_cons_succ, List.getElem?_cons_zero]
                                                rfl
                                              case hotbab19 =>
                                                simp only [List.getElem?_toArray, List.getElem?_cons_succ, List.getElem?_cons_zero]
                                                rfl
                                              case hktbab14 =>
                                                go_simp
                                                try go_wp2_with fail
                                                refine hK.out _ _ (HTv.out _ Y3B.out) (fun hHeld => ?_)
                                                clear hK K
                                                try simp only [Act.put, List.setIfInBounds_toArray, List.set_cons_zero, List.set_cons_succ]
                                                refine wpAnyH_ready (rs := [19]) (by kernel_rfl) (by simp) ?_
                                                refine (AllReadyH.cons (o := ?ootbaba19) ?hotbaba19 (fun K hK => ?hktbaba19) AllReadyH.nil)
                                                case hotbaba19 =>
                                                  simp only [List.getElem?_toArray, List.getElem?_cons_succ, List.getElem?_cons_zero]
                                                  rfl
                                                case hktbaba19 =>
                                                  go_simp
                                                  try go_wp2_with fail
                                                  refine hK.out _ _ (HTv.out _ Y3B.out) (fun hHeld => ?_)
                                                  clear hK K
                                                  try simp only [Act.put, List.setIfInBounds_toArray, List.set_cons_zero, List.set_cons_succ]
                                                  refine wpAnyH_ready (rs := [20]) (by kernel_rfl) (by simp) ?_
                                                  refine (AllReadyH.cons (o := ?ootbaba20) ?hotbaba20 (fun K hK => ?hktbaba20) AllReadyH.nil)
                                                  case hotbaba20 =>
                                                    simp only [List.getElem?_toArray, List.getElem?_cons_succ, List.getElem?_cons_zero]
                                                    rfl
                                                  case hktbaba20 =>
                                                    go_simp
                                                    go_at_call 15
                                                    refine (likeInts os u3p u3q y3b hol (reads_below RU3p.out BB3.out) RU3q.out).mono ?_
                                                    rintro e y3c ⟨rfl, bq⟩
                                                    have Y3C : Hid (Below v6.heap.size v6 y3c) := low_stepC Y3B.out bq
                                                    clear bq RU3p RU3q
                                                    try go_wp2_with fail
                                                    refine hK.out _ _ (HTv.out _ Y3C.out) (fun hHeld => ?_)
                                                    clear hK K
                                                    try simp only [Act.put, List.setIfInBounds_toArray, List.set_cons_zero, List.set_cons_succ]
                                                    refine wpAnyH_take (i := 21) (oi := ?oitbaba21) (v := .bool true) ?hitbaba21 (by kernel_rfl) (by kernel_rfl) (by kernel_rfl) ?hqtbaba21 ?hytbaba21 hHeld ?hrtbaba21
                                                    case hitbaba21 =>
                                                      simp only [List.getElem?_toArray, List.getElem?_cons_succ, List.getElem?_cons_zero]
                                                      rfl
                                                    case hqtbaba21 => exact fun _ _ _ h => h
                                                    case hytbaba21 => exact Or.inl ⟨by kernel_rfl, fun w hSw => by go_simp⟩
                                                    try simp only [Act.put, List.setIfInBounds_toArray, List.set_cons_zero, List.set_cons_succ]
                                                    refine wpAnyH_take (i := 22) (oi := ?oitbaba22) (v := .bool true) ?hitbaba22 (by kernel_rfl) (by kernel_rfl) (by kernel_rfl) ?hqtbaba22 ?hytbaba22 hHeld ?hrtbaba22
                                                    case hitbaba22 =>
                                                      simp only [List.getElem?_toArray, List.getElem?_cons_succ, List.getElem?_cons_zero]
                                                      rfl
                                                    case hqtbaba22 => exact fun _ _ _ h => h
                                                    case hytbaba22 => exact Or.inl ⟨by kernel_rfl, fun w hSw => by go_simp⟩
                                                    try simp only [Act.put, List.setIfInBounds_toArray, List.set_cons_zero, List.set_cons_succ]
                                                    refine wpAnyH_done (by kernel_rfl) ?_ _
                                                    have HBE : Hid (Below w.heap.size w y3c) := low_stepC LOWv.out Y3C.out
                                                    clear hS9 hq1 hp1 hq2 hp2
                                                    go_wp2
                                                    go_ret
                                                    exact ⟨rfl, HBE.out⟩
                                              case hktbab19 =>
                                                go_simp
                                                try go_wp2_with fail
                                                refine hK.out _ _ (HTv.out _ Y3B.out) (fun hHeld => ?_)
                                                clear hK K
                                                try simp only [Act.put, List.setIfInBounds_toArray, List.set_cons_zero, List.set_cons_succ]
                                                refine wpAnyH_ready (rs := [14]) (by kernel_rfl) (by simp) ?_
                                                refine (AllReadyH.cons (o := ?ootbabb14) ?hotbabb14 (fun K hK => ?hktbabb14) AllReadyH.nil)
                                                case hotbabb14 =>
                                                  simp only [List.getElem?_toArray, List.getElem?_cons_succ, List.getElem?_cons_zero]
                                                  rfl
                                                case hktbabb14 =>
                                                  go_simp
                                                  try go_wp2_with fail
                                                  refine hK.out _ _ (HTv.out _ Y3B.out) (fun hHeld => ?_)
                                                  clear hK K
                                                  try simp only [Act.put, List.setIfInBounds_toArray, List.set_cons_zero, List.set_cons_succ]
                                                  refine wpAnyH_ready (rs := [20]) (by kernel_rfl) (by simp) ?_
                                                  refine (AllReadyH.cons (o := ?ootbabb20) ?hotbabb20 (fun K hK => ?hktbabb20) AllReadyH.nil)
                                                  case hotbabb20 =>
                                                    simp only [List.getElem?_toArray, List.getElem?_cons_succ, List.getElem?_cons_zero]
                                                    rfl
                                                  case hktbabb20 =>
                                                    go_simp
                                                    go_at_call 15
                                                    refine (likeInts os u3p u3q y3b hol (reads_below RU3p.out BB3.out) RU3q.out).mono ?_
                                                    rintro e y3c ⟨rfl, bq⟩
                                                    have Y3C : Hid (Below v6.heap.size v6 y3c) := low_stepC Y3B.out bq
                                                    clear bq RU3p RU3q
                                                    try go_wp2_with fail
                                                    refine hK.out _ _ (HTv.out _ Y3C.out) (fun hHeld => ?_)
                                                    clear hK K
                                                    try simp only [Act.put, List.setIfInBounds_toArray, List.set_cons_zero, List.set_cons_succ]
                                                    refine wpAnyH_take (i := 21) (oi := ?oitbabb21) (v := .bool true) ?hitbabb21 (by kernel_rfl) (by kernel_rfl) (by kernel_rfl) ?hqtbabb21 ?hytbabb21 hHeld ?hrtbabb21
                                                    case hitbabb21 =>
                                                      simp only [List.getElem?_toArray, List.getElem?_cons_succ, List.getElem?_cons_zero]
                                                      rfl
                                                    case hqtbabb21 => exact fun _ _ _ h => h
                                                    case hytbabb21 => exact Or.inl ⟨by kernel_rfl, fun w hSw => by go_simp⟩
                                                    try simp only [Act.put, List.setIfInBounds_toArray, List.set_cons_zero, List.set_cons_succ]
                                                    refine wpAnyH_take (i := 22) (oi := ?oitbabb22) (v := .bool true) ?hitbabb22 (by kernel_rfl) (by kernel_rfl) (by kernel_rfl) ?hqtbabb22 ?hytbabb22 hHeld ?hrtbabb22
                                                    case hitbabb22 =>
                                                      simp only [List.getElem?_toArray, List.getElem?_cons_succ, List.getElem?_cons_zero]
                                                      rfl
                                                    case hqtbabb22 => exact fun _ _ _ h => h
                                                    case hytbabb22 => exact Or.inl ⟨by kernel_rfl, fun w hSw => by go_simp⟩
                                                    try simp only [Act.put, List.setIfInBounds_toArray, List.set_cons_zero, List.set_cons_succ]
                                                    refine wpAnyH_done (by kernel_rfl) ?_ _
                                                    have HBE : Hid (Below w.heap.size w y3c) := low_stepC LOWv.out Y3C.out
                                                    clear hS9 hq1 hp1 hq2 hp2
                                                    go_wp2
                                                    go_ret
                                                    exact ⟨rfl, HBE.out⟩
                                    case hktb8 =>
                                      go_simp
                                      try go_wp2_with fail
                                      refine hK.out _ _ (HTv.out _ Y2B.out) (fun hHeld => ?_)
                                      clear hK K
                                      try simp only [Act.put, List.setIfInBounds_toArray, List.set_cons_zero, List.set_cons_succ]
                                      refine wpAnyH_ready (rs := [3]) (by kernel_rfl) (by simp) ?_
                                      refine (AllReadyH.cons (o := ?ootbb3) ?hotbb3 (fun K hK => ?hktbb3) AllReadyH.nil)
                                      case hotbb3 =>
                                        simp only [List.getElem?_toArray, List.getElem?_cons_succ, List.getElem?_cons_zero]
                                        rfl
                                      case hktbb3 =>
                                        go_simp
                                        try go_wp2_with fail
                                        refine hK.out _ _ (HTv.out _ Y2B.out) (fun hHeld => ?_)
                                        clear hK K
                                        try simp only [Act.put, List.setIfInBounds_toArray, List.set_cons_zero, List.set_cons_succ]
                                        refine wpAnyH_ready (rs := [9]) (by kernel_rfl) (by simp) ?_
                                        refine (AllReadyH.cons (o := ?ootbb9) ?hotbb9 (fun K hK => ?hktbb9) AllReadyH.nil)
                                        case hotbb9 =>
                                          simp only [List.getElem?_toArray, List.getElem?_cons_succ, List.getElem?_cons_zero]
                                          rfl
                                        case hktbb9 =>
                                          go_simp
                                          go_at_call 15
                                          refine (likeInts ns u2p u2q y2b hnl (reads_below RU2p.out BB2.out) RU2q.out).mono ?_
                                          rintro e y2c ⟨rfl, bq⟩
                                          have Y2C : Hid (Below v6.heap.size v6 y2c) := low_stepC Y2B.out bq
                                          clear bq RU2p RU2q
                                          try go_wp2_with fail
                                          refine hK.out _ _ (HTv.out _ Y2C.out) (fun hHeld => ?_)
                                          clear hK K
                                          try simp only [Act.put, List.setIfInBounds_toArray, List.set_cons_zero, List.set_cons_succ]
                                          refine wpAnyH_take (i := 10) (oi := ?oitbb10) (v := .bool true) ?hitbb10 (by kernel_rfl) (by kernel_rfl) (by kernel_rfl) ?hqtbb10 ?hytbb10 hHeld ?hrtbb10
                                          case hitbb10 =>
                                            simp only [List.getElem?_toArray, List.getElem?_cons_succ, List.getElem?_cons_zero]
                                            rfl
                                          case hqtbb10 => exact fun _ _ _ h => h
                                          case hytbb10 => exact Or.inl ⟨by kernel_rfl, fun w hSw => by go_simp⟩
                                          try simp only [Act.put, List.setIfInBounds_toArray, List.set_cons_zero, List.set_cons_succ]
                                          refine wpAnyH_take (i := 11) (oi := ?oitbb11) (v := .agg #[.slice ca cn cc]) ?hitbb11 (by kernel_rfl) (by kernel_rfl) (by kernel_rfl) ?hqtbb11 ?hytbb11 hHeld ?hrtbb11
                                          case hitbb11 =>
                                            simp only [List.getElem?_toArray, List.getElem?_cons_succ, List.getElem?_cons_zero]
                                            rfl
                                          case hqtbb11 => exact fun _ _ _ h => h
                                          case hytbb11 => exact Or.inl ⟨by kernel_rfl, fun w hSw => by obtain ⟨s0, s1⟩ := hSw; go_simp⟩
                                          try simp only [Act.put, List.setIfInBounds_toArray, List.set_cons_zero, List.set_cons_succ]
                                          refine wpAnyH_take (i := 15) (oi := ?oitbb15) (v := .agg #[.slice pa pn pc]) ?hitbb15 (by kernel_rfl) (by kernel_rfl) (by kernel_rfl) ?hqtbb15 ?hytbb15 hHeld ?hrtbb15
                                          case hitbb15 =>
                                            simp only [List.getElem?_toArray, List.getElem?_cons_succ, List.getElem?_cons_zero]
                                            rfl
                                          case hqtbb15 => exact fun _ _ _ h => h
                                          case hytbb15 => exact Or.inl ⟨by kernel_rfl, fun w hSw => by obtain ⟨s0, s1⟩ := hSw; go_simp⟩
                                          try simp only [Act.put, List.setIfInBounds_toArray, List.set_cons_zero, List.set_cons_succ]
                                          refine wpAnyH_take (i := 17) (oi := ?oitbb17) (v := .int .i64 (j : Int)) ?hitbb17 (by kernel_rfl) (by kernel_rfl) (by kernel_rfl) ?hqtbb17 ?hytbb17 hHeld ?hrtbb17
                                          case hitbb17 =>
                                            simp only [List.getElem?_toArray, List.getElem?_cons_succ, List.getElem?_cons_zero]
                                            rfl
                                          case hqtbb17 => exact fun _ _ _ h => h
                                          case hytbb17 => exact Or.inl ⟨by kernel_rfl, fun w hSw => by go_simp⟩
                                          try simp only [Act.put, List.setIfInBounds_toArray, List.set_cons_zero, List.set_cons_succ]
                                          refine wpAnyH_ready (rs := [12]) (by kernel_rfl) (by simp) ?_
                                          refine (AllReadyH.cons (o := ?ootbb12) ?hotbb12 (fun K hK => ?hktbb12) AllReadyH.nil)
                                          case hotbb12 =>
                                            simp only [List.getElem?_toArray, List.getElem?_cons_succ, List.getElem?_cons_zero]
                                            rfl
                                          case hktbb12 =>
                                            go_simp
                                            go_at_call 16
                                            refine (hq2 y2c Y2C.out).mono ?_
                                            rintro e y3a ⟨tv3p, tus3p, rfl, ot3p, _, bq⟩
                                            have Y3A : Hid (Below v6.heap.size v6 y3a) := low_stepC Y2C.out bq
                                            obtain ⟨g3p, tc3p, rfl⟩ := row_some ot3p (by omega)
                                            obtain ⟨u3p, _, cu3p, ou3p⟩ := ot3p.at (j := 0) hU2
                                            rw [ho3] at ou3p
                                            have CU3p : Hid (y3a.cell? ⟨g3p, 0, none⟩ = some u3p) := cu3p
                                            have RU3p : Hid (Reads y3a u3p (ints os)) := reads_own ou3p
                                            clear bq ot3p ou3p
                                            try go_wp2_with fail
                                            refine hK.out _ _ (HTv.out _ Y3A.out) (fun hHeld => ?_)
                                            clear hK K
                                            try simp only [Act.put, List.setIfInBounds_toArray, List.set_cons_zero, List.set_cons_succ]
                                            refine wpAnyH_take (i := 13) (oi := ?oitbb13) (v := .pointer (some ⟨g3p, 0, none⟩)) ?hitbb13 (by kernel_rfl) (by kernel_rfl) (by kernel_rfl) ?hqtbb13 ?hytbb13 hHeld ?hrtbb13
                                            case hitbb13 =>
                                              simp only [List.getElem?_toArray, List.getElem?_cons_succ, List.getElem?_cons_zero]
                                              rfl
                                            case hqtbb13 => exact fun _ _ _ h => h
                                            case hytbb13 => exact Or.inl ⟨by kernel_rfl, fun w hSw => by go_simp⟩
                                            try simp only [Act.put, List.setIfInBounds_toArray, List.set_cons_zero, List.set_cons_succ]
                                            refine wpAnyH_ready (rs := [14, 16]) (by kernel_rfl) (by simp) ?_
                                            refine (AllReadyH.cons (o := ?ootbb14) ?hotbb14 (fun K hK => ?hktbb14) (AllReadyH.cons (o := ?ootbb16) ?hotbb16 (fun K hK => ?hktbb16) AllReadyH.nil))
                                            case hotbb14 =>
                                              simp only [List.getElem?_toArray, List.getElem?_cons_succ, List.getElem?_cons_zero]
                                              rfl
                                            case hotbb16 =>
                                              simp only [List.getElem?_toArray, List.getElem?_cons_succ, List.getElem?_cons_zero]
                                              rfl
                                            case hktbb14 =>
                                              go_simp
                                              try go_wp2_with fail
                                              refine hK.out _ _ (HTv.out _ Y3A.out) (fun hHeld => ?_)
                                              clear hK K
                                              try simp only [Act.put, List.setIfInBounds_toArray, List.set_cons_zero, List.set_cons_succ]
                                              refine wpAnyH_ready (rs := [16]) (by kernel_rfl) (by simp) ?_
                                              refine (AllReadyH.cons (o := ?ootbba16) ?hotbba16 (fun K hK => ?hktbba16) AllReadyH.nil)
                                              case hotbba16 =>
                                                simp only [List.getElem?_toArray, List.getElem?_cons_succ, List.getElem?_cons_zero]
                                                rfl
                                              case hktbba16 =>
                                                go_simp
                                                go_at_call 16
                                                refine (hp2 y3a Y3A.out).mono ?_
                                                rintro e y3b ⟨tv3q, tus3q, rfl, ot3q, _, bq⟩
                                                have Y3B : Hid (Below v6.heap.size v6 y3b) := low_stepC Y3A.out bq
                                                have BB3 : Hid (Below y3a.heap.size y3a y3b) := bq
                                                have cu3p := cell_stepC CU3p.out bq
                                                obtain ⟨g3q, tc3q, rfl⟩ := row_some ot3q (by omega)
                                                obtain ⟨u3q, _, cu3q, ou3q⟩ := ot3q.at (j := j) hT2
                                                rw [ho4] at ou3q
                                                have CU3q : Hid (y3b.cell? ⟨g3q, j, none⟩ = some u3q) := cu3q
                                                have RU3q : Hid (Reads y3b u3q (ints os)) := reads_own ou3q
                                                clear bq ot3q ou3q
                                                try go_wp2_with fail
                                                refine hK.out _ _ (HTv.out _ Y3B.out) (fun hHeld => ?_)
                                                clear hK K
                                                try simp only [Act.put, List.setIfInBounds_toArray, List.set_cons_zero, List.set_cons_succ]
                                                refine wpAnyH_take (i := 18) (oi := ?oitbba18) (v := .pointer (some ⟨g3q, j, none⟩)) ?hitbba18 (by kernel_rfl) (by kernel_rfl) (by kernel_rfl) ?hqtbba18 ?hytbba18 hHeld ?hrtbba18
                                                case hitbba18 =>
                                                  simp only [List.getElem?_toArray, List.getElem?_cons_succ, List.getElem?_cons_zero]
                                                  rfl
                                                case hqtbba18 => exact fun _ _ _ h => h
                                                case hytbba18 => exact Or.inl ⟨by kernel_rfl, fun w hSw => by go_simp⟩
                                                try simp only [Act.put, List.setIfInBounds_toArray, List.set_cons_zero, List.set_cons_succ]
                                                refine wpAnyH_ready (rs := [19]) (by kernel_rfl) (by simp) ?_
                                                refine (AllReadyH.cons (o := ?ootbba19) ?hotbba19 (fun K hK => ?hktbba19) AllReadyH.nil)
                                                case hotbba19 =>
                                                  simp only [List.getElem?_toArray, List.getElem?_cons_succ, List.getElem?_cons_zero]
                                                  rfl
                                                case hktbba19 =>
                                                  go_simp
                                                  try go_wp2_with fail
                                                  refine hK.out _ _ (HTv.out _ Y3B.out) (fun hHeld => ?_)
                                                  clear hK K
                                                  try simp only [Act.put, List.setIfInBounds_toArray, List.set_cons_zero, List.set_cons_succ]
                                                  refine wpAnyH_ready (rs := [20]) (by kernel_rfl) (by simp) ?_
                                                  refine (AllReadyH.cons (o := ?ootbba20) ?hotbba20 (fun K hK => ?hktbba20) AllReadyH.nil)
                                                  case hotbba20 =>
                                                    simp only [List.getElem?_toArray, List.getElem?_cons_succ, List.getElem?_cons_zero]
                                                    rfl
                                                  case hktbba20 =>
                                                    go_simp
                                                    go_at_call 15
                                                    refine (likeInts os u3p u3q y3b hol (reads_below RU3p.out BB3.out) RU3q.out).mono ?_
                                                    rintro e y3c ⟨rfl, bq⟩
                                                    have Y3C : Hid (Below v6.heap.size v6 y3c) := low_stepC Y3B.out bq
                                                    clear bq RU3p RU3q
                                                    try go_wp2_with fail
                                                    refine hK.out _ _ (HTv.out _ Y3C.out) (fun hHeld => ?_)
                                                    clear hK K
                                                    try simp only [Act.put, List.setIfInBounds_toArray, List.set_cons_zero, List.set_cons_succ]
                                                    refine wpAnyH_take (i := 21) (oi := ?oitbba21) (v := .bool true) ?hitbba21 (by kernel_rfl) (by kernel_rfl) (by kernel_rfl) ?hqtbba21 ?hytbba21 hHeld ?hrtbba21
                                                    case hitbba21 =>
                                                      simp only [List.getElem?_toArray, List.getElem?_cons_succ, List.getElem?_cons_zero]
                                                      rfl
                                                    case hqtbba21 => exact fun _ _ _ h => h
                                                    case hytbba21 => exact Or.inl ⟨by kernel_rfl, fun w hSw => by go_simp⟩
                                                    try simp only [Act.put, List.setIfInBounds_toArray, List.set_cons_zero, List.set_cons_succ]
                                                    refine wpAnyH_take (i := 22) (oi := ?oitbba22) (v := .bool true) ?hitbba22 (by kernel_rfl) (by kernel_rfl) (by kernel_rfl) ?hqtbba22 ?hytbba22 hHeld ?hrtbba22
                                                    case hitbba22 =>
                                                      simp only [List.getElem?_toArray, List.getElem?_cons_succ, List.getElem?_cons_zero]
                                                      rfl
                                                    case hqtbba22 => exact fun _ _ _ h => h
                                                    case hytbba22 => exact Or.inl ⟨by kernel_rfl, fun w hSw => by go_simp⟩
                                                    try simp only [Act.put, List.setIfInBounds_toArray, List.set_cons_zero, List.set_cons_succ]
                                                    refine wpAnyH_done (by kernel_rfl) ?_ _
                                                    have HBE : Hid (Below w.heap.size w y3c) := low_stepC LOWv.out Y3C.out
                                                    clear hS9 hq1 hp1 hq2 hp2
                                                    go_wp2
                                                    go_ret
                                                    exact ⟨rfl, HBE.out⟩
                                            case hktbb16 =>
                                              go_simp
                                              go_at_call 16
                                              refine (hp2 y3a Y3A.out).mono ?_
                                              rintro e y3b ⟨tv3q, tus3q, rfl, ot3q, _, bq⟩
                                              have Y3B : Hid (Below v6.heap.size v6 y3b) := low_stepC Y3A.out bq
                                              have BB3 : Hid (Below y3a.heap.size y3a y3b) := bq
                                              have cu3p := cell_stepC CU3p.out bq
                                              obtain ⟨g3q, tc3q, rfl⟩ := row_some ot3q (by omega)
                                              obtain ⟨u3q, _, cu3q, ou3q⟩ := ot3q.at (j := j) hT2
                                              rw [ho4] at ou3q
                                              have CU3q : Hid (y3b.cell? ⟨g3q, j, none⟩ = some u3q) := cu3q
                                              have RU3q : Hid (Reads y3b u3q (ints os)) := reads_own ou3q
                                              clear bq ot3q ou3q
                                              try go_wp2_with fail
                                              refine hK.out _ _ (HTv.out _ Y3B.out) (fun hHeld => ?_)
                                              clear hK K
                                              try simp only [Act.put, List.setIfInBounds_toArray, List.set_cons_zero, List.set_cons_succ]
                                              refine wpAnyH_take (i := 18) (oi := ?oitbbb18) (v := .pointer (some ⟨g3q, j, none⟩)) ?hitbbb18 (by kernel_rfl) (by kernel_rfl) (by kernel_rfl) ?hqtbbb18 ?hytbbb18 hHeld ?hrtbbb18
                                              case hitbbb18 =>
                                                simp only [List.getElem?_toArray, List.getElem?_cons_succ, List.getElem?_cons_zero]
                                                rfl
                                              case hqtbbb18 => exact fun _ _ _ h => h
                                              case hytbbb18 => exact Or.inl ⟨by kernel_rfl, fun w hSw => by go_simp⟩
                                              try simp only [Act.put, List.setIfInBounds_toArray, List.set_cons_zero, List.set_cons_succ]
                                              refine wpAnyH_ready (rs := [14, 19]) (by kernel_rfl) (by simp) ?_
                                              refine (AllReadyH.cons (o := ?ootbbb14) ?hotbbb14 (fun K hK => ?hktbbb14) (AllReadyH.cons (o := ?ootbbb19) ?hotbbb19 (fun K hK => ?hktbbb19) AllReadyH.nil))
                                              case hotbbb14 =>
                                                simp only [List.getElem?_toArray, List.getElem?_cons_succ, List.getElem?_cons_zero]
                                                rfl
                                              case hotbbb19 =>
                                                simp only [List.getElem?_toArray, List.getElem?_cons_succ, List.getElem?_cons_zero]
                                                rfl
                                              case hktbbb14 =>
                                                go_simp
                                                try go_wp2_with fail
                                                refine hK.out _ _ (HTv.out _ Y3B.out) (fun hHeld => ?_)
                                                clear hK K
                                                try simp only [Act.put, List.setIfInBounds_toArray, List.set_cons_zero, List.set_cons_succ]
                                                refine wpAnyH_ready (rs := [19]) (by kernel_rfl) (by simp) ?_
                                                refine (AllReadyH.cons (o := ?ootbbba19) ?hotbbba19 (fun K hK => ?hktbbba19) AllReadyH.nil)
                                                case hotbbba19 =>
                                                  simp only [List.getElem?_toArray, List.getElem?_cons_succ, List.getElem?_cons_zero]
                                                  rfl
                                                case hktbbba19 =>
                                                  go_simp
                                                  try go_wp2_with fail
                                                  refine hK.out _ _ (HTv.out _ Y3B.out) (fun hHeld => ?_)
                                                  clear hK K
                                                  try simp only [Act.put, List.setIfInBounds_toArray, List.set_cons_zero, List.set_cons_succ]
                                                  refine wpAnyH_ready (rs := [20]) (by kernel_rfl) (by simp) ?_
                                                  refine (AllReadyH.cons (o := ?ootbbba20) ?hotbbba20 (fun K hK => ?hktbbba20) AllReadyH.nil)
                                                  case hotbbba20 =>
                                                    simp only [List.getElem?_toArray, List.getElem?_cons_succ, List.getElem?_cons_zero]
                                                    rfl
                                                  case hktbbba20 =>
                                                    go_simp
                                                    go_at_call 15
                                                    refine (likeInts os u3p u3q y3b hol (reads_below RU3p.out BB3.out) RU3q.out).mono ?_
                                                    rintro e y3c ⟨rfl, bq⟩
                                                    have Y3C : Hid (Below v6.heap.size v6 y3c) := low_stepC Y3B.out bq
                                                    clear bq RU3p RU3q
                                                    try go_wp2_with fail
                                                    refine hK.out _ _ (HTv.out _ Y3C.out) (fun hHeld => ?_)
                                                    clear hK K
                                                    try simp only [Act.put, List.setIfInBounds_toArray, List.set_cons_zero, List.set_cons_succ]
                                                    refine wpAnyH_take (i := 21) (oi := ?oitbbba21) (v := .bool true) ?hitbbba21 (by kernel_rfl) (by kernel_rfl) (by kernel_rfl) ?hqtbbba21 ?hytbbba21 hHeld ?hrtbbba21
                                                    case hitbbba21 =>
                                                      simp only [List.getElem?_toArray, List.getElem?_cons_succ, List.getElem?_cons_zero]
                                                      rfl
                                                    case hqtbbba21 => exact fun _ _ _ h => h
                                                    case hytbbba21 => exact Or.inl ⟨by kernel_rfl, fun w hSw => by go_simp⟩
                                                    try simp only [Act.put, List.setIfInBounds_toArray, List.set_cons_zero, List.set_cons_succ]
                                                    refine wpAnyH_take (i := 22) (oi := ?oitbbba22) (v := .bool true) ?hitbbba22 (by kernel_rfl) (by kernel_rfl) (by kernel_rfl) ?hqtbbba22 ?hytbbba22 hHeld ?hrtbbba22
                                                    case hitbbba22 =>
                                                      simp only [List.getElem?_toArray, List.getElem?_cons_succ, List.getElem?_cons_zero]
                                                      rfl
                                                    case hqtbbba22 => exact fun _ _ _ h => h
                                                    case hytbbba22 => exact Or.inl ⟨by kernel_rfl, fun w hSw => by go_simp⟩
                                                    try simp only [Act.put, List.setIfInBounds_toArray, List.set_cons_zero, List.set_cons_succ]
                                                    refine wpAnyH_done (by kernel_rfl) ?_ _
                                                    have HBE : Hid (Below w.heap.size w y3c) := low_stepC LOWv.out Y3C.out
                                                    clear hS9 hq1 hp1 hq2 hp2
                                                    go_wp2
                                                    go_ret
                                                    exact ⟨rfl, HBE.out⟩
                                              case hktbbb19 =>
                                                go_simp
                                                try go_wp2_with fail
                                                refine hK.out _ _ (HTv.out _ Y3B.out) (fun hHeld => ?_)
                                                clear hK K
                                                try simp only [Act.put, List.setIfInBounds_toArray, List.set_cons_zero, List.set_cons_succ]
                                                refine wpAnyH_ready (rs := [14]) (by kernel_rfl) (by simp) ?_
                                                refine (AllReadyH.cons (o := ?ootbbbb14) ?hotbbbb14 (fun K hK => ?hktbbbb14) AllReadyH.nil)
                                                case hotbbbb14 =>
                                                  simp only [List.getElem?_toArray, List.getElem?_cons_succ, List.getElem?_cons_zero]
                                                  rfl
                                                case hktbbbb14 =>
                                                  go_simp
                                                  try go_wp2_with fail
                                                  refine hK.out _ _ (HTv.out _ Y3B.out) (fun hHeld => ?_)
                                                  clear hK K
                                                  try simp only [Act.put, List.setIfInBounds_toArray, List.set_cons_zero, List.set_cons_succ]
                                                  refine wpAnyH_ready (rs := [20]) (by kernel_rfl) (by simp) ?_
                                                  refine (AllReadyH.cons (o := ?ootbbbb20) ?hotbbbb20 (fun K hK => ?hktbbbb20) AllReadyH.nil)
                                                  case hotbbbb20 =>
                                                    simp only [List.getElem?_toArray, List.getElem?_cons_succ, List.getElem?_cons_zero]
                                                    rfl
                                                  case hktbbbb20 =>
                                                    go_simp
                                                    go_at_call 15
                                                    refine (likeInts os u3p u3q y3b hol (reads_below RU3p.out BB3.out) RU3q.out).mono ?_
                                                    rintro e y3c ⟨rfl, bq⟩
                                                    have Y3C : Hid (Below v6.heap.size v6 y3c) := low_stepC Y3B.out bq
                                                    clear bq RU3p RU3q
                                                    try go_wp2_with fail
                                                    refine hK.out _ _ (HTv.out _ Y3C.out) (fun hHeld => ?_)
                                                    clear hK K
                                                    try simp only [Act.put, List.setIfInBounds_toArray, List.set_cons_zero, List.set_cons_succ]
                                                    refine wpAnyH_take (i := 21) (oi := ?oitbbbb21) (v := .bool true) ?hitbbbb21 (by kernel_rfl) (by kernel_rfl) (by kernel_rfl) ?hqtbbbb21 ?hytbbbb21 hHeld ?hrtbbbb21
                                                    case hitbbbb21 =>
                                                      simp only [List.getElem?_toArray, List.getElem?_cons_succ, List.getElem?_cons_zero]
                                                      rfl
                                                    case hqtbbbb21 => exact fun _ _ _ h => h
                                                    case hytbbbb21 => exact Or.inl ⟨by kernel_rfl, fun w hSw => by go_simp⟩
                                                    try simp only [Act.put, List.setIfInBounds_toArray, List.set_cons_zero, List.set_cons_succ]
                                                    refine wpAnyH_take (i := 22) (oi := ?oitbbbb22) (v := .bool true) ?hitbbbb22 (by kernel_rfl) (by kernel_rfl) (by kernel_rfl) ?hqtbbbb22 ?hytbbbb22 hHeld ?hrtbbbb22
                                                    case hitbbbb22 =>
                                                      simp only [List.getElem?_toArray, List.getElem?_cons_succ, List.getElem?_cons_zero]
                                                      rfl
                                                    case hqtbbbb22 => exact fun _ _ _ h => h
                                                    case hytbbbb22 => exact Or.inl ⟨by kernel_rfl, fun w hSw => by go_simp⟩
                                                    try simp only [Act.put, List.setIfInBounds_toArray, List.set_cons_zero, List.set_cons_succ]
                                                    refine wpAnyH_done (by kernel_rfl) ?_ _
                                                    have HBE : Hid (Below w.heap.size w y3c) := low_stepC LOWv.out Y3C.out
                                                    clear hS9 hq1 hp1 hq2 hp2
                                                    go_wp2
                                                    go_ret
                                                    exact ⟨rfl, HBE.out⟩

theorem doorMetCon (os : Os) (args : Array Value) : laidMetH Tryz.prog Rows.fnContentRow.laid ((World.doorLaid Tryz.prog 4000 os).forCall (fun _ _ => 0) ⟨#[], args, []⟩).memory :=
  laidMetH_of_parts3 (fuel := 8) (laidMet_of_run' 8 (by kernel_rfl) (by kernel_rfl)) (by kernel_rfl) (by kernel_rfl)

set_option maxRecDepth 100000 in
theorem liftedFnContent (os : Os) (started : os.Started) (H : Type) (enc : TypeId × Value → H) :
    ReturnsInHanded {} Tryz.checked os 3 .any (fun w args => (Rows.fnContentSpec.pre enc Tryz.prog Tryz.f3 [] false w args ∧ laidMetH Tryz.prog Rows.fnContentRow.laid w) ∧ sizedMet enc Tryz.prog Tryz.f3 (OpenSpec.ofChange Rows.fnContentSpec) false w args)
      (Rows.fnContentSpec.post enc Tryz.prog Tryz.f3 false true false false) := by
  refine returnsInHanded_of_change_and (C := Tryz.checked) (X := fun w _ => laidMetH Tryz.prog Rows.fnContentRow.laid w) (fun _ _ _ hh h => h.of_heap hh) own started (by kernel_rfl) Tryz.func3
    (ChangeSpec.witness_shaped (enc := enc) (C := Tryz.checked) (os := os) (X := fun w _ => laidMetH Tryz.prog Rows.fnContentRow.laid w) false (World.doorLaid Tryz.prog 4000 os) #[.slice none 0 0] 8 rfl (World.shaped_of_RefB (by kernel_rfl) (by kernel_rfl)) (by kernel_rfl) (by kernel_rfl) (by kernel_rfl) (doorMetCon os _)) ?_
  intro W base args ds gs before hval0 hW _ _ hL _
  have hval : ∀ (j : Nat) t v, Tryz.f3.params[j]? = some t → args[j]? = some v → Value.okWide Tryz.prog W .any base t v := hval0
  have hW' := hW
  obtain ⟨p, q, hA0, hV, rfl, hfz, hnd⟩ := hW
  have hA : DataW.TrodAll enc Tryz.prog W 0 (fun _ => true) true Tryz.f3.params.toList args.toList ds p := hA0
  rw [Tryz.params3] at hA hval
  obtain ⟨v0, d0, rfl, rfl, h0⟩ := trodAll_one hA
  obtain ⟨rfl, rfl⟩ := trodVars_none hV
  obtain ⟨bs, hr, hl, hs⟩ := open_code Tryz.underlying22 Tryz.underlying5 cellsByte (hval 0 22 v0 rfl rfl) h0
  refine (walkFnContent bs v0 W hl hr).mono fun e W' ⟨he, hb⟩ => ?_
  subst he
  refine ⟨_, rfl, law_post (tb := 4) laidOut ?_ hW' rfl Tryz.underlying4 rfl rfl hb⟩
  exact all_readable (P := Tryz.prog) (by kernel_rfl)

theorem overFnContent : Rows.FnContentSaid :=
  OpenClaim.holds_of_wide 3 Tryz.f3 rfl rfl rfl rfl rfl rfl rfl ⟨rfl, rfl, rfl, rfl, rfl⟩ rfl rfl rfl rfl rfl (by kernel_rfl) Tryz.func3 (by kernel_rfl)
    (of_decide_eq_true (by kernel_rfl)) (by unfold Func.isWrapper; first | (rw [if_pos (by decide +kernel)]; kernel_rfl) | (rw [if_neg (by decide +kernel)]; exact ⟨rfl, rfl⟩))
    (fun os started H enc _ => liftedFnContent os started H enc)

/-- ████ THE STATEMENT: the tied card ████ -/
theorem fnContentHolds : Rows.FnContentCardSaid :=
  Claim7.holds_tied_plain_at .later [] [.data, .data, .data] true Rows.fnContentCard.stood.harness false
    overFnContent (fun _ h => by cases h) (by kernel_rfl) (fun _ h => by cases h) fnContent_row_tie rfl ⟨rfl, rfl⟩ (by kernel_rfl) rfl
    (fun f fn hf hfn => by
      obtain rfl : f = 3 := Option.some.inj ((show Tryz.prog.funcNamed Rows.fnContentRow.func = some 3 by kernel_rfl).symm.trans hf) |>.symm
      obtain rfl : fn = Tryz.f3 := (Option.some.inj (Tryz.func3.symm.trans hfn)).symm
      exact ⟨by kernel_rfl, fun j t ht => by
        rw [Tryz.params3] at ht
        have h3 : t = 22 := by
          rcases j with _ | j
          · simpa using ht.symm
          · simp at ht
        subst h3
        exact (show Tryz.prog.wantsStandIn 22 = false by kernel_rfl)⟩)
    (by kernel_rfl)
#print axioms fnContentHolds

end Go.Proofs.YtldagpfeaabcdaaGreatDoor
