/-
 The law FnContent: procedures of one content have one table, and a closure is its own one and has the same table; the tied card.
-/
import Derived.Test.YtldagpfeaabcdaaGreatDoorDrawAlk
import Derived.Test.YtldagpfeaabcdaaGreatDoorG41ConMath
import Derived.Test.YtldagpfeaabcdaaGreatDoorAlikeI
import Derived.Test.YtldagpfeaabcdaaGreatDoorAlikeS
import Derived.Test.YtldagpfeaabcdaaGreatDoorG50OpenCode
import Derived.Test.YtldagpfeaabcdaaGreatDoorCards
import Derived.Test.YtldagpfeaabcdaaGreatDoorTie
import Derived.Deep.RegionHeld
import Derived.LaidMore
import Derived.SevenTiedAt
import Derived.Stop.Joined
namespace Go.Proofs.YtldagpfeaabcdaaGreatDoor
open Go.ChangeShapes Go.WideShapes Go.ChangeAt Go.RowKit
set_option linter.unusedVariables false
set_option linter.unusedSimpArgs false
set_option maxHeartbeats 8000000
set_option maxRecDepth 20000
theorem jf9 {W W' : World} {b : Nat} {o : Obj} (h : W.heap[b]? = some o) (hb : Below W.heap.size W W') : W'.heap[b]? = some o := (hb.block b (Array.getElem?_eq_some_iff.1 h).1).trans h
theorem ja9 {w W W' : World} (h : Below w.heap.size w W) (hb : Below W.heap.size W W') : Below w.heap.size w W' := h.trans (hb.mono h.size)
theorem jg9 {W W' : World} {b o : Nat} {x : Value} (h : W.cell? ⟨b, o, none⟩ = some x) (hb : Below W.heap.size W W') : W'.cell? ⟨b, o, none⟩ = some x := (hb.cell (World.block_lt_of_cell? W _ h)).trans h
theorem own_lenC {w : World} {base n : Nat} {e : TypeId} {v : Value} {xs : List Value} (h : w.ownsRow base e 1 v n xs) : ∃ a c, v = .slice a n c := by
 rcases h.2 with ⟨e, h0⟩ | ⟨g, cap, cur, e, _⟩
 · exact ⟨none, 0, by rw [e, h0]⟩
 · exact ⟨_, _, e⟩
theorem jl8 {w w' : World} {v : Value} {n : Nat} {xs : List Value} (h : jn8 w v n xs) (hb : Below w.heap.size w w') : jn8 w' v n xs := by
 obtain ⟨ao, cap, rfl, hc⟩ := h
 refine ⟨ao, cap, rfl, fun j x hx => ?_⟩
 obtain ⟨gg, off, e, h1⟩ := hc j x hx
 exact ⟨gg, off, e, (hb.cell (World.block_lt_of_cell? w _ h1)).trans h1⟩
theorem qa9 (ps : List (List Stm)) : ∃ f : Int → List (List Int), ∀ c, TabA ps c (f c) := ⟨fun c => Classical.choose (tabA_some ps c), fun c => Classical.choose_spec (tabA_some ps c)⟩
theorem jx6 {ps : List (List Stm)} {c : Int} {A : List (List Int)} (h : TabA ps c A) (hok : ja5 ps = true) (hc : c = 1 ∨ c = 2) : A.length = ps.length ∧ IsTables c ps A := h.1 (by unfold okB; rw [hok]; simpa using hc)
theorem jh6 {w : World} {lo : Nat} {v : Value} {us : List Value} {A : List (List Int)} (h : OwnSS w lo v us A) (hn : 0 < A.length) : ∃ g c, v = .slice (some ⟨g, 0, none⟩) A.length c := by
 rcases h.row.2 with ⟨e, h0⟩ | ⟨g, cap, cur, e, _⟩
 · omega
 · exact ⟨g, cap, e⟩
theorem cloA_lens (ps : List (List Stm)) (i : Int) : (cloA ps i).length ≤ 100 ∧ ∀ p ∈ cloA ps i, p.length ≤ 100 := by
 cases h : hasB ps i with
 | false => unfold cloA; rw [h]; simp
 | true => rw [jo4 h]; exact qd4 (jt2 h)
theorem walkFnContent (bs : List Int) (v : Value) (w : World) (hl : bs.length ≤ maxLen) (hv : jf8 w v (bs.map (Value.int .u8))) :
 Calls Tryz.prog 3 #[v] w fun e w' => e = .returned (.bool true) ∧ Below w.heap.size w w' := by
 have hbig := lawBig bs v w hl hv
 by_cases hb : (4096 : Int) < (bs.length : Int)
 · rw [decide_eq_true hb] at hbig
   go_enter Tryz.func3, Tryz.ntmps3
   go_wp2_with (go_at_call 4; refine hbig.mono ?_; rintro e w1 ⟨rfl, rfl⟩)
   go_ret
   exact ⟨rfl, Below.refl _ _⟩
 rw [decide_eq_false hb] at hbig
 have HBL : Hid (bs.length ≤ 1048576) := by show bs.length ≤ 1048576; omega
 go_enter Tryz.func3, Tryz.ntmps3
 go_wp2_with fail
 go_at_call 4
 refine hbig.mono ?_
 rintro e w0 ⟨rfl, rfl⟩
 clear hbig hb hl
 have LOW : Hid (Below w.heap.size w w) := Below.refl _ _
 have RC : Hid (jf8 w v (bs.map (Value.int .u8))) := hv
 clear hv
 have hcall := drawAlike bs v w HBL.out RC.out
 go_wp2_with fail
 go_at_call 5
 refine hcall.mono ?_
 rintro r w1 ⟨ua, ub, p1, p2, rfl, r1, r2, l1, l2, bc⟩
 clear hcall
 have LOWx : Hid (Below w.heap.size w w1) := ja9 LOW.out bc
 have RCx : Hid (jf8 w1 v (bs.map (Value.int .u8))) := jc7 RC.out bc
 clear LOW RC
 have LOW : Hid (Below w.heap.size w w1) := LOWx.out
 have RC : Hid (jf8 w1 v (bs.map (Value.int .u8))) := RCx.out
 clear LOWx RCx
 obtain ⟨aa, an, ac, haa⟩ : ∃ a n c, ua = .slice a n c := by obtain ⟨a, c, e, _⟩ := r1; exact ⟨_, _, _, e⟩
 obtain ⟨ba, bn, bc9, hbb⟩ : ∃ a n c, ub = .slice a n c := by obtain ⟨a, c, e, _⟩ := r2; exact ⟨_, _, _, e⟩
 subst haa
 subst hbb
 have R1 : Hid (jb5 w1 (.slice aa an ac) p1) := r1
 have R2 : Hid (jb5 w1 (.slice ba bn bc9) p2) := r2
 have H1 : Hid (p1.length ≤ maxLen ∧ ∀ p ∈ p1, p.length ≤ maxLen) := ⟨by have := l1.1; unfold maxLen; omega, fun p hp => by have := l1.2 p hp; unfold maxLen; omega⟩
 have H2 : Hid (p2.length ≤ maxLen ∧ ∀ p ∈ p2, p.length ≤ maxLen) := ⟨by have := l2.1; unfold maxLen; omega, fun p hp => by have := l2.2 p hp; unfold maxLen; omega⟩
 clear r1 r2 bc l1 l2
 obtain ⟨w2, hAw2⟩ : ∃ W, (w1.alloc (.cells #[.slice aa an ac] 26)).alloc (.cells #[.slice ba bn bc9] 26) = W := ⟨_, rfl⟩
 have bb : Below w1.heap.size w1 w2 := by rw [← hAw2]; go_grown
 obtain ⟨bBA, hBw2⟩ : ∃ n, w1.heap.size = n := ⟨_, rfl⟩
 have BAn : Hid (w2.heap[bBA]? = some (.cells #[.slice aa an ac] 26 (0, 0))) := by
  show w2.heap[bBA]? = _
  rw [← hAw2, ← hBw2, ja2 (by simp)]; exact heap_alloc_new w1 _
 have BBn : Hid (w2.heap[bBA + 1]? = some (.cells #[.slice ba bn bc9] 26 (0, 0))) := by
  show w2.heap[bBA + 1]? = _
  rw [← hAw2, ← hBw2]
  have h9 := heap_alloc_new (w1.alloc (.cells #[.slice aa an ac] 26)) (.cells #[.slice ba bn bc9] 26)
  simpa using h9
 have LOWx : Hid (Below w.heap.size w w2) := ja9 LOW.out bb
 have RCx : Hid (jf8 w2 v (bs.map (Value.int .u8))) := jc7 RC.out bb
 have R1x : Hid (jb5 w2 (.slice aa an ac) p1) := ja0 R1.out bb
 have R2x : Hid (jb5 w2 (.slice ba bn bc9) p2) := ja0 R2.out bb
 clear LOW RC R1 R2
 have LOW : Hid (Below w.heap.size w w2) := LOWx.out
 have RC : Hid (jf8 w2 v (bs.map (Value.int .u8))) := RCx.out
 have R1 : Hid (jb5 w2 (.slice aa an ac) p1) := R1x.out
 have R2 : Hid (jb5 w2 (.slice ba bn bc9) p2) := R2x.out
 clear LOWx RCx R1x R2x
 clear bb
 have BA : Hid (w2.heap[bBA]? = some (.cells #[.slice aa an ac] 26 (0, 0))) := BAn.out
 clear BAn
 have BB : Hid (w2.heap[bBA + 1]? = some (.cells #[.slice ba bn bc9] 26 (0, 0))) := BBn.out
 clear BBn
 obtain ⟨cA, -⟩ := ja4 BA.out
 obtain ⟨cB, -⟩ := ja4 BB.out
 have hcall := implAlike p1 p2 (.slice aa an ac) (.slice ba bn bc9) w2 H1.out.1 H1.out.2 H2.out.1 H2.out.2 R1.out R2.out
 go_wp2_with fail
 go_at_call 6
 clear hAw2 hBw2
 refine hcall.mono ?_
 rintro r w3 ⟨lv, rfl, ol, bc⟩
 clear hcall cA cB
 have LOWx : Hid (Below w.heap.size w w3) := ja9 LOW.out bc
 have RCx : Hid (jf8 w3 v (bs.map (Value.int .u8))) := jc7 RC.out bc
 have R1x : Hid (jb5 w3 (.slice aa an ac) p1) := ja0 R1.out bc
 have R2x : Hid (jb5 w3 (.slice ba bn bc9) p2) := ja0 R2.out bc
 have BAx : Hid (w3.heap[bBA]? = some (.cells #[.slice aa an ac] 26 (0, 0))) := jf9 BA.out bc
 have BBx : Hid (w3.heap[bBA + 1]? = some (.cells #[.slice ba bn bc9] 26 (0, 0))) := jf9 BB.out bc
 clear LOW RC R1 R2 BA BB
 have LOW : Hid (Below w.heap.size w w3) := LOWx.out
 have RC : Hid (jf8 w3 v (bs.map (Value.int .u8))) := RCx.out
 have R1 : Hid (jb5 w3 (.slice aa an ac) p1) := R1x.out
 have R2 : Hid (jb5 w3 (.slice ba bn bc9) p2) := R2x.out
 have BA : Hid (w3.heap[bBA]? = some (.cells #[.slice aa an ac] 26 (0, 0))) := BAx.out
 have BB : Hid (w3.heap[bBA + 1]? = some (.cells #[.slice ba bn bc9] 26 (0, 0))) := BBx.out
 clear LOWx RCx R1x R2x BAx BBx
 obtain ⟨X, hX⟩ : ∃ X, jl0 p1 p2 = X := ⟨_, rfl⟩
 have HP : Hid (PairsA (LikeQ p1 p2) X) := by show PairsA _ X; rw [← hX]; exact alikeA_pairs p1 p2
 obtain ⟨n, hXn, hn16⟩ : ∃ n, X.length = 2 * n ∧ n ≤ 16 := by rw [← hX]; exact alikeA_len p1 p2
 rw [hX] at ol
 have HX : Hid (jl0 p1 p2 = X) := hX
 have HXN : Hid (X.length = 2 * n) := hXn
 obtain ⟨la, lc, hlv⟩ : ∃ a c, lv = .slice a n c := by
  obtain ⟨m, hm, hr⟩ := ol.ex
  obtain rfl : m = n := by omega
  obtain ⟨ao, cap, e, _⟩ := jx8 hr
  exact ⟨ao, cap, e⟩
 subst hlv
 have RL : Hid (jn8 w3 (.slice la n lc) n (ints X)) := (by obtain ⟨m, hm, hr⟩ := ol.ex; obtain rfl : m = n := (by omega); exact jx8 hr)
 clear ol bc hX hXn
 have hcall := drawClosure bs v w3 HBL.out RC.out
 go_wp2_with fail
 go_at_call 7
 refine hcall.mono ?_
 rintro r w4 ⟨up, L, i0, rfl, h5, h14, pr, bc⟩
 clear hcall
 have LOWx : Hid (Below w.heap.size w w4) := ja9 LOW.out bc
 have RCx : Hid (jf8 w4 v (bs.map (Value.int .u8))) := jc7 RC.out bc
 have R1x : Hid (jb5 w4 (.slice aa an ac) p1) := ja0 R1.out bc
 have R2x : Hid (jb5 w4 (.slice ba bn bc9) p2) := ja0 R2.out bc
 have BAx : Hid (w4.heap[bBA]? = some (.cells #[.slice aa an ac] 26 (0, 0))) := jf9 BA.out bc
 have BBx : Hid (w4.heap[bBA + 1]? = some (.cells #[.slice ba bn bc9] 26 (0, 0))) := jf9 BB.out bc
 have RLx : Hid (jn8 w4 (.slice la n lc) n (ints X)) := jl8 RL.out bc
 clear LOW RC R1 R2 BA BB RL
 have LOW : Hid (Below w.heap.size w w4) := LOWx.out
 have RC : Hid (jf8 w4 v (bs.map (Value.int .u8))) := RCx.out
 have R1 : Hid (jb5 w4 (.slice aa an ac) p1) := R1x.out
 have R2 : Hid (jb5 w4 (.slice ba bn bc9) p2) := R2x.out
 have BA : Hid (w4.heap[bBA]? = some (.cells #[.slice aa an ac] 26 (0, 0))) := BAx.out
 have BB : Hid (w4.heap[bBA + 1]? = some (.cells #[.slice ba bn bc9] 26 (0, 0))) := BBx.out
 have RL : Hid (jn8 w4 (.slice la n lc) n (ints X)) := RLx.out
 clear LOWx RCx R1x R2x BAx BBx RLx
 obtain ⟨ps, rp, hpL⟩ := pr.reads
 have hlp := je1 hpL h5 h14
 obtain ⟨pa, pn, pc, rfl⟩ := pr.slice
 have HL : Hid (ps.length ≤ maxLen ∧ ∀ p ∈ ps, p.length ≤ maxLen) := ⟨by have := hlp.1; unfold maxLen; omega, fun p hp => by have := hlp.2 p hp; unfold maxLen; omega⟩
 have RP : Hid (jb5 w4 (.slice pa pn pc) ps) := rp
 clear pr rp hpL h5 h14 hlp bc
 clear RC
 obtain ⟨w5, hAw5⟩ : ∃ W, w4.alloc (.cells #[.slice pa pn pc] 26) = W := ⟨_, rfl⟩
 have bb : Below w4.heap.size w4 w5 := by rw [← hAw5]; go_grown
 obtain ⟨bBP, hBw5⟩ : ∃ n, w4.heap.size = n := ⟨_, rfl⟩
 have BPn : Hid (w5.heap[bBP]? = some (.cells #[.slice pa pn pc] 26 (0, 0))) := by
  show w5.heap[bBP]? = _
  rw [← hAw5, ← hBw5]; exact heap_alloc_new w4 _
 have LOWx : Hid (Below w.heap.size w w5) := ja9 LOW.out bb
 have R1x : Hid (jb5 w5 (.slice aa an ac) p1) := ja0 R1.out bb
 have R2x : Hid (jb5 w5 (.slice ba bn bc9) p2) := ja0 R2.out bb
 have BAx : Hid (w5.heap[bBA]? = some (.cells #[.slice aa an ac] 26 (0, 0))) := jf9 BA.out bb
 have BBx : Hid (w5.heap[bBA + 1]? = some (.cells #[.slice ba bn bc9] 26 (0, 0))) := jf9 BB.out bb
 have RLx : Hid (jn8 w5 (.slice la n lc) n (ints X)) := jl8 RL.out bb
 have RPx : Hid (jb5 w5 (.slice pa pn pc) ps) := ja0 RP.out bb
 clear LOW R1 R2 BA BB RL RP
 have LOW : Hid (Below w.heap.size w w5) := LOWx.out
 have R1 : Hid (jb5 w5 (.slice aa an ac) p1) := R1x.out
 have R2 : Hid (jb5 w5 (.slice ba bn bc9) p2) := R2x.out
 have BA : Hid (w5.heap[bBA]? = some (.cells #[.slice aa an ac] 26 (0, 0))) := BAx.out
 have BB : Hid (w5.heap[bBA + 1]? = some (.cells #[.slice ba bn bc9] 26 (0, 0))) := BBx.out
 have RL : Hid (jn8 w5 (.slice la n lc) n (ints X)) := RLx.out
 have RP : Hid (jb5 w5 (.slice pa pn pc) ps) := RPx.out
 clear LOWx R1x R2x BAx BBx RLx RPx
 clear bb
 have BP : Hid (w5.heap[bBP]? = some (.cells #[.slice pa pn pc] 26 (0, 0))) := BPn.out
 clear BPn
 obtain ⟨cP, -⟩ := ja4 BP.out
 have hcall := ju6 ps i0 (.slice pa pn pc) w5 HL.out.1 HL.out.2 RP.out
 go_wp2_with fail
 go_at_call 8
 clear hAw5 hBw5
 refine hcall.mono ?_
 rintro r w6 ⟨uc, cus, rfl, oc, bc⟩
 clear hcall cP
 have LOWx : Hid (Below w.heap.size w w6) := ja9 LOW.out bc
 have R1x : Hid (jb5 w6 (.slice aa an ac) p1) := ja0 R1.out bc
 have R2x : Hid (jb5 w6 (.slice ba bn bc9) p2) := ja0 R2.out bc
 have BAx : Hid (w6.heap[bBA]? = some (.cells #[.slice aa an ac] 26 (0, 0))) := jf9 BA.out bc
 have BBx : Hid (w6.heap[bBA + 1]? = some (.cells #[.slice ba bn bc9] 26 (0, 0))) := jf9 BB.out bc
 have RLx : Hid (jn8 w6 (.slice la n lc) n (ints X)) := jl8 RL.out bc
 have RPx : Hid (jb5 w6 (.slice pa pn pc) ps) := ja0 RP.out bc
 have BPx : Hid (w6.heap[bBP]? = some (.cells #[.slice pa pn pc] 26 (0, 0))) := jf9 BP.out bc
 clear LOW R1 R2 BA BB RL RP BP
 have LOW : Hid (Below w.heap.size w w6) := LOWx.out
 have R1 : Hid (jb5 w6 (.slice aa an ac) p1) := R1x.out
 have R2 : Hid (jb5 w6 (.slice ba bn bc9) p2) := R2x.out
 have BA : Hid (w6.heap[bBA]? = some (.cells #[.slice aa an ac] 26 (0, 0))) := BAx.out
 have BB : Hid (w6.heap[bBA + 1]? = some (.cells #[.slice ba bn bc9] 26 (0, 0))) := BBx.out
 have RL : Hid (jn8 w6 (.slice la n lc) n (ints X)) := RLx.out
 have RP : Hid (jb5 w6 (.slice pa pn pc) ps) := RPx.out
 have BP : Hid (w6.heap[bBP]? = some (.cells #[.slice pa pn pc] 26 (0, 0))) := BPx.out
 clear LOWx R1x R2x BAx BBx RLx RPx BPx
 obtain ⟨ca, cn, cc, rfl⟩ := jd4 oc.row
 obtain ⟨Q, hQ⟩ : ∃ Q, cloA ps i0 = Q := ⟨_, rfl⟩
 have HQL : Hid (Q.length ≤ 100 ∧ ∀ p ∈ Q, p.length ≤ 100) := by show Q.length ≤ 100 ∧ _; rw [← hQ]; exact cloA_lens ps i0
 rw [hQ] at oc
 have HQ : Hid (cloA ps i0 = Q) := hQ
 have RQ : Hid (jb5 w6 (.slice ca cn cc) Q) := jj1 oc.ownP
 obtain ⟨hcn⟩ : Nonempty (cn = Q.length) := by obtain ⟨a, c, e, _⟩ := jj1 oc.ownP; simp at e; exact ⟨e.2.1⟩
 have HCN : Hid (cn = Q.length) := hcn
 clear oc bc hQ hcn
 obtain ⟨w7, hAw7⟩ : ∃ W, w6.alloc (.cells #[.slice ca cn cc] 26) = W := ⟨_, rfl⟩
 have bb : Below w6.heap.size w6 w7 := by rw [← hAw7]; go_grown
 obtain ⟨bBC, hBw7⟩ : ∃ n, w6.heap.size = n := ⟨_, rfl⟩
 have BCn : Hid (w7.heap[bBC]? = some (.cells #[.slice ca cn cc] 26 (0, 0))) := by
  show w7.heap[bBC]? = _
  rw [← hAw7, ← hBw7]; exact heap_alloc_new w6 _
 have LOWx : Hid (Below w.heap.size w w7) := ja9 LOW.out bb
 have R1x : Hid (jb5 w7 (.slice aa an ac) p1) := ja0 R1.out bb
 have R2x : Hid (jb5 w7 (.slice ba bn bc9) p2) := ja0 R2.out bb
 have BAx : Hid (w7.heap[bBA]? = some (.cells #[.slice aa an ac] 26 (0, 0))) := jf9 BA.out bb
 have BBx : Hid (w7.heap[bBA + 1]? = some (.cells #[.slice ba bn bc9] 26 (0, 0))) := jf9 BB.out bb
 have RLx : Hid (jn8 w7 (.slice la n lc) n (ints X)) := jl8 RL.out bb
 have RPx : Hid (jb5 w7 (.slice pa pn pc) ps) := ja0 RP.out bb
 have BPx : Hid (w7.heap[bBP]? = some (.cells #[.slice pa pn pc] 26 (0, 0))) := jf9 BP.out bb
 have RQx : Hid (jb5 w7 (.slice ca cn cc) Q) := ja0 RQ.out bb
 clear LOW R1 R2 BA BB RL RP BP RQ
 have LOW : Hid (Below w.heap.size w w7) := LOWx.out
 have R1 : Hid (jb5 w7 (.slice aa an ac) p1) := R1x.out
 have R2 : Hid (jb5 w7 (.slice ba bn bc9) p2) := R2x.out
 have BA : Hid (w7.heap[bBA]? = some (.cells #[.slice aa an ac] 26 (0, 0))) := BAx.out
 have BB : Hid (w7.heap[bBA + 1]? = some (.cells #[.slice ba bn bc9] 26 (0, 0))) := BBx.out
 have RL : Hid (jn8 w7 (.slice la n lc) n (ints X)) := RLx.out
 have RP : Hid (jb5 w7 (.slice pa pn pc) ps) := RPx.out
 have BP : Hid (w7.heap[bBP]? = some (.cells #[.slice pa pn pc] 26 (0, 0))) := BPx.out
 have RQ : Hid (jb5 w7 (.slice ca cn cc) Q) := RQx.out
 clear LOWx R1x R2x BAx BBx RLx RPx BPx RQx
 clear bb
 have BC : Hid (w7.heap[bBC]? = some (.cells #[.slice ca cn cc] 26 (0, 0))) := BCn.out
 clear BCn
 obtain ⟨sx, hsx⟩ : ∃ s : ByteArray, (⟨(conA ps i0).toArray⟩ : ByteArray) = s := ⟨_, rfl⟩
 have hsn : (sx.toList != sx.toList) = false := by simp
 have hss : (sx.toList == sx.toList) = true := by simp
 have HSX : Hid _ := hsx
 have HS : Hid (∀ Z, Below w7.heap.size w7 Z → Z.cell? ⟨bBA, 0, none⟩ = some (.slice aa an ac) ∧ Z.cell? ⟨bBA + 1, 0, none⟩ = some (.slice ba bn bc9) ∧ Z.cell? ⟨bBP, 0, none⟩ = some (.slice pa pn pc) ∧ Z.cell? ⟨bBC, 0, none⟩ = some (.slice ca cn cc)) := fun Z hZ => by
  obtain ⟨a1, _⟩ := ja4 (jf9 BA.out hZ)
  obtain ⟨a2, _⟩ := ja4 (jf9 BB.out hZ)
  obtain ⟨a3, _⟩ := ja4 (jf9 BP.out hZ)
  obtain ⟨a4, _⟩ := ja4 (jf9 BC.out hZ)
  exact ⟨a1, a2, a3, a4⟩
 have hS0 := HS.out w7 (Below.refl _ _)
 have hsa := fun Z (hZ : Below w7.heap.size w7 Z) => specAlike p1 p2 (.slice aa an ac) (.slice ba bn bc9) Z H1.out.1 H1.out.2 H2.out.1 H2.out.2 (ja0 R1.out hZ) (ja0 R2.out hZ)
 have hsc := fun Z (hZ : Below w7.heap.size w7 Z) => specClosure ps i0 (.slice pa pn pc) Z HL.out.1 HL.out.2 (ja0 RP.out hZ)
 have hic := fun Z (hZ : Below w7.heap.size w7 Z) => qc4 ps i0 (.slice pa pn pc) Z HL.out.1 HL.out.2 (ja0 RP.out hZ)
 have hso := fun Z (hZ : Below w7.heap.size w7 Z) => jv0 ps i0 (.slice pa pn pc) Z HL.out.1 HL.out.2 (ja0 RP.out hZ)
 rw [HX.out] at hsa
 rw [HQ.out] at hsc
 rw [hsx] at hic hso
 have HIC : Hid _ := hic
 clear hsx
 obtain ⟨c1, c2, c3, c4⟩ := id hS0
 go_wp2_with fail
 clear hAw7 hBw7
 refine wp_region_held_drew (S := fun Z => Z.cell? ⟨bBA, 0, none⟩ = some (.slice aa an ac) ∧ Z.cell? ⟨bBA + 1, 0, none⟩ = some (.slice ba bn bc9) ∧ Z.cell? ⟨bBP, 0, none⟩ = some (.slice pa pn pc) ∧ Z.cell? ⟨bBC, 0, none⟩ = some (.slice ca cn cc)) (by kernel_rfl) hS0 (fun hHl => ?_)
 refine wpAnyH_take (i := 0) (oi := ?oia0) (v := .slice la n lc) ?_ (by kernel_rfl) (by kernel_rfl) (by kernel_rfl) ?_ ?_ hHl ?_
 rotate_left
 · simp only [gA, gB, gC]; rfl
 · exact fun _ _ _ h => h
 · exact Or.inl ⟨by kernel_rfl, fun w hSw => by go_simp⟩
 try simp only [Act.put, gD, gE, gF]
 refine wpAnyH_take (i := 1) (oi := ?oia1) (v := .agg #[.slice aa an ac]) ?_ (by kernel_rfl) (by kernel_rfl) (by kernel_rfl) ?_ ?_ hHl ?_
 rotate_left
 · simp only [gA, gB, gC]; rfl
 · exact fun _ _ _ h => h
 · exact Or.inl ⟨by kernel_rfl, fun w hSw => by obtain ⟨s0, s1, s2, s3⟩ := hSw; go_simp⟩
 try simp only [Act.put, gD, gE, gF]
 refine wpAnyH_take (i := 2) (oi := ?oia2) (v := .agg #[.slice ba bn bc9]) ?_ (by kernel_rfl) (by kernel_rfl) (by kernel_rfl) ?_ ?_ hHl ?_
 rotate_left
 · simp only [gA, gB, gC]; rfl
 · exact fun _ _ _ h => h
 · exact Or.inl ⟨by kernel_rfl, fun w hSw => by obtain ⟨s0, s1, s2, s3⟩ := hSw; go_simp⟩
 try simp only [Act.put, gD, gE, gF]
 refine wpAnyH_ready (rs := [3]) (by kernel_rfl) (by simp) (AllReadyH.cons (o := ?ooa3) ?_ (fun K hK => ?_) AllReadyH.nil)
 rotate_left
 · simp only [gA, gB, gC]; rfl
 go_simp
 go_at_call 10
 refine (hsa w7.drew (Below.drew (Below.refl _ _))).mono ?_
 rintro e x1 ⟨y1, rfl, oy, bq⟩
 have X1 : Hid (Below w7.heap.size w7 x1) := Below.trans (Below.drew (Below.refl _ _)) bq
 have RY : Hid (jn8 x1 y1 n (ints X)) := by obtain ⟨m, hm, hr⟩ := oy.ex; obtain rfl : m = n := (by have := HXN.out; omega); exact jx8 hr
 clear bq oy
 try go_wp2_with fail
 refine hK.out _ _ (HS.out _ X1.out) (fun hHl => ?_)
 clear hK K
 try simp only [Act.put, gD, gE, gF]
 refine wpAnyH_ready (rs := [4]) (by kernel_rfl) (by simp) (AllReadyH.cons (o := ?ooa4) ?_ (fun K hK => ?_) AllReadyH.nil)
 rotate_left
 · simp only [gA, gB, gC]; rfl
 go_simp
 go_at_call 9
 refine (likePlaces n X _ y1 x1 HXN.out (by omega) (jl8 RL.out X1.out) RY.out).mono ?_
 rintro e x2 ⟨rfl, bq⟩
 have X2 : Hid (Below w7.heap.size w7 x2) := ja9 X1.out bq
 clear bq RY
 try go_wp2_with fail
 refine hK.out _ _ (HS.out _ X2.out) (fun hHl => ?_)
 clear hK K
 try simp only [Act.put, gD, gE, gF]
 refine wpAnyH_take (i := 5) (oi := ?oia5) (v := .bool false) ?_ (by kernel_rfl) (by kernel_rfl) (by kernel_rfl) ?_ ?_ hHl ?_
 rotate_left
 · simp only [gA, gB, gC]; rfl
 · exact fun _ _ _ h => h
 · exact Or.inl ⟨by kernel_rfl, fun w hSw => by go_simp⟩
 try simp only [Act.put, gD, gE, gF]
 refine wpAnyH_take (i := 6) (oi := ?oia6) (v := .bool false) ?_ (by kernel_rfl) (by kernel_rfl) (by kernel_rfl) ?_ ?_ hHl ?_
 rotate_left
 · simp only [gA, gB, gC]; rfl
 · exact fun _ _ _ h => h
 · exact Or.inl ⟨by kernel_rfl, fun w hSw => by go_simp⟩
 try simp only [Act.put, gD, gE, gF]
 refine wpAnyH_take (i := 7) (oi := ?oia7) (v := .agg #[.slice ca cn cc]) ?_ (by kernel_rfl) (by kernel_rfl) (by kernel_rfl) ?_ ?_ hHl ?_
 rotate_left
 · simp only [gA, gB, gC]; rfl
 · exact fun _ _ _ h => h
 · exact Or.inl ⟨by kernel_rfl, fun w hSw => by obtain ⟨s0, s1, s2, s3⟩ := hSw; go_simp⟩
 try simp only [Act.put, gD, gE, gF]
 refine wpAnyH_take (i := 8) (oi := ?oia8) (v := .agg #[.slice pa pn pc]) ?_ (by kernel_rfl) (by kernel_rfl) (by kernel_rfl) ?_ ?_ hHl ?_
 rotate_left
 · simp only [gA, gB, gC]; rfl
 · exact fun _ _ _ h => h
 · exact Or.inl ⟨by kernel_rfl, fun w hSw => by obtain ⟨s0, s1, s2, s3⟩ := hSw; go_simp⟩
 try simp only [Act.put, gD, gE, gF]
 refine wpAnyH_take (i := 9) (oi := ?oia9) (v := .int .i64 i0) ?_ (by kernel_rfl) (by kernel_rfl) (by kernel_rfl) ?_ ?_ hHl ?_
 rotate_left
 · simp only [gA, gB, gC]; rfl
 · exact fun _ _ _ h => h
 · exact Or.inl ⟨by kernel_rfl, fun w hSw => by go_simp⟩
 try simp only [Act.put, gD, gE, gF]
 refine wpAnyH_ready (rs := [10]) (by kernel_rfl) (by simp) (AllReadyH.cons (o := ?ooa10) ?_ (fun K hK => ?_) AllReadyH.nil)
 rotate_left
 · simp only [gA, gB, gC]; rfl
 go_simp
 go_at_call 12
 refine (hsc x2 X2.out).mono ?_
 rintro e x3 ⟨uz, zus, rfl, oz, bq⟩
 have X3 : Hid (Below w7.heap.size w7 x3) := ja9 X2.out bq
 obtain ⟨za, zn, zc, rfl⟩ := jd4 oz.row
 have RZ : Hid (jb5 x3 (.slice za zn zc) Q) := jj1 oz.ownP
 clear bq oz
 try go_wp2_with fail
 refine hK.out _ _ (HS.out _ X3.out) (fun hHl => ?_)
 clear hK K
 try simp only [Act.put, gD, gE, gF]
 refine wpAnyH_ready (rs := [11]) (by kernel_rfl) (by simp) (AllReadyH.cons (o := ?ooa11) ?_ (fun K hK => ?_) AllReadyH.nil)
 rotate_left
 · simp only [gA, gB, gC]; rfl
 go_simp
 go_at_call 11
 refine (likeProgram Q (.slice ca cn cc) (.slice za zn zc) x3 HQL.out.1 HQL.out.2 (ja0 RQ.out X3.out) RZ.out).mono ?_
 rintro e x4 ⟨rfl, bq⟩
 have X4 : Hid (Below w7.heap.size w7 x4) := ja9 X3.out bq
 clear bq RZ
 try go_wp2_with fail
 refine hK.out _ _ (HS.out _ X4.out) (fun hHl => ?_)
 clear hK K
 try simp only [Act.put, gD, gE, gF]
 refine wpAnyH_take (i := 12) (oi := ?oia12) (v := .bool false) ?_ (by kernel_rfl) (by kernel_rfl) (by kernel_rfl) ?_ ?_ hHl ?_
 rotate_left
 · simp only [gA, gB, gC]; rfl
 · exact fun _ _ _ h => h
 · exact Or.inl ⟨by kernel_rfl, fun w hSw => by go_simp⟩
 try simp only [Act.put, gD, gE, gF]
 refine wpAnyH_take (i := 13) (oi := ?oia13) (v := .bool false) ?_ (by kernel_rfl) (by kernel_rfl) (by kernel_rfl) ?_ ?_ hHl ?_
 rotate_left
 · simp only [gA, gB, gC]; rfl
 · exact fun _ _ _ h => h
 · exact Or.inl ⟨by kernel_rfl, fun w hSw => by go_simp⟩
 try simp only [Act.put, gD, gE, gF]
 refine wpAnyH_take (i := 14) (oi := ?oia14) (v := .bool false) ?_ (by kernel_rfl) (by kernel_rfl) (by kernel_rfl) ?_ ?_ hHl ?_
 rotate_left
 · simp only [gA, gB, gC]; rfl
 · exact fun _ _ _ h => h
 · exact Or.inl ⟨by kernel_rfl, fun w hSw => by go_simp⟩
 try simp only [Act.put, gD, gE, gF]
 refine wpAnyH_take (i := 15) (oi := ?oia15) (v := .agg #[.slice pa pn pc]) ?_ (by kernel_rfl) (by kernel_rfl) (by kernel_rfl) ?_ ?_ hHl ?_
 rotate_left
 · simp only [gA, gB, gC]; rfl
 · exact fun _ _ _ h => h
 · exact Or.inl ⟨by kernel_rfl, fun w hSw => by obtain ⟨s0, s1, s2, s3⟩ := hSw; go_simp⟩
 try simp only [Act.put, gD, gE, gF]
 refine wpAnyH_take (i := 16) (oi := ?oia16) (v := .int .i64 i0) ?_ (by kernel_rfl) (by kernel_rfl) (by kernel_rfl) ?_ ?_ hHl ?_
 rotate_left
 · simp only [gA, gB, gC]; rfl
 · exact fun _ _ _ h => h
 · exact Or.inl ⟨by kernel_rfl, fun w hSw => by go_simp⟩
 try simp only [Act.put, gD, gE, gF]
 refine wpAnyH_take (i := 18) (oi := ?oia18) (v := .agg #[.slice pa pn pc]) ?_ (by kernel_rfl) (by kernel_rfl) (by kernel_rfl) ?_ ?_ hHl ?_
 rotate_left
 · simp only [gA, gB, gC]; rfl
 · exact fun _ _ _ h => h
 · exact Or.inl ⟨by kernel_rfl, fun w hSw => by obtain ⟨s0, s1, s2, s3⟩ := hSw; go_simp⟩
 try simp only [Act.put, gD, gE, gF]
 refine wpAnyH_take (i := 19) (oi := ?oia19) (v := .int .i64 i0) ?_ (by kernel_rfl) (by kernel_rfl) (by kernel_rfl) ?_ ?_ hHl ?_
 rotate_left
 · simp only [gA, gB, gC]; rfl
 · exact fun _ _ _ h => h
 · exact Or.inl ⟨by kernel_rfl, fun w hSw => by go_simp⟩
 try simp only [Act.put, gD, gE, gF]
 refine wpAnyH_ready (rs := [17]) (by kernel_rfl) (by simp) (AllReadyH.cons (o := ?ooa17) ?_ (fun K hK => ?_) AllReadyH.nil)
 rotate_left
 · simp only [gA, gB, gC]; rfl
 go_simp
 go_at_call 13
 refine (hic x4 X4.out).mono ?_
 rintro e x5 ⟨rfl, bq⟩
 have X5 : Hid (Below w7.heap.size w7 x5) := ja9 X4.out bq
 clear bq 
 try go_wp2_with fail
 refine hK.out _ _ (HS.out _ X5.out) (fun hHl => ?_)
 clear hK K
 try simp only [Act.put, gD, gE, gF]
 refine wpAnyH_ready (rs := [20]) (by kernel_rfl) (by simp) (AllReadyH.cons (o := ?ooa20) ?_ (fun K hK => ?_) AllReadyH.nil)
 rotate_left
 · simp only [gA, gB, gC]; rfl
 go_simp
 go_at_call 14
 refine (hso x5 X5.out).mono ?_
 rintro e x6 ⟨rfl, bq⟩
 have X6 : Hid (Below w7.heap.size w7 x6) := ja9 X5.out bq
 clear bq 
 try go_wp2_with fail
 refine hK.out _ _ (HS.out _ X6.out) (fun hHl => ?_)
 clear hK K
 try simp only [Act.put, gD, gE, gF]
 refine wpAnyH_take (i := 21) (oi := ?oia21) (v := .bool false) ?_ (by kernel_rfl) (by kernel_rfl) (by kernel_rfl) ?_ ?_ hHl ?_
 rotate_left
 · simp only [gA, gB, gC]; rfl
 · exact fun _ _ _ h => h
 · exact Or.inl ⟨by kernel_rfl, fun w hSw => by go_simp⟩
 try simp only [Act.put, gD, gE, gF]
 refine wpAnyH_take (i := 22) (oi := ?oia22) (v := .bool false) ?_ (by kernel_rfl) (by kernel_rfl) (by kernel_rfl) ?_ ?_ hHl ?_
 rotate_left
 · simp only [gA, gB, gC]; rfl
 · exact fun _ _ _ h => h
 · exact Or.inl ⟨by kernel_rfl, fun w hSw => by go_simp⟩
 try simp only [Act.put, gD, gE, gF]
 refine wpAnyH_done (by kernel_rfl) ?_ _
 clear hsa hsc hic hso hS0 c1 c2 c3 c4
 obtain ⟨f1, hf1⟩ := qa9 p1
 obtain ⟨f2, hf2⟩ := qa9 p2
 have HF1 : Hid (∀ c, TabA p1 c (f1 c)) := hf1
 have HF2 : Hid (∀ c, TabA p2 c (f2 c)) := hf2
 clear hf1 hf2
 go_wp2_with fail
 go_loopw [9] (fun q wr => ∃ i : Nat, i ≤ n ∧ q = .int .i64 i ∧ Below w7.heap.size w7 wr) (fun q _ => n - (intOf q).toNat)
 case atStart => exact ⟨0, Nat.zero_le _, rfl, X6.out⟩
 case round =>
  obtain ⟨i, hil, rfl, hbr⟩ := hrel
  have HBI : Hid (Below w7.heap.size w7 wr) := hbr
  by_cases hi : i < n
  · have hi' : (i : Int) < (n : Int) := by omega
    have hi0 : (0 : Int) ≤ (i : Int) := by omega
    obtain ⟨n9, hn9, hq9⟩ := HP.out
    obtain ⟨a, b, ha, hb, hq⟩ := hq9 i (by have := HXN.out; omega)
    have HLQ : Hid (LikeQ p1 p2 a b) := hq
    obtain ⟨ao9, cap9, e9, hrl⟩ := RL.out
    injection e9 with q1 q2 q3
    subst q1
    obtain ⟨gl, ol, ela, hg1⟩ := hrl (2 * i) (.int .i64 (a : Int)) (by simp [ints, ha])
    obtain ⟨gl9, ol9, ela9, hg2⟩ := hrl (2 * i + 1) (.int .i64 (b : Int)) (by simp [ints, hb])
    subst ela
    cases ela9
    rw [Nat.mul_comm 2 i] at hg1 hg2
    rw [← Nat.add_assoc] at hg2
    have HG : Hid (w7.cell? ⟨gl, ol + i * 2, none⟩ = some (.int .i64 (a : Int)) ∧ w7.cell? ⟨gl, ol + i * 2 + 1, none⟩ = some (.int .i64 (b : Int))) := ⟨hg1, hg2⟩
    clear hbr hg1 hg2 ha hb hq hq9 hrl hn9 n9 q2 q3 cap9
    go_wp2_with fail
    obtain ⟨wi, hwi⟩ : ∃ x, x = wr := ⟨_, rfl⟩
    subst hwi
    go_loopw [10] (fun q wr => ∃ c : Nat, 1 ≤ c ∧ c ≤ 3 ∧ q = .int .i64 c ∧ Below w7.heap.size w7 wr) (fun q _ => 3 - (intOf q).toNat)
    case atStart => exact ⟨1, by omega, by omega, rfl, HBI.out⟩
    case round =>
     obtain ⟨c, hc1, hc3, rfl, hbr⟩ := hrel
     have HBC : Hid (Below w7.heap.size w7 wr) := hbr
     by_cases hc : c ≤ 2
     · have hc' : (c : Int) ≤ 2 := by omega
       have HCC : Hid ((c : Int) = 1 ∨ (c : Int) = 2) := by
        show (c : Int) = 1 ∨ (c : Int) = 2
        omega
       obtain ⟨o1, o2, hap, hbp, _⟩ := HLQ.out
       obtain ⟨hl1, ht1⟩ := jx6 (HF1.out c) o1 HCC.out
       obtain ⟨hl2, ht2⟩ := jx6 (HF2.out c) o2 HCC.out
       have hrow := like_tables HCC.out HLQ.out ht1 ht2
       have h7 := (ht1.good a hap).1
       have hA1 := HF1.out c
       have hA2 := HF2.out c
       obtain ⟨T1, hT1⟩ : ∃ T, f1 (c : Int) = T := ⟨_, rfl⟩
       obtain ⟨T2, hT2⟩ : ∃ T, f2 (c : Int) = T := ⟨_, rfl⟩
       rw [hT1] at hl1 hrow hA1 h7
       rw [hT2] at hl2 hrow hA2
       have haT : a < T1.length := by omega
       have hbT : b < T2.length := by omega
       have haT' : (a : Int) < (T1.length : Int) := by omega
       have hbT' : (b : Int) < (T2.length : Int) := by omega
       have ha0 : (0 : Int) ≤ (a : Int) := by omega
       have hb0 : (0 : Int) ≤ (b : Int) := by omega
       have e1 : T1.getD a [] = T1[a]'haT := by simp [List.getD, haT]
       have e2 : T2.getD b [] = T2[b]'hbT := by simp [List.getD, hbT]
       rw [e1] at hrow h7
       rw [e2] at hrow
       obtain ⟨xs, hx1⟩ : ∃ xs, T1[a]'haT = xs := ⟨_, rfl⟩
       rw [hx1] at hrow h7
       have hx2 : T2[b]'hbT = xs := hrow.symm
       have hxl : xs.length ≤ maxLen := by rw [h7]; unfold maxLen; omega
       have hcl1 := fun Z (hZ : Below wr.heap.size wr Z) => jn1 p1 c T1 hA1 (.slice aa an ac) Z H1.out.1 H1.out.2 (ja0 R1.out (ja9 HBC.out hZ))
       have hcl2 := fun Z (hZ : Below wr.heap.size wr Z) => jn1 p2 c T2 hA2 (.slice ba bn bc9) Z H2.out.1 H2.out.2 (ja0 R2.out (ja9 HBC.out hZ))
       have HT : Hid (∀ Z, Below wr.heap.size wr Z → Z.cell? ⟨bBA, 0, none⟩ = some (.slice aa an ac) ∧ Z.cell? ⟨bBA + 1, 0, none⟩ = some (.slice ba bn bc9) ∧ Z.cell? ⟨gl, ol + i * 2, none⟩ = some (.int .i64 (a : Int)) ∧ Z.cell? ⟨gl, ol + i * 2 + 1, none⟩ = some (.int .i64 (b : Int))) := fun Z hZ => ⟨(HS.out Z (ja9 HBC.out hZ)).1, (HS.out Z (ja9 HBC.out hZ)).2.1, jg9 HG.out.1 (ja9 HBC.out hZ), jg9 HG.out.2 (ja9 HBC.out hZ)⟩
       have hS9 := HT.out wr (Below.refl _ _)
       clear hbr o1 o2 hl1 ht1 hl2 ht2 hrow h7 hA1 hA2 hT1 hT2 e1 e2 hap hbp
       go_wp2_with fail
       refine wp_region_held_drew (S := fun Z => Z.cell? ⟨bBA, 0, none⟩ = some (.slice aa an ac) ∧ Z.cell? ⟨bBA + 1, 0, none⟩ = some (.slice ba bn bc9) ∧ Z.cell? ⟨gl, ol + i * 2, none⟩ = some (.int .i64 (a : Int)) ∧ Z.cell? ⟨gl, ol + i * 2 + 1, none⟩ = some (.int .i64 (b : Int))) (by kernel_rfl) hS9 (fun hHl => ?_)
       refine wpAnyH_take (i := 0) (oi := ?oiq0) (v := .agg #[.slice aa an ac]) ?_ (by kernel_rfl) (by kernel_rfl) (by kernel_rfl) ?_ ?_ hHl ?_
       rotate_left
       · simp only [gA, gB, gC]; rfl
       · exact fun _ _ _ h => h
       · exact Or.inl ⟨by kernel_rfl, fun w hSw => by obtain ⟨s0, s1, s2, s3⟩ := hSw; go_simp⟩
       try simp only [Act.put, gD, gE, gF]
       refine wpAnyH_take (i := 1) (oi := ?oiq1) (v := .int .i64 (c : Int)) ?_ (by kernel_rfl) (by kernel_rfl) (by kernel_rfl) ?_ ?_ hHl ?_
       rotate_left
       · simp only [gA, gB, gC]; rfl
       · exact fun _ _ _ h => h
       · exact Or.inl ⟨by kernel_rfl, fun w hSw => by go_simp⟩
       try simp only [Act.put, gD, gE, gF]
       refine wpAnyH_take (i := 3) (oi := ?oiq3) (v := .slice (some ⟨gl, ol, none⟩) n lc) ?_ (by kernel_rfl) (by kernel_rfl) (by kernel_rfl) ?_ ?_ hHl ?_
       rotate_left
       · simp only [gA, gB, gC]; rfl
       · exact fun _ _ _ h => h
       · exact Or.inl ⟨by kernel_rfl, fun w hSw => by go_simp⟩
       try simp only [Act.put, gD, gE, gF]
       refine wpAnyH_take (i := 4) (oi := ?oiq4) (v := .int .i64 (i : Int)) ?_ (by kernel_rfl) (by kernel_rfl) (by kernel_rfl) ?_ ?_ hHl ?_
       rotate_left
       · simp only [gA, gB, gC]; rfl
       · exact fun _ _ _ h => h
       · exact Or.inl ⟨by kernel_rfl, fun w hSw => by go_simp⟩
       try simp only [Act.put, gD, gE, gF]
       refine wpAnyH_take (i := 5) (oi := ?oiq5) (v := .pointer (some ⟨gl, ol + i * 2, none⟩)) ?_ (by kernel_rfl) (by kernel_rfl) (by kernel_rfl) ?_ ?_ hHl ?_
       rotate_left
       · simp only [gA, gB, gC]; rfl
       · exact fun _ _ _ h => h
       · exact Or.inl ⟨by kernel_rfl, fun w hSw => by go_simp⟩
       try simp only [Act.put, gD, gE, gF]
       refine wpAnyH_take (i := 6) (oi := ?oiq6) (v := .pointer (some ⟨gl, ol + i * 2, none⟩)) ?_ (by kernel_rfl) (by kernel_rfl) (by kernel_rfl) ?_ ?_ hHl ?_
       rotate_left
       · simp only [gA, gB, gC]; rfl
       · exact fun _ _ _ h => h
       · exact Or.inl ⟨by kernel_rfl, fun w hSw => by go_simp⟩
       try simp only [Act.put, gD, gE, gF]
       refine wpAnyH_take (i := 7) (oi := ?oiq7) (v := .int .i64 (a : Int)) ?_ (by kernel_rfl) (by kernel_rfl) (by kernel_rfl) ?_ ?_ hHl ?_
       rotate_left
       · simp only [gA, gB, gC]; rfl
       · exact fun _ _ _ h => h
       · exact Or.inl ⟨by kernel_rfl, fun w hSw => by obtain ⟨s0, s1, s2, s3⟩ := hSw; go_simp⟩
       try simp only [Act.put, gD, gE, gF]
       refine wpAnyH_take (i := 10) (oi := ?oiq10) (v := .agg #[.slice ba bn bc9]) ?_ (by kernel_rfl) (by kernel_rfl) (by kernel_rfl) ?_ ?_ hHl ?_
       rotate_left
       · simp only [gA, gB, gC]; rfl
       · exact fun _ _ _ h => h
       · exact Or.inl ⟨by kernel_rfl, fun w hSw => by obtain ⟨s0, s1, s2, s3⟩ := hSw; go_simp⟩
       try simp only [Act.put, gD, gE, gF]
       refine wpAnyH_take (i := 11) (oi := ?oiq11) (v := .int .i64 (c : Int)) ?_ (by kernel_rfl) (by kernel_rfl) (by kernel_rfl) ?_ ?_ hHl ?_
       rotate_left
       · simp only [gA, gB, gC]; rfl
       · exact fun _ _ _ h => h
       · exact Or.inl ⟨by kernel_rfl, fun w hSw => by go_simp⟩
       try simp only [Act.put, gD, gE, gF]
       refine wpAnyH_take (i := 13) (oi := ?oiq13) (v := .slice (some ⟨gl, ol, none⟩) n lc) ?_ (by kernel_rfl) (by kernel_rfl) (by kernel_rfl) ?_ ?_ hHl ?_
       rotate_left
       · simp only [gA, gB, gC]; rfl
       · exact fun _ _ _ h => h
       · exact Or.inl ⟨by kernel_rfl, fun w hSw => by go_simp⟩
       try simp only [Act.put, gD, gE, gF]
       refine wpAnyH_take (i := 14) (oi := ?oiq14) (v := .int .i64 (i : Int)) ?_ (by kernel_rfl) (by kernel_rfl) (by kernel_rfl) ?_ ?_ hHl ?_
       rotate_left
       · simp only [gA, gB, gC]; rfl
       · exact fun _ _ _ h => h
       · exact Or.inl ⟨by kernel_rfl, fun w hSw => by go_simp⟩
       try simp only [Act.put, gD, gE, gF]
       refine wpAnyH_take (i := 15) (oi := ?oiq15) (v := .pointer (some ⟨gl, ol + i * 2, none⟩)) ?_ (by kernel_rfl) (by kernel_rfl) (by kernel_rfl) ?_ ?_ hHl ?_
       rotate_left
       · simp only [gA, gB, gC]; rfl
       · exact fun _ _ _ h => h
       · exact Or.inl ⟨by kernel_rfl, fun w hSw => by go_simp⟩
       try simp only [Act.put, gD, gE, gF]
       refine wpAnyH_take (i := 16) (oi := ?oiq16) (v := .pointer (some ⟨gl, ol + i * 2 + 1, none⟩)) ?_ (by kernel_rfl) (by kernel_rfl) (by kernel_rfl) ?_ ?_ hHl ?_
       rotate_left
       · simp only [gA, gB, gC]; rfl
       · exact fun _ _ _ h => h
       · exact Or.inl ⟨by kernel_rfl, fun w hSw => by go_simp⟩
       try simp only [Act.put, gD, gE, gF]
       refine wpAnyH_take (i := 17) (oi := ?oiq17) (v := .int .i64 (b : Int)) ?_ (by kernel_rfl) (by kernel_rfl) (by kernel_rfl) ?_ ?_ hHl ?_
       rotate_left
       · simp only [gA, gB, gC]; rfl
       · exact fun _ _ _ h => h
       · exact Or.inl ⟨by kernel_rfl, fun w hSw => by obtain ⟨s0, s1, s2, s3⟩ := hSw; go_simp⟩
       try simp only [Act.put, gD, gE, gF]
       refine wpAnyH_ready (rs := [2]) (by kernel_rfl) (by simp) (AllReadyH.cons (o := ?ooq2) ?_ (fun K hK => ?_) AllReadyH.nil)
       rotate_left
       · simp only [gA, gB, gC]; rfl
       go_simp
       go_at_call 16
       refine (hcl1 wr.drew (Below.drew (Below.refl _ _))).mono ?_
       rintro e y1a ⟨tv1p, tus1p, rfl, ot1p, _, bq⟩
       have Y1A : Hid (Below wr.heap.size wr y1a) := Below.trans (Below.drew (Below.refl _ _)) bq
       obtain ⟨g1p, tc1p, rfl⟩ := jh6 ot1p (by omega)
       obtain ⟨u1p, _, cu1p, ou1p⟩ := ot1p.at (j := a) haT
       rw [hx1] at ou1p
       have CU1p : Hid (y1a.cell? ⟨g1p, a, none⟩ = some u1p) := cu1p
       have RU1p : Hid (jf8 y1a u1p (ints xs)) := jc5 ou1p
       clear bq ot1p ou1p
       try go_wp2_with fail
       refine hK.out _ _ (HT.out _ Y1A.out) (fun hHl => ?_)
       clear hK K
       try simp only [Act.put, gD, gE, gF]
       refine wpAnyH_take (i := 8) (oi := ?oiq8) (v := .pointer (some ⟨g1p, a, none⟩)) ?_ (by kernel_rfl) (by kernel_rfl) (by kernel_rfl) ?_ ?_ hHl ?_
       rotate_left
       · simp only [gA, gB, gC]; rfl
       · exact fun _ _ _ h => h
       · exact Or.inl ⟨by kernel_rfl, fun w hSw => by go_simp⟩
       try simp only [Act.put, gD, gE, gF]
       refine wpAnyH_ready (rs := [9, 12]) (by kernel_rfl) (by simp) ?_
       refine (AllReadyH.cons (o := ?ooq9) ?hoq9 (fun K hK => ?hkq9) (AllReadyH.cons (o := ?ooq12) ?hoq12 (fun K hK => ?hkq12) AllReadyH.nil))
       case hoq9 =>
        simp only [gA, gB, gC]
        rfl
       case hoq12 =>
        simp only [gA, gB, gC]
        rfl
       case hkq9 =>
        go_simp
        try go_wp2_with fail
        refine hK.out _ _ (HT.out _ Y1A.out) (fun hHl => ?_)
        clear hK K
        try simp only [Act.put, gD, gE, gF]
        refine wpAnyH_ready (rs := [12]) (by kernel_rfl) (by simp) (AllReadyH.cons (o := ?ooqa12) ?_ (fun K hK => ?_) AllReadyH.nil)
        rotate_left
        · simp only [gA, gB, gC]; rfl
        go_simp
        go_at_call 16
        refine (hcl2 y1a Y1A.out).mono ?_
        rintro e y1b ⟨tv1q, tus1q, rfl, ot1q, _, bq⟩
        have Y1B : Hid (Below wr.heap.size wr y1b) := ja9 Y1A.out bq
        have BB1 : Hid (Below y1a.heap.size y1a y1b) := bq
        have cu1p := jg9 CU1p.out bq
        obtain ⟨g1q, tc1q, rfl⟩ := jh6 ot1q (by omega)
        obtain ⟨u1q, _, cu1q, ou1q⟩ := ot1q.at (j := b) hbT
        rw [hx2] at ou1q
        have CU1q : Hid (y1b.cell? ⟨g1q, b, none⟩ = some u1q) := cu1q
        have RU1q : Hid (jf8 y1b u1q (ints xs)) := jc5 ou1q
        clear bq ot1q ou1q
        try go_wp2_with fail
        refine hK.out _ _ (HT.out _ Y1B.out) (fun hHl => ?_)
        clear hK K
        try simp only [Act.put, gD, gE, gF]
        refine wpAnyH_take (i := 18) (oi := ?oiqa18) (v := .pointer (some ⟨g1q, b, none⟩)) ?_ (by kernel_rfl) (by kernel_rfl) (by kernel_rfl) ?_ ?_ hHl ?_
        rotate_left
        · simp only [gA, gB, gC]; rfl
        · exact fun _ _ _ h => h
        · exact Or.inl ⟨by kernel_rfl, fun w hSw => by go_simp⟩
        try simp only [Act.put, gD, gE, gF]
        refine wpAnyH_ready (rs := [19]) (by kernel_rfl) (by simp) (AllReadyH.cons (o := ?ooqa19) ?_ (fun K hK => ?_) AllReadyH.nil)
        rotate_left
        · simp only [gA, gB, gC]; rfl
        go_simp
        try go_wp2_with fail
        refine hK.out _ _ (HT.out _ Y1B.out) (fun hHl => ?_)
        clear hK K
        try simp only [Act.put, gD, gE, gF]
        refine wpAnyH_ready (rs := [20]) (by kernel_rfl) (by simp) (AllReadyH.cons (o := ?ooqa20) ?_ (fun K hK => ?_) AllReadyH.nil)
        rotate_left
        · simp only [gA, gB, gC]; rfl
        go_simp
        go_at_call 15
        refine (jh4 xs u1p u1q y1b hxl (jc7 RU1p.out BB1.out) RU1q.out).mono ?_
        rintro e y1c ⟨rfl, bq⟩
        have Y1C : Hid (Below wr.heap.size wr y1c) := ja9 Y1B.out bq
        clear bq RU1p RU1q
        try go_wp2_with fail
        refine hK.out _ _ (HT.out _ Y1C.out) (fun hHl => ?_)
        clear hK K
        try simp only [Act.put, gD, gE, gF]
        refine wpAnyH_take (i := 21) (oi := ?oiqa21) (v := .bool false) ?_ (by kernel_rfl) (by kernel_rfl) (by kernel_rfl) ?_ ?_ hHl ?_
        rotate_left
        · simp only [gA, gB, gC]; rfl
        · exact fun _ _ _ h => h
        · exact Or.inl ⟨by kernel_rfl, fun w hSw => by go_simp⟩
        try simp only [Act.put, gD, gE, gF]
        refine wpAnyH_done (by kernel_rfl) ?_ _
        have HBE : Hid (Below w7.heap.size w7 y1c) := ja9 HBC.out Y1C.out
        clear hS9 hcl1 hcl2
        go_wp2
        go_roundw
        case rel => exact ⟨c + 1, by omega, by omega, by go_num, HBE.out⟩
        case measure => simp [intOf]; omega
       case hkq12 =>
        go_simp
        go_at_call 16
        refine (hcl2 y1a Y1A.out).mono ?_
        rintro e y1b ⟨tv1q, tus1q, rfl, ot1q, _, bq⟩
        have Y1B : Hid (Below wr.heap.size wr y1b) := ja9 Y1A.out bq
        have BB1 : Hid (Below y1a.heap.size y1a y1b) := bq
        have cu1p := jg9 CU1p.out bq
        obtain ⟨g1q, tc1q, rfl⟩ := jh6 ot1q (by omega)
        obtain ⟨u1q, _, cu1q, ou1q⟩ := ot1q.at (j := b) hbT
        rw [hx2] at ou1q
        have CU1q : Hid (y1b.cell? ⟨g1q, b, none⟩ = some u1q) := cu1q
        have RU1q : Hid (jf8 y1b u1q (ints xs)) := jc5 ou1q
        clear bq ot1q ou1q
        try go_wp2_with fail
        refine hK.out _ _ (HT.out _ Y1B.out) (fun hHl => ?_)
        clear hK K
        try simp only [Act.put, gD, gE, gF]
        refine wpAnyH_take (i := 18) (oi := ?oiqb18) (v := .pointer (some ⟨g1q, b, none⟩)) ?_ (by kernel_rfl) (by kernel_rfl) (by kernel_rfl) ?_ ?_ hHl ?_
        rotate_left
        · simp only [gA, gB, gC]; rfl
        · exact fun _ _ _ h => h
        · exact Or.inl ⟨by kernel_rfl, fun w hSw => by go_simp⟩
        try simp only [Act.put, gD, gE, gF]
        refine wpAnyH_ready (rs := [9, 19]) (by kernel_rfl) (by simp) ?_
        refine (AllReadyH.cons (o := ?ooqb9) ?hoqb9 (fun K hK => ?hkqb9) (AllReadyH.cons (o := ?ooqb19) ?hoqb19 (fun K hK => ?hkqb19) AllReadyH.nil))
        case hoqb9 =>
         simp only [gA, gB, gC]
         rfl
        case hoqb19 =>
         simp only [gA, gB, gC]
         rfl
        case hkqb9 =>
         go_simp
         try go_wp2_with fail
         refine hK.out _ _ (HT.out _ Y1B.out) (fun hHl => ?_)
         clear hK K
         try simp only [Act.put, gD, gE, gF]
         refine wpAnyH_ready (rs := [19]) (by kernel_rfl) (by simp) (AllReadyH.cons (o := ?ooqba19) ?_ (fun K hK => ?_) AllReadyH.nil)
         rotate_left
         · simp only [gA, gB, gC]; rfl
         go_simp
         try go_wp2_with fail
         refine hK.out _ _ (HT.out _ Y1B.out) (fun hHl => ?_)
         clear hK K
         try simp only [Act.put, gD, gE, gF]
         refine wpAnyH_ready (rs := [20]) (by kernel_rfl) (by simp) (AllReadyH.cons (o := ?ooqba20) ?_ (fun K hK => ?_) AllReadyH.nil)
         rotate_left
         · simp only [gA, gB, gC]; rfl
         go_simp
         go_at_call 15
         refine (jh4 xs u1p u1q y1b hxl (jc7 RU1p.out BB1.out) RU1q.out).mono ?_
         rintro e y1c ⟨rfl, bq⟩
         have Y1C : Hid (Below wr.heap.size wr y1c) := ja9 Y1B.out bq
         clear bq RU1p RU1q
         try go_wp2_with fail
         refine hK.out _ _ (HT.out _ Y1C.out) (fun hHl => ?_)
         clear hK K
         try simp only [Act.put, gD, gE, gF]
         refine wpAnyH_take (i := 21) (oi := ?oiqba21) (v := .bool false) ?_ (by kernel_rfl) (by kernel_rfl) (by kernel_rfl) ?_ ?_ hHl ?_
         rotate_left
         · simp only [gA, gB, gC]; rfl
         · exact fun _ _ _ h => h
         · exact Or.inl ⟨by kernel_rfl, fun w hSw => by go_simp⟩
         try simp only [Act.put, gD, gE, gF]
         refine wpAnyH_done (by kernel_rfl) ?_ _
         have HBE : Hid (Below w7.heap.size w7 y1c) := ja9 HBC.out Y1C.out
         clear hS9 hcl1 hcl2
         go_wp2
         go_roundw
         case rel => exact ⟨c + 1, by omega, by omega, by go_num, HBE.out⟩
         case measure => simp [intOf]; omega
        case hkqb19 =>
         go_simp
         try go_wp2_with fail
         refine hK.out _ _ (HT.out _ Y1B.out) (fun hHl => ?_)
         clear hK K
         try simp only [Act.put, gD, gE, gF]
         refine wpAnyH_ready (rs := [9]) (by kernel_rfl) (by simp) (AllReadyH.cons (o := ?ooqbb9) ?_ (fun K hK => ?_) AllReadyH.nil)
         rotate_left
         · simp only [gA, gB, gC]; rfl
         go_simp
         try go_wp2_with fail
         refine hK.out _ _ (HT.out _ Y1B.out) (fun hHl => ?_)
         clear hK K
         try simp only [Act.put, gD, gE, gF]
         refine wpAnyH_ready (rs := [20]) (by kernel_rfl) (by simp) (AllReadyH.cons (o := ?ooqbb20) ?_ (fun K hK => ?_) AllReadyH.nil)
         rotate_left
         · simp only [gA, gB, gC]; rfl
         go_simp
         go_at_call 15
         refine (jh4 xs u1p u1q y1b hxl (jc7 RU1p.out BB1.out) RU1q.out).mono ?_
         rintro e y1c ⟨rfl, bq⟩
         have Y1C : Hid (Below wr.heap.size wr y1c) := ja9 Y1B.out bq
         clear bq RU1p RU1q
         try go_wp2_with fail
         refine hK.out _ _ (HT.out _ Y1C.out) (fun hHl => ?_)
         clear hK K
         try simp only [Act.put, gD, gE, gF]
         refine wpAnyH_take (i := 21) (oi := ?oiqbb21) (v := .bool false) ?_ (by kernel_rfl) (by kernel_rfl) (by kernel_rfl) ?_ ?_ hHl ?_
         rotate_left
         · simp only [gA, gB, gC]; rfl
         · exact fun _ _ _ h => h
         · exact Or.inl ⟨by kernel_rfl, fun w hSw => by go_simp⟩
         try simp only [Act.put, gD, gE, gF]
         refine wpAnyH_done (by kernel_rfl) ?_ _
         have HBE : Hid (Below w7.heap.size w7 y1c) := ja9 HBC.out Y1C.out
         clear hS9 hcl1 hcl2
         go_wp2
         go_roundw
         case rel => exact ⟨c + 1, by omega, by omega, by go_num, HBE.out⟩
         case measure => simp [intOf]; omega
     · have hcn3 : ¬ (c : Int) ≤ 2 := by omega
       clear hbr
       go_wp2
       go_roundw
       case rel => exact ⟨i + 1, by omega, by go_num, HBC.out⟩
       case measure => simp [intOf]; omega
  · have hni : ¬ (i : Int) < (n : Int) := by omega
    have LOWr : Hid (Below w.heap.size w wr) := ja9 LOW.out hbr
    have HT : Hid (∀ Z, Below wr.heap.size wr Z → Z.cell? ⟨bBP, 0, none⟩ = some (.slice pa pn pc) ∧ Z.cell? ⟨bBC, 0, none⟩ = some (.slice ca cn cc)) := fun Z hZ => ⟨(HS.out Z (ja9 HBI.out hZ)).2.2.1, (HS.out Z (ja9 HBI.out hZ)).2.2.2⟩
    have hS9 := HT.out wr (Below.refl _ _)
    have hcp := fun Z (hZ : Below wr.heap.size wr Z) => HIC.out Z (ja9 HBI.out hZ)
    have RQr : Hid (jb5 wr (.slice ca cn cc) Q) := ja0 RQ.out hbr
    have RPr : Hid (jb5 wr (.slice pa pn pc) ps) := ja0 RP.out hbr
    clear hbr f1 f2 HF1 HF2
    obtain ⟨s0, s1⟩ := id hS9
    cases hb : hasB ps i0 with
    | false =>
     have hQ0 : Q = [] := by have := HQ.out; unfold cloA at this; rw [hb] at this; simpa using this.symm
     have hcn0 : (cn : Int) = 0 := by have := HCN.out; rw [hQ0] at this; simp at this; omega
     have hsx0 : sx = ⟨#[]⟩ := by have := HSX.out; rw [conA_no hb] at this; exact this.symm
     clear hQ0 hb
     subst hsx0
     go_wp2_with fail
     go_at_call 13
     refine (hcp _ (Below.refl _ _)).mono ?_
     rintro e v1 ⟨rfl, bq⟩
     have HBE : Hid (Below w.heap.size w v1) := ja9 LOWr.out bq
     clear bq hcp s0 s1 hS9
     go_wp2
     go_ret
     exact ⟨rfl, HBE.out⟩
    | true =>
     obtain ⟨hpok, j, hj, hij, _⟩ := jx4 hb
     subst hij
     have hQok : ja5 Q = true := by rw [← HQ.out, jo4 hb]; exact jt2 hb
     have hQ1 : 1 ≤ Q.length := by
      have := hQok
      unfold ja5 at this
      simp only [Bool.and_eq_true, decide_eq_true_eq] at this
      omega
     have hcn0 : ¬ (cn : Int) = 0 := by have := HCN.out; omega
     have hQm : Q.length ≤ maxLen ∧ ∀ p ∈ Q, p.length ≤ maxLen := ⟨by have := HQL.out.1; unfold maxLen; omega, fun p hp => by have := HQL.out.2 p hp; unfold maxLen; omega⟩
     have HQM : Hid (Q.length ≤ maxLen ∧ ∀ p ∈ Q, p.length ≤ maxLen) := hQm
     have hQQ : cloA Q 0 = Q := by rw [← HQ.out]; exact cloA_twice hb
     have hpk := fun Z (hZ : Below wr.heap.size wr Z) => jj6 Q (.slice ca cn cc) Z HQM.out.1 HQM.out.2 (ja0 RQr.out hZ)
     have hcl := fun Z (hZ : Below wr.heap.size wr Z) => ju6 Q 0 (.slice ca cn cc) Z HQM.out.1 HQM.out.2 (ja0 RQr.out hZ)
     have hcq := fun Z (hZ : Below wr.heap.size wr Z) => qc4 Q 0 (.slice ca cn cc) Z HQM.out.1 HQM.out.2 (ja0 RQr.out hZ)
     rw [hQok] at hpk
     rw [hQQ] at hcl
     have hcon : conA Q 0 = conA ps (j : Int) := by unfold conA; rw [hQQ, HQ.out]
     have hsx9 : (⟨(conA ps (j : Int)).toArray⟩ : ByteArray) = sx := HSX.out
     rw [hcon, hsx9] at hcq
     obtain ⟨A, hA, _⟩ := reachA_some ps (j : Int)
     have hAl : A.length = Q.length := by rw [← ord14_reach hb (by simpa using hA.1 hb), ← HQ.out, jo4 hb, jg3]
     have hAL : A.length = cn := by have := HCN.out; omega
     have hrc := fun Z (hZ : Below wr.heap.size wr Z) => implReach ps (j : Int) A hA (.slice pa pn pc) Z HL.out.1 HL.out.2 (ja0 RPr.out hZ)
     obtain ⟨f1, hf1⟩ := qa9 ps
     obtain ⟨f2, hf2⟩ := qa9 Q
     obtain ⟨ol1, ot1⟩ := jx6 (hf1 1) hpok (.inl rfl)
     obtain ⟨ol2, ot2⟩ := jx6 (hf1 2) hpok (.inr rfl)
     obtain ⟨ol3, ot3⟩ := jx6 (hf2 1) hQok (.inl rfl)
     obtain ⟨ol4, ot4⟩ := jx6 (hf2 2) hQok (.inr rfl)
     have hw1 := jw4 (.inl rfl) hb ot1 (by rw [HQ.out]; exact ot3)
     have hw2 := jw4 (.inr rfl) hb ot2 (by rw [HQ.out]; exact ot4)
     rw [Int.toNat_natCast] at hw1 hw2
     have g1 := (ot1.good j hj).1
     have g2 := (ot2.good j hj).1
     have k1 := hf1 1
     have k2 := hf1 2
     have k3 := hf2 1
     have k4 := hf2 2
     obtain ⟨T1, hT1⟩ : ∃ T, f1 1 = T := ⟨_, rfl⟩
     obtain ⟨T2, hT2⟩ : ∃ T, f1 2 = T := ⟨_, rfl⟩
     obtain ⟨U1, hU1⟩ : ∃ T, f2 1 = T := ⟨_, rfl⟩
     obtain ⟨U2, hU2⟩ : ∃ T, f2 2 = T := ⟨_, rfl⟩
     rw [hT1] at ol1 hw1 g1 k1
     rw [hT2] at ol2 hw2 g2 k2
     rw [hU1] at ol3 hw1 k3
     rw [hU2] at ol4 hw2 k4
     clear hT1 hT2 hU1 hU2 ot1 ot2 ot3 ot4 hf1 hf2
     have hT1 : j < T1.length := by omega
     have hT2 : j < T2.length := by omega
     have hU1 : 0 < U1.length := by omega
     have hU2 : 0 < U2.length := by omega
     have e1 : T1.getD j [] = T1[j]'hT1 := by simp [List.getD, hT1]
     have e2 : T2.getD j [] = T2[j]'hT2 := by simp [List.getD, hT2]
     have e3 : U1.getD 0 [] = U1[0]'hU1 := by simp [List.getD, hU1]
     have e4 : U2.getD 0 [] = U2[0]'hU2 := by simp [List.getD, hU2]
     rw [e1] at hw1 g1
     rw [e2] at hw2 g2
     rw [e3] at hw1
     rw [e4] at hw2
     obtain ⟨ns, ho2⟩ : ∃ xs, T1[j]'hT1 = xs := ⟨_, rfl⟩
     obtain ⟨os, ho4⟩ : ∃ xs, T2[j]'hT2 = xs := ⟨_, rfl⟩
     rw [ho2] at hw1 g1
     rw [ho4] at hw2 g2
     have HTT : Hid (TabA ps 1 T1 ∧ TabA ps 2 T2 ∧ TabA Q 1 U1 ∧ TabA Q 2 U2 ∧ ns.length ≤ maxLen ∧ os.length ≤ maxLen) := ⟨k1, k2, k3, k4, by rw [g1]; unfold maxLen; omega, by rw [g2]; unfold maxLen; omega⟩
     clear e1 e2 e3 e4 g1 g2 k1 k2 k3 k4 ol1 ol2 ol3 ol4 hQ1 hQm hQQ hcon hsx9 hA hAl
     have hTj1 : (j : Int) < (T1.length : Int) := by omega
     have hTj2 : (j : Int) < (T2.length : Int) := by omega
     have hUj1 : (0 : Int) < (U1.length : Int) := by omega
     have hUj2 : (0 : Int) < (U2.length : Int) := by omega
     have hj0 : (0 : Int) ≤ (j : Int) := by omega
     go_wp2_with fail
     refine wp_region_held_drew (S := fun Z => Z.cell? ⟨bBP, 0, none⟩ = some (.slice pa pn pc) ∧ Z.cell? ⟨bBC, 0, none⟩ = some (.slice ca cn cc)) (by kernel_rfl) hS9 (fun hHl => ?_)
     refine wpAnyH_take (i := 0) (oi := ?oiu0) (v := .agg #[.slice ca cn cc]) ?_ (by kernel_rfl) (by kernel_rfl) (by kernel_rfl) ?_ ?_ hHl ?_
     rotate_left
     · simp only [gA, gB, gC]; rfl
     · exact fun _ _ _ h => h
     · exact Or.inl ⟨by kernel_rfl, fun w hSw => by obtain ⟨s0, s1⟩ := hSw; go_simp⟩
     try simp only [Act.put, gD, gE, gF]
     refine wpAnyH_ready (rs := [1]) (by kernel_rfl) (by simp) (AllReadyH.cons (o := ?oou1) ?_ (fun K hK => ?_) AllReadyH.nil)
     rotate_left
     · simp only [gA, gB, gC]; rfl
     go_simp
     go_at_call 17
     refine (hpk wr.drew (Below.drew (Below.refl _ _))).mono ?_
     rintro e v1 ⟨rfl, bq⟩
     have V1 : Hid (Below wr.heap.size wr v1) := Below.trans (Below.drew (Below.refl _ _)) bq
     clear bq 
     try go_wp2_with fail
     refine hK.out _ _ (HT.out _ V1.out) (fun hHl => ?_)
     clear hK K
     try simp only [Act.put, gD, gE, gF]
     refine wpAnyH_take (i := 2) (oi := ?oiu2) (v := .bool false) ?_ (by kernel_rfl) (by kernel_rfl) (by kernel_rfl) ?_ ?_ hHl ?_
     rotate_left
     · simp only [gA, gB, gC]; rfl
     · exact fun _ _ _ h => h
     · exact Or.inl ⟨by kernel_rfl, fun w hSw => by go_simp⟩
     try simp only [Act.put, gD, gE, gF]
     refine wpAnyH_take (i := 3) (oi := ?oiu3) (v := .bool false) ?_ (by kernel_rfl) (by kernel_rfl) (by kernel_rfl) ?_ ?_ hHl ?_
     rotate_left
     · simp only [gA, gB, gC]; rfl
     · exact fun _ _ _ h => h
     · exact Or.inl ⟨by kernel_rfl, fun w hSw => by go_simp⟩
     try simp only [Act.put, gD, gE, gF]
     refine wpAnyH_take (i := 4) (oi := ?oiu4) (v := .agg #[.slice ca cn cc]) ?_ (by kernel_rfl) (by kernel_rfl) (by kernel_rfl) ?_ ?_ hHl ?_
     rotate_left
     · simp only [gA, gB, gC]; rfl
     · exact fun _ _ _ h => h
     · exact Or.inl ⟨by kernel_rfl, fun w hSw => by obtain ⟨s0, s1⟩ := hSw; go_simp⟩
     try simp only [Act.put, gD, gE, gF]
     refine wpAnyH_take (i := 6) (oi := ?oiu6) (v := .agg #[.slice ca cn cc]) ?_ (by kernel_rfl) (by kernel_rfl) (by kernel_rfl) ?_ ?_ hHl ?_
     rotate_left
     · simp only [gA, gB, gC]; rfl
     · exact fun _ _ _ h => h
     · exact Or.inl ⟨by kernel_rfl, fun w hSw => by obtain ⟨s0, s1⟩ := hSw; go_simp⟩
     try simp only [Act.put, gD, gE, gF]
     refine wpAnyH_ready (rs := [5]) (by kernel_rfl) (by simp) (AllReadyH.cons (o := ?oou5) ?_ (fun K hK => ?_) AllReadyH.nil)
     rotate_left
     · simp only [gA, gB, gC]; rfl
     go_simp
     go_at_call 8
     refine (hcl v1 V1.out).mono ?_
     rintro e v2 ⟨uz, zus, rfl, oz, bq⟩
     have V2 : Hid (Below wr.heap.size wr v2) := ja9 V1.out bq
     obtain ⟨za, zn, zc, rfl⟩ := jd4 oz.row
     have RZ : Hid (jb5 v2 (.slice za zn zc) Q) := jj1 oz.ownP
     clear bq oz
     try go_wp2_with fail
     refine hK.out _ _ (HT.out _ V2.out) (fun hHl => ?_)
     clear hK K
     try simp only [Act.put, gD, gE, gF]
     refine wpAnyH_ready (rs := [7]) (by kernel_rfl) (by simp) (AllReadyH.cons (o := ?oou7) ?_ (fun K hK => ?_) AllReadyH.nil)
     rotate_left
     · simp only [gA, gB, gC]; rfl
     go_simp
     go_at_call 11
     refine (likeProgram Q (.slice za zn zc) (.slice ca cn cc) v2 HQL.out.1 HQL.out.2 RZ.out (ja0 RQr.out V2.out)).mono ?_
     rintro e v3 ⟨rfl, bq⟩
     have V3 : Hid (Below wr.heap.size wr v3) := ja9 V2.out bq
     clear bq RZ
     try go_wp2_with fail
     refine hK.out _ _ (HT.out _ V3.out) (fun hHl => ?_)
     clear hK K
     try simp only [Act.put, gD, gE, gF]
     refine wpAnyH_take (i := 8) (oi := ?oiu8) (v := .bool false) ?_ (by kernel_rfl) (by kernel_rfl) (by kernel_rfl) ?_ ?_ hHl ?_
     rotate_left
     · simp only [gA, gB, gC]; rfl
     · exact fun _ _ _ h => h
     · exact Or.inl ⟨by kernel_rfl, fun w hSw => by go_simp⟩
     try simp only [Act.put, gD, gE, gF]
     refine wpAnyH_take (i := 9) (oi := ?oiu9) (v := .bool false) ?_ (by kernel_rfl) (by kernel_rfl) (by kernel_rfl) ?_ ?_ hHl ?_
     rotate_left
     · simp only [gA, gB, gC]; rfl
     · exact fun _ _ _ h => h
     · exact Or.inl ⟨by kernel_rfl, fun w hSw => by go_simp⟩
     try simp only [Act.put, gD, gE, gF]
     refine wpAnyH_take (i := 10) (oi := ?oiu10) (v := .bool false) ?_ (by kernel_rfl) (by kernel_rfl) (by kernel_rfl) ?_ ?_ hHl ?_
     rotate_left
     · simp only [gA, gB, gC]; rfl
     · exact fun _ _ _ h => h
     · exact Or.inl ⟨by kernel_rfl, fun w hSw => by go_simp⟩
     try simp only [Act.put, gD, gE, gF]
     refine wpAnyH_take (i := 11) (oi := ?oiu11) (v := .agg #[.slice ca cn cc]) ?_ (by kernel_rfl) (by kernel_rfl) (by kernel_rfl) ?_ ?_ hHl ?_
     rotate_left
     · simp only [gA, gB, gC]; rfl
     · exact fun _ _ _ h => h
     · exact Or.inl ⟨by kernel_rfl, fun w hSw => by obtain ⟨s0, s1⟩ := hSw; go_simp⟩
     try simp only [Act.put, gD, gE, gF]
     refine wpAnyH_take (i := 13) (oi := ?oiu13) (v := .agg #[.slice pa pn pc]) ?_ (by kernel_rfl) (by kernel_rfl) (by kernel_rfl) ?_ ?_ hHl ?_
     rotate_left
     · simp only [gA, gB, gC]; rfl
     · exact fun _ _ _ h => h
     · exact Or.inl ⟨by kernel_rfl, fun w hSw => by obtain ⟨s0, s1⟩ := hSw; go_simp⟩
     try simp only [Act.put, gD, gE, gF]
     refine wpAnyH_take (i := 14) (oi := ?oiu14) (v := .int .i64 (j : Int)) ?_ (by kernel_rfl) (by kernel_rfl) (by kernel_rfl) ?_ ?_ hHl ?_
     rotate_left
     · simp only [gA, gB, gC]; rfl
     · exact fun _ _ _ h => h
     · exact Or.inl ⟨by kernel_rfl, fun w hSw => by go_simp⟩
     try simp only [Act.put, gD, gE, gF]
     refine wpAnyH_ready (rs := [12]) (by kernel_rfl) (by simp) (AllReadyH.cons (o := ?oou12) ?_ (fun K hK => ?_) AllReadyH.nil)
     rotate_left
     · simp only [gA, gB, gC]; rfl
     go_simp
     go_at_call 13
     refine (hcq v3 V3.out).mono ?_
     rintro e v4 ⟨rfl, bq⟩
     have V4 : Hid (Below wr.heap.size wr v4) := ja9 V3.out bq
     clear bq 
     try go_wp2_with fail
     refine hK.out _ _ (HT.out _ V4.out) (fun hHl => ?_)
     clear hK K
     try simp only [Act.put, gD, gE, gF]
     refine wpAnyH_ready (rs := [15]) (by kernel_rfl) (by simp) (AllReadyH.cons (o := ?oou15) ?_ (fun K hK => ?_) AllReadyH.nil)
     rotate_left
     · simp only [gA, gB, gC]; rfl
     go_simp
     go_at_call 13
     refine (hcp v4 V4.out).mono ?_
     rintro e v5 ⟨rfl, bq⟩
     have V5 : Hid (Below wr.heap.size wr v5) := ja9 V4.out bq
     clear bq 
     try go_wp2_with fail
     refine hK.out _ _ (HT.out _ V5.out) (fun hHl => ?_)
     clear hK K
     try simp only [Act.put, gD, gE, gF]
     refine wpAnyH_take (i := 16) (oi := ?oiu16) (v := .bool false) ?_ (by kernel_rfl) (by kernel_rfl) (by kernel_rfl) ?_ ?_ hHl ?_
     rotate_left
     · simp only [gA, gB, gC]; rfl
     · exact fun _ _ _ h => h
     · exact Or.inl ⟨by kernel_rfl, fun w hSw => by go_simp⟩
     try simp only [Act.put, gD, gE, gF]
     refine wpAnyH_take (i := 17) (oi := ?oiu17) (v := .bool false) ?_ (by kernel_rfl) (by kernel_rfl) (by kernel_rfl) ?_ ?_ hHl ?_
     rotate_left
     · simp only [gA, gB, gC]; rfl
     · exact fun _ _ _ h => h
     · exact Or.inl ⟨by kernel_rfl, fun w hSw => by go_simp⟩
     try simp only [Act.put, gD, gE, gF]
     refine wpAnyH_take (i := 18) (oi := ?oiu18) (v := .bool false) ?_ (by kernel_rfl) (by kernel_rfl) (by kernel_rfl) ?_ ?_ hHl ?_
     rotate_left
     · simp only [gA, gB, gC]; rfl
     · exact fun _ _ _ h => h
     · exact Or.inl ⟨by kernel_rfl, fun w hSw => by go_simp⟩
     try simp only [Act.put, gD, gE, gF]
     refine wpAnyH_take (i := 19) (oi := ?oiu19) (v := .pointer (some ⟨bBC, 0, none⟩)) ?_ (by kernel_rfl) (by kernel_rfl) (by kernel_rfl) ?_ ?_ hHl ?_
     rotate_left
     · simp only [gA, gB, gC]; rfl
     · exact fun _ _ _ h => h
     · exact Or.inl ⟨by kernel_rfl, fun w hSw => by go_simp⟩
     try simp only [Act.put, gD, gE, gF]
     refine wpAnyH_take (i := 20) (oi := ?oiu20) (v := .slice ca cn cc) ?_ (by kernel_rfl) (by kernel_rfl) (by kernel_rfl) ?_ ?_ hHl ?_
     rotate_left
     · simp only [gA, gB, gC]; rfl
     · exact fun _ _ _ h => h
     · exact Or.inl ⟨by kernel_rfl, fun w hSw => by obtain ⟨s0, s1⟩ := hSw; go_simp⟩
     try simp only [Act.put, gD, gE, gF]
     refine wpAnyH_take (i := 21) (oi := ?oiu21) (v := .int .i64 (cn : Int)) ?_ (by kernel_rfl) (by kernel_rfl) (by kernel_rfl) ?_ ?_ hHl ?_
     rotate_left
     · simp only [gA, gB, gC]; rfl
     · exact fun _ _ _ h => h
     · exact Or.inl ⟨by kernel_rfl, fun w hSw => by go_simp⟩
     try simp only [Act.put, gD, gE, gF]
     refine wpAnyH_take (i := 22) (oi := ?oiu22) (v := .agg #[.slice pa pn pc]) ?_ (by kernel_rfl) (by kernel_rfl) (by kernel_rfl) ?_ ?_ hHl ?_
     rotate_left
     · simp only [gA, gB, gC]; rfl
     · exact fun _ _ _ h => h
     · exact Or.inl ⟨by kernel_rfl, fun w hSw => by obtain ⟨s0, s1⟩ := hSw; go_simp⟩
     try simp only [Act.put, gD, gE, gF]
     refine wpAnyH_take (i := 23) (oi := ?oiu23) (v := .int .i64 (j : Int)) ?_ (by kernel_rfl) (by kernel_rfl) (by kernel_rfl) ?_ ?_ hHl ?_
     rotate_left
     · simp only [gA, gB, gC]; rfl
     · exact fun _ _ _ h => h
     · exact Or.inl ⟨by kernel_rfl, fun w hSw => by go_simp⟩
     try simp only [Act.put, gD, gE, gF]
     refine wpAnyH_ready (rs := [24]) (by kernel_rfl) (by simp) (AllReadyH.cons (o := ?oou24) ?_ (fun K hK => ?_) AllReadyH.nil)
     rotate_left
     · simp only [gA, gB, gC]; rfl
     go_simp
     go_at_call 18
     refine (hrc v5 V5.out).mono ?_
     rintro e v6 ⟨ur, rfl, our, bq⟩
     have V6 : Hid (Below wr.heap.size wr v6) := ja9 V5.out bq
     obtain ⟨rra, rrc, rfl⟩ := own_lenC (hAL.symm ▸ our)
     clear bq our
     try go_wp2_with fail
     refine hK.out _ _ (HT.out _ V6.out) (fun hHl => ?_)
     clear hK K
     try simp only [Act.put, gD, gE, gF]
     refine wpAnyH_take (i := 25) (oi := ?oiu25) (v := .int .i64 (cn : Int)) ?_ (by kernel_rfl) (by kernel_rfl) (by kernel_rfl) ?_ ?_ hHl ?_
     rotate_left
     · simp only [gA, gB, gC]; rfl
     · exact fun _ _ _ h => h
     · exact Or.inl ⟨by kernel_rfl, fun w hSw => by go_simp⟩
     try simp only [Act.put, gD, gE, gF]
     refine wpAnyH_take (i := 26) (oi := ?oiu26) (v := .bool false) ?_ (by kernel_rfl) (by kernel_rfl) (by kernel_rfl) ?_ ?_ hHl ?_
     rotate_left
     · simp only [gA, gB, gC]; rfl
     · exact fun _ _ _ h => h
     · exact Or.inl ⟨by kernel_rfl, fun w hSw => by go_simp⟩
     try simp only [Act.put, gD, gE, gF]
     refine wpAnyH_take (i := 27) (oi := ?oiu27) (v := .bool false) ?_ (by kernel_rfl) (by kernel_rfl) (by kernel_rfl) ?_ ?_ hHl ?_
     rotate_left
     · simp only [gA, gB, gC]; rfl
     · exact fun _ _ _ h => h
     · exact Or.inl ⟨by kernel_rfl, fun w hSw => by go_simp⟩
     try simp only [Act.put, gD, gE, gF]
     refine wpAnyH_done (by kernel_rfl) ?_ _
     have LOWv : Hid (Below w.heap.size w v6) := ja9 LOWr.out V6.out
     have RPv : Hid (jb5 v6 (.slice pa pn pc) ps) := ja0 RPr.out V6.out
     have RQv : Hid (jb5 v6 (.slice ca cn cc) Q) := ja0 RQr.out V6.out
     have HTv : Hid (∀ Z, Below v6.heap.size v6 Z → Z.cell? ⟨bBP, 0, none⟩ = some (.slice pa pn pc) ∧ Z.cell? ⟨bBC, 0, none⟩ = some (.slice ca cn cc)) := fun Z hZ => HT.out Z (ja9 V6.out hZ)
     clear s0 s1 hS9 HT hpk hcl hcq hcp hrc
     have hS9 := HTv.out v6 (Below.refl _ _)
     obtain ⟨s0, s1⟩ := id hS9
     go_wp2_with fail
     have hq1 := fun Z (hZ : Below v6.heap.size v6 Z) => jn1 Q 1 U1 HTT.out.2.2.1 (.slice ca cn cc) Z HQM.out.1 HQM.out.2 (ja0 RQv.out hZ)
     have hq2 := fun Z (hZ : Below v6.heap.size v6 Z) => jn1 Q 2 U2 HTT.out.2.2.2.1 (.slice ca cn cc) Z HQM.out.1 HQM.out.2 (ja0 RQv.out hZ)
     have hp1 := fun Z (hZ : Below v6.heap.size v6 Z) => jn1 ps 1 T1 HTT.out.1 (.slice pa pn pc) Z HL.out.1 HL.out.2 (ja0 RPv.out hZ)
     have hp2 := fun Z (hZ : Below v6.heap.size v6 Z) => jn1 ps 2 T2 HTT.out.2.1 (.slice pa pn pc) Z HL.out.1 HL.out.2 (ja0 RPv.out hZ)
     have hnl := HTT.out.2.2.2.2.1
     have hol := HTT.out.2.2.2.2.2
     have ho1 := hw1
     have ho3 := hw2
     refine wp_region_held_drew (S := fun Z => Z.cell? ⟨bBP, 0, none⟩ = some (.slice pa pn pc) ∧ Z.cell? ⟨bBC, 0, none⟩ = some (.slice ca cn cc)) (by kernel_rfl) hS9 (fun hHl => ?_)
     refine wpAnyH_take (i := 0) (oi := ?oit0) (v := .agg #[.slice ca cn cc]) ?_ (by kernel_rfl) (by kernel_rfl) (by kernel_rfl) ?_ ?_ hHl ?_
     rotate_left
     · simp only [gA, gB, gC]; rfl
     · exact fun _ _ _ h => h
     · exact Or.inl ⟨by kernel_rfl, fun w hSw => by obtain ⟨s0, s1⟩ := hSw; go_simp⟩
     try simp only [Act.put, gD, gE, gF]
     refine wpAnyH_take (i := 4) (oi := ?oit4) (v := .agg #[.slice pa pn pc]) ?_ (by kernel_rfl) (by kernel_rfl) (by kernel_rfl) ?_ ?_ hHl ?_
     rotate_left
     · simp only [gA, gB, gC]; rfl
     · exact fun _ _ _ h => h
     · exact Or.inl ⟨by kernel_rfl, fun w hSw => by obtain ⟨s0, s1⟩ := hSw; go_simp⟩
     try simp only [Act.put, gD, gE, gF]
     refine wpAnyH_take (i := 6) (oi := ?oit6) (v := .int .i64 (j : Int)) ?_ (by kernel_rfl) (by kernel_rfl) (by kernel_rfl) ?_ ?_ hHl ?_
     rotate_left
     · simp only [gA, gB, gC]; rfl
     · exact fun _ _ _ h => h
     · exact Or.inl ⟨by kernel_rfl, fun w hSw => by go_simp⟩
     try simp only [Act.put, gD, gE, gF]
     refine wpAnyH_ready (rs := [1]) (by kernel_rfl) (by simp) (AllReadyH.cons (o := ?oot1) ?_ (fun K hK => ?_) AllReadyH.nil)
     rotate_left
     · simp only [gA, gB, gC]; rfl
     go_simp
     go_at_call 16
     refine (hq1 v6.drew (Below.drew (Below.refl _ _))).mono ?_
     rintro e y2a ⟨tv2p, tus2p, rfl, ot2p, _, bq⟩
     have Y2A : Hid (Below v6.heap.size v6 y2a) := Below.trans (Below.drew (Below.refl _ _)) bq
     obtain ⟨g2p, tc2p, rfl⟩ := jh6 ot2p (by omega)
     obtain ⟨u2p, _, cu2p, ou2p⟩ := ot2p.at (j := 0) hU1
     rw [ho1] at ou2p
     have CU2p : Hid (y2a.cell? ⟨g2p, 0, none⟩ = some u2p) := cu2p
     have RU2p : Hid (jf8 y2a u2p (ints ns)) := jc5 ou2p
     clear bq ot2p ou2p
     try go_wp2_with fail
     refine hK.out _ _ (HTv.out _ Y2A.out) (fun hHl => ?_)
     clear hK K
     try simp only [Act.put, gD, gE, gF]
     refine wpAnyH_take (i := 2) (oi := ?oit2) (v := .pointer (some ⟨g2p, 0, none⟩)) ?_ (by kernel_rfl) (by kernel_rfl) (by kernel_rfl) ?_ ?_ hHl ?_
     rotate_left
     · simp only [gA, gB, gC]; rfl
     · exact fun _ _ _ h => h
     · exact Or.inl ⟨by kernel_rfl, fun w hSw => by go_simp⟩
     try simp only [Act.put, gD, gE, gF]
     refine wpAnyH_ready (rs := [3, 5]) (by kernel_rfl) (by simp) ?_
     refine (AllReadyH.cons (o := ?oot3) ?hot3 (fun K hK => ?hkt3) (AllReadyH.cons (o := ?oot5) ?hot5 (fun K hK => ?hkt5) AllReadyH.nil))
     case hot3 =>
      simp only [gA, gB, gC]
      rfl
     case hot5 =>
      simp only [gA, gB, gC]
      rfl
     case hkt3 =>
      go_simp
      try go_wp2_with fail
      refine hK.out _ _ (HTv.out _ Y2A.out) (fun hHl => ?_)
      clear hK K
      try simp only [Act.put, gD, gE, gF]
      refine wpAnyH_ready (rs := [5]) (by kernel_rfl) (by simp) (AllReadyH.cons (o := ?oota5) ?_ (fun K hK => ?_) AllReadyH.nil)
      rotate_left
      · simp only [gA, gB, gC]; rfl
      go_simp
      go_at_call 16
      refine (hp1 y2a Y2A.out).mono ?_
      rintro e y2b ⟨tv2q, tus2q, rfl, ot2q, _, bq⟩
      have Y2B : Hid (Below v6.heap.size v6 y2b) := ja9 Y2A.out bq
      have BB2 : Hid (Below y2a.heap.size y2a y2b) := bq
      have cu2p := jg9 CU2p.out bq
      obtain ⟨g2q, tc2q, rfl⟩ := jh6 ot2q (by omega)
      obtain ⟨u2q, _, cu2q, ou2q⟩ := ot2q.at (j := j) hT1
      rw [ho2] at ou2q
      have CU2q : Hid (y2b.cell? ⟨g2q, j, none⟩ = some u2q) := cu2q
      have RU2q : Hid (jf8 y2b u2q (ints ns)) := jc5 ou2q
      clear bq ot2q ou2q
      try go_wp2_with fail
      refine hK.out _ _ (HTv.out _ Y2B.out) (fun hHl => ?_)
      clear hK K
      try simp only [Act.put, gD, gE, gF]
      refine wpAnyH_take (i := 7) (oi := ?oita7) (v := .pointer (some ⟨g2q, j, none⟩)) ?_ (by kernel_rfl) (by kernel_rfl) (by kernel_rfl) ?_ ?_ hHl ?_
      rotate_left
      · simp only [gA, gB, gC]; rfl
      · exact fun _ _ _ h => h
      · exact Or.inl ⟨by kernel_rfl, fun w hSw => by go_simp⟩
      try simp only [Act.put, gD, gE, gF]
      refine wpAnyH_ready (rs := [8]) (by kernel_rfl) (by simp) (AllReadyH.cons (o := ?oota8) ?_ (fun K hK => ?_) AllReadyH.nil)
      rotate_left
      · simp only [gA, gB, gC]; rfl
      go_simp
      try go_wp2_with fail
      refine hK.out _ _ (HTv.out _ Y2B.out) (fun hHl => ?_)
      clear hK K
      try simp only [Act.put, gD, gE, gF]
      refine wpAnyH_ready (rs := [9]) (by kernel_rfl) (by simp) (AllReadyH.cons (o := ?oota9) ?_ (fun K hK => ?_) AllReadyH.nil)
      rotate_left
      · simp only [gA, gB, gC]; rfl
      go_simp
      go_at_call 15
      refine (jh4 ns u2p u2q y2b hnl (jc7 RU2p.out BB2.out) RU2q.out).mono ?_
      rintro e y2c ⟨rfl, bq⟩
      have Y2C : Hid (Below v6.heap.size v6 y2c) := ja9 Y2B.out bq
      clear bq RU2p RU2q
      try go_wp2_with fail
      refine hK.out _ _ (HTv.out _ Y2C.out) (fun hHl => ?_)
      clear hK K
      try simp only [Act.put, gD, gE, gF]
      refine wpAnyH_take (i := 10) (oi := ?oita10) (v := .bool true) ?_ (by kernel_rfl) (by kernel_rfl) (by kernel_rfl) ?_ ?_ hHl ?_
      rotate_left
      · simp only [gA, gB, gC]; rfl
      · exact fun _ _ _ h => h
      · exact Or.inl ⟨by kernel_rfl, fun w hSw => by go_simp⟩
      try simp only [Act.put, gD, gE, gF]
      refine wpAnyH_take (i := 11) (oi := ?oita11) (v := .agg #[.slice ca cn cc]) ?_ (by kernel_rfl) (by kernel_rfl) (by kernel_rfl) ?_ ?_ hHl ?_
      rotate_left
      · simp only [gA, gB, gC]; rfl
      · exact fun _ _ _ h => h
      · exact Or.inl ⟨by kernel_rfl, fun w hSw => by obtain ⟨s0, s1⟩ := hSw; go_simp⟩
      try simp only [Act.put, gD, gE, gF]
      refine wpAnyH_take (i := 15) (oi := ?oita15) (v := .agg #[.slice pa pn pc]) ?_ (by kernel_rfl) (by kernel_rfl) (by kernel_rfl) ?_ ?_ hHl ?_
      rotate_left
      · simp only [gA, gB, gC]; rfl
      · exact fun _ _ _ h => h
      · exact Or.inl ⟨by kernel_rfl, fun w hSw => by obtain ⟨s0, s1⟩ := hSw; go_simp⟩
      try simp only [Act.put, gD, gE, gF]
      refine wpAnyH_take (i := 17) (oi := ?oita17) (v := .int .i64 (j : Int)) ?_ (by kernel_rfl) (by kernel_rfl) (by kernel_rfl) ?_ ?_ hHl ?_
      rotate_left
      · simp only [gA, gB, gC]; rfl
      · exact fun _ _ _ h => h
      · exact Or.inl ⟨by kernel_rfl, fun w hSw => by go_simp⟩
      try simp only [Act.put, gD, gE, gF]
      refine wpAnyH_ready (rs := [12]) (by kernel_rfl) (by simp) (AllReadyH.cons (o := ?oota12) ?_ (fun K hK => ?_) AllReadyH.nil)
      rotate_left
      · simp only [gA, gB, gC]; rfl
      go_simp
      go_at_call 16
      refine (hq2 y2c Y2C.out).mono ?_
      rintro e y3a ⟨tv3p, tus3p, rfl, ot3p, _, bq⟩
      have Y3A : Hid (Below v6.heap.size v6 y3a) := ja9 Y2C.out bq
      obtain ⟨g3p, tc3p, rfl⟩ := jh6 ot3p (by omega)
      obtain ⟨u3p, _, cu3p, ou3p⟩ := ot3p.at (j := 0) hU2
      rw [ho3] at ou3p
      have CU3p : Hid (y3a.cell? ⟨g3p, 0, none⟩ = some u3p) := cu3p
      have RU3p : Hid (jf8 y3a u3p (ints os)) := jc5 ou3p
      clear bq ot3p ou3p
      try go_wp2_with fail
      refine hK.out _ _ (HTv.out _ Y3A.out) (fun hHl => ?_)
      clear hK K
      try simp only [Act.put, gD, gE, gF]
      refine wpAnyH_take (i := 13) (oi := ?oita13) (v := .pointer (some ⟨g3p, 0, none⟩)) ?_ (by kernel_rfl) (by kernel_rfl) (by kernel_rfl) ?_ ?_ hHl ?_
      rotate_left
      · simp only [gA, gB, gC]; rfl
      · exact fun _ _ _ h => h
      · exact Or.inl ⟨by kernel_rfl, fun w hSw => by go_simp⟩
      try simp only [Act.put, gD, gE, gF]
      refine wpAnyH_ready (rs := [14, 16]) (by kernel_rfl) (by simp) ?_
      refine (AllReadyH.cons (o := ?oota14) ?hota14 (fun K hK => ?hkta14) (AllReadyH.cons (o := ?oota16) ?hota16 (fun K hK => ?hkta16) AllReadyH.nil))
      case hota14 =>
       simp only [gA, gB, gC]
       rfl
      case hota16 =>
       simp only [gA, gB, gC]
       rfl
      case hkta14 =>
       go_simp
       try go_wp2_with fail
       refine hK.out _ _ (HTv.out _ Y3A.out) (fun hHl => ?_)
       clear hK K
       try simp only [Act.put, gD, gE, gF]
       refine wpAnyH_ready (rs := [16]) (by kernel_rfl) (by simp) (AllReadyH.cons (o := ?ootaa16) ?_ (fun K hK => ?_) AllReadyH.nil)
       rotate_left
       · simp only [gA, gB, gC]; rfl
       go_simp
       go_at_call 16
       refine (hp2 y3a Y3A.out).mono ?_
       rintro e y3b ⟨tv3q, tus3q, rfl, ot3q, _, bq⟩
       have Y3B : Hid (Below v6.heap.size v6 y3b) := ja9 Y3A.out bq
       have BB3 : Hid (Below y3a.heap.size y3a y3b) := bq
       have cu3p := jg9 CU3p.out bq
       obtain ⟨g3q, tc3q, rfl⟩ := jh6 ot3q (by omega)
       obtain ⟨u3q, _, cu3q, ou3q⟩ := ot3q.at (j := j) hT2
       rw [ho4] at ou3q
       have CU3q : Hid (y3b.cell? ⟨g3q, j, none⟩ = some u3q) := cu3q
       have RU3q : Hid (jf8 y3b u3q (ints os)) := jc5 ou3q
       clear bq ot3q ou3q
       try go_wp2_with fail
       refine hK.out _ _ (HTv.out _ Y3B.out) (fun hHl => ?_)
       clear hK K
       try simp only [Act.put, gD, gE, gF]
       refine wpAnyH_take (i := 18) (oi := ?oitaa18) (v := .pointer (some ⟨g3q, j, none⟩)) ?_ (by kernel_rfl) (by kernel_rfl) (by kernel_rfl) ?_ ?_ hHl ?_
       rotate_left
       · simp only [gA, gB, gC]; rfl
       · exact fun _ _ _ h => h
       · exact Or.inl ⟨by kernel_rfl, fun w hSw => by go_simp⟩
       try simp only [Act.put, gD, gE, gF]
       refine wpAnyH_ready (rs := [19]) (by kernel_rfl) (by simp) (AllReadyH.cons (o := ?ootaa19) ?_ (fun K hK => ?_) AllReadyH.nil)
       rotate_left
       · simp only [gA, gB, gC]; rfl
       go_simp
       try go_wp2_with fail
       refine hK.out _ _ (HTv.out _ Y3B.out) (fun hHl => ?_)
       clear hK K
       try simp only [Act.put, gD, gE, gF]
       refine wpAnyH_ready (rs := [20]) (by kernel_rfl) (by simp) (AllReadyH.cons (o := ?ootaa20) ?_ (fun K hK => ?_) AllReadyH.nil)
       rotate_left
       · simp only [gA, gB, gC]; rfl
       go_simp
       go_at_call 15
       refine (jh4 os u3p u3q y3b hol (jc7 RU3p.out BB3.out) RU3q.out).mono ?_
       rintro e y3c ⟨rfl, bq⟩
       have Y3C : Hid (Below v6.heap.size v6 y3c) := ja9 Y3B.out bq
       clear bq RU3p RU3q
       try go_wp2_with fail
       refine hK.out _ _ (HTv.out _ Y3C.out) (fun hHl => ?_)
       clear hK K
       try simp only [Act.put, gD, gE, gF]
       refine wpAnyH_take (i := 21) (oi := ?oitaa21) (v := .bool true) ?_ (by kernel_rfl) (by kernel_rfl) (by kernel_rfl) ?_ ?_ hHl ?_
       rotate_left
       · simp only [gA, gB, gC]; rfl
       · exact fun _ _ _ h => h
       · exact Or.inl ⟨by kernel_rfl, fun w hSw => by go_simp⟩
       try simp only [Act.put, gD, gE, gF]
       refine wpAnyH_take (i := 22) (oi := ?oitaa22) (v := .bool true) ?_ (by kernel_rfl) (by kernel_rfl) (by kernel_rfl) ?_ ?_ hHl ?_
       rotate_left
       · simp only [gA, gB, gC]; rfl
       · exact fun _ _ _ h => h
       · exact Or.inl ⟨by kernel_rfl, fun w hSw => by go_simp⟩
       try simp only [Act.put, gD, gE, gF]
       refine wpAnyH_done (by kernel_rfl) ?_ _
       have HBE : Hid (Below w.heap.size w y3c) := ja9 LOWv.out Y3C.out
       clear hS9 hq1 hp1 hq2 hp2
       go_wp2
       go_ret
       exact ⟨rfl, HBE.out⟩
      case hkta16 =>
       go_simp
       go_at_call 16
       refine (hp2 y3a Y3A.out).mono ?_
       rintro e y3b ⟨tv3q, tus3q, rfl, ot3q, _, bq⟩
       have Y3B : Hid (Below v6.heap.size v6 y3b) := ja9 Y3A.out bq
       have BB3 : Hid (Below y3a.heap.size y3a y3b) := bq
       have cu3p := jg9 CU3p.out bq
       obtain ⟨g3q, tc3q, rfl⟩ := jh6 ot3q (by omega)
       obtain ⟨u3q, _, cu3q, ou3q⟩ := ot3q.at (j := j) hT2
       rw [ho4] at ou3q
       have CU3q : Hid (y3b.cell? ⟨g3q, j, none⟩ = some u3q) := cu3q
       have RU3q : Hid (jf8 y3b u3q (ints os)) := jc5 ou3q
       clear bq ot3q ou3q
       try go_wp2_with fail
       refine hK.out _ _ (HTv.out _ Y3B.out) (fun hHl => ?_)
       clear hK K
       try simp only [Act.put, gD, gE, gF]
       refine wpAnyH_take (i := 18) (oi := ?oitab18) (v := .pointer (some ⟨g3q, j, none⟩)) ?_ (by kernel_rfl) (by kernel_rfl) (by kernel_rfl) ?_ ?_ hHl ?_
       rotate_left
       · simp only [gA, gB, gC]; rfl
       · exact fun _ _ _ h => h
       · exact Or.inl ⟨by kernel_rfl, fun w hSw => by go_simp⟩
       try simp only [Act.put, gD, gE, gF]
       refine wpAnyH_ready (rs := [14, 19]) (by kernel_rfl) (by simp) ?_
       refine (AllReadyH.cons (o := ?ootab14) ?hotab14 (fun K hK => ?hktab14) (AllReadyH.cons (o := ?ootab19) ?hotab19 (fun K hK => ?hktab19) AllReadyH.nil))
       case hotab14 =>
        simp only [gA, gB, gC]
        rfl
       case hotab19 =>
        simp only [gA, gB, gC]
        rfl
       case hktab14 =>
        go_simp
        try go_wp2_with fail
        refine hK.out _ _ (HTv.out _ Y3B.out) (fun hHl => ?_)
        clear hK K
        try simp only [Act.put, gD, gE, gF]
        refine wpAnyH_ready (rs := [19]) (by kernel_rfl) (by simp) (AllReadyH.cons (o := ?ootaba19) ?_ (fun K hK => ?_) AllReadyH.nil)
        rotate_left
        · simp only [gA, gB, gC]; rfl
        go_simp
        try go_wp2_with fail
        refine hK.out _ _ (HTv.out _ Y3B.out) (fun hHl => ?_)
        clear hK K
        try simp only [Act.put, gD, gE, gF]
        refine wpAnyH_ready (rs := [20]) (by kernel_rfl) (by simp) (AllReadyH.cons (o := ?ootaba20) ?_ (fun K hK => ?_) AllReadyH.nil)
        rotate_left
        · simp only [gA, gB, gC]; rfl
        go_simp
        go_at_call 15
        refine (jh4 os u3p u3q y3b hol (jc7 RU3p.out BB3.out) RU3q.out).mono ?_
        rintro e y3c ⟨rfl, bq⟩
        have Y3C : Hid (Below v6.heap.size v6 y3c) := ja9 Y3B.out bq
        clear bq RU3p RU3q
        try go_wp2_with fail
        refine hK.out _ _ (HTv.out _ Y3C.out) (fun hHl => ?_)
        clear hK K
        try simp only [Act.put, gD, gE, gF]
        refine wpAnyH_take (i := 21) (oi := ?oitaba21) (v := .bool true) ?_ (by kernel_rfl) (by kernel_rfl) (by kernel_rfl) ?_ ?_ hHl ?_
        rotate_left
        · simp only [gA, gB, gC]; rfl
        · exact fun _ _ _ h => h
        · exact Or.inl ⟨by kernel_rfl, fun w hSw => by go_simp⟩
        try simp only [Act.put, gD, gE, gF]
        refine wpAnyH_take (i := 22) (oi := ?oitaba22) (v := .bool true) ?_ (by kernel_rfl) (by kernel_rfl) (by kernel_rfl) ?_ ?_ hHl ?_
        rotate_left
        · simp only [gA, gB, gC]; rfl
        · exact fun _ _ _ h => h
        · exact Or.inl ⟨by kernel_rfl, fun w hSw => by go_simp⟩
        try simp only [Act.put, gD, gE, gF]
        refine wpAnyH_done (by kernel_rfl) ?_ _
        have HBE : Hid (Below w.heap.size w y3c) := ja9 LOWv.out Y3C.out
        clear hS9 hq1 hp1 hq2 hp2
        go_wp2
        go_ret
        exact ⟨rfl, HBE.out⟩
       case hktab19 =>
        go_simp
        try go_wp2_with fail
        refine hK.out _ _ (HTv.out _ Y3B.out) (fun hHl => ?_)
        clear hK K
        try simp only [Act.put, gD, gE, gF]
        refine wpAnyH_ready (rs := [14]) (by kernel_rfl) (by simp) (AllReadyH.cons (o := ?ootabb14) ?_ (fun K hK => ?_) AllReadyH.nil)
        rotate_left
        · simp only [gA, gB, gC]; rfl
        go_simp
        try go_wp2_with fail
        refine hK.out _ _ (HTv.out _ Y3B.out) (fun hHl => ?_)
        clear hK K
        try simp only [Act.put, gD, gE, gF]
        refine wpAnyH_ready (rs := [20]) (by kernel_rfl) (by simp) (AllReadyH.cons (o := ?ootabb20) ?_ (fun K hK => ?_) AllReadyH.nil)
        rotate_left
        · simp only [gA, gB, gC]; rfl
        go_simp
        go_at_call 15
        refine (jh4 os u3p u3q y3b hol (jc7 RU3p.out BB3.out) RU3q.out).mono ?_
        rintro e y3c ⟨rfl, bq⟩
        have Y3C : Hid (Below v6.heap.size v6 y3c) := ja9 Y3B.out bq
        clear bq RU3p RU3q
        try go_wp2_with fail
        refine hK.out _ _ (HTv.out _ Y3C.out) (fun hHl => ?_)
        clear hK K
        try simp only [Act.put, gD, gE, gF]
        refine wpAnyH_take (i := 21) (oi := ?oitabb21) (v := .bool true) ?_ (by kernel_rfl) (by kernel_rfl) (by kernel_rfl) ?_ ?_ hHl ?_
        rotate_left
        · simp only [gA, gB, gC]; rfl
        · exact fun _ _ _ h => h
        · exact Or.inl ⟨by kernel_rfl, fun w hSw => by go_simp⟩
        try simp only [Act.put, gD, gE, gF]
        refine wpAnyH_take (i := 22) (oi := ?oitabb22) (v := .bool true) ?_ (by kernel_rfl) (by kernel_rfl) (by kernel_rfl) ?_ ?_ hHl ?_
        rotate_left
        · simp only [gA, gB, gC]; rfl
        · exact fun _ _ _ h => h
        · exact Or.inl ⟨by kernel_rfl, fun w hSw => by go_simp⟩
        try simp only [Act.put, gD, gE, gF]
        refine wpAnyH_done (by kernel_rfl) ?_ _
        have HBE : Hid (Below w.heap.size w y3c) := ja9 LOWv.out Y3C.out
        clear hS9 hq1 hp1 hq2 hp2
        go_wp2
        go_ret
        exact ⟨rfl, HBE.out⟩
     case hkt5 =>
      go_simp
      go_at_call 16
      refine (hp1 y2a Y2A.out).mono ?_
      rintro e y2b ⟨tv2q, tus2q, rfl, ot2q, _, bq⟩
      have Y2B : Hid (Below v6.heap.size v6 y2b) := ja9 Y2A.out bq
      have BB2 : Hid (Below y2a.heap.size y2a y2b) := bq
      have cu2p := jg9 CU2p.out bq
      obtain ⟨g2q, tc2q, rfl⟩ := jh6 ot2q (by omega)
      obtain ⟨u2q, _, cu2q, ou2q⟩ := ot2q.at (j := j) hT1
      rw [ho2] at ou2q
      have CU2q : Hid (y2b.cell? ⟨g2q, j, none⟩ = some u2q) := cu2q
      have RU2q : Hid (jf8 y2b u2q (ints ns)) := jc5 ou2q
      clear bq ot2q ou2q
      try go_wp2_with fail
      refine hK.out _ _ (HTv.out _ Y2B.out) (fun hHl => ?_)
      clear hK K
      try simp only [Act.put, gD, gE, gF]
      refine wpAnyH_take (i := 7) (oi := ?oitb7) (v := .pointer (some ⟨g2q, j, none⟩)) ?_ (by kernel_rfl) (by kernel_rfl) (by kernel_rfl) ?_ ?_ hHl ?_
      rotate_left
      · simp only [gA, gB, gC]; rfl
      · exact fun _ _ _ h => h
      · exact Or.inl ⟨by kernel_rfl, fun w hSw => by go_simp⟩
      try simp only [Act.put, gD, gE, gF]
      refine wpAnyH_ready (rs := [3, 8]) (by kernel_rfl) (by simp) ?_
      refine (AllReadyH.cons (o := ?ootb3) ?hotb3 (fun K hK => ?hktb3) (AllReadyH.cons (o := ?ootb8) ?hotb8 (fun K hK => ?hktb8) AllReadyH.nil))
      case hotb3 =>
       simp only [gA, gB, gC]
       rfl
      case hotb8 =>
       simp only [gA, gB, gC]
       rfl
      case hktb3 =>
       go_simp
       try go_wp2_with fail
       refine hK.out _ _ (HTv.out _ Y2B.out) (fun hHl => ?_)
       clear hK K
       try simp only [Act.put, gD, gE, gF]
       refine wpAnyH_ready (rs := [8]) (by kernel_rfl) (by simp) (AllReadyH.cons (o := ?ootba8) ?_ (fun K hK => ?_) AllReadyH.nil)
       rotate_left
       · simp only [gA, gB, gC]; rfl
       go_simp
       try go_wp2_with fail
       refine hK.out _ _ (HTv.out _ Y2B.out) (fun hHl => ?_)
       clear hK K
       try simp only [Act.put, gD, gE, gF]
       refine wpAnyH_ready (rs := [9]) (by kernel_rfl) (by simp) (AllReadyH.cons (o := ?ootba9) ?_ (fun K hK => ?_) AllReadyH.nil)
       rotate_left
       · simp only [gA, gB, gC]; rfl
       go_simp
       go_at_call 15
       refine (jh4 ns u2p u2q y2b hnl (jc7 RU2p.out BB2.out) RU2q.out).mono ?_
       rintro e y2c ⟨rfl, bq⟩
       have Y2C : Hid (Below v6.heap.size v6 y2c) := ja9 Y2B.out bq
       clear bq RU2p RU2q
       try go_wp2_with fail
       refine hK.out _ _ (HTv.out _ Y2C.out) (fun hHl => ?_)
       clear hK K
       try simp only [Act.put, gD, gE, gF]
       refine wpAnyH_take (i := 10) (oi := ?oitba10) (v := .bool true) ?_ (by kernel_rfl) (by kernel_rfl) (by kernel_rfl) ?_ ?_ hHl ?_
       rotate_left
       · simp only [gA, gB, gC]; rfl
       · exact fun _ _ _ h => h
       · exact Or.inl ⟨by kernel_rfl, fun w hSw => by go_simp⟩
       try simp only [Act.put, gD, gE, gF]
       refine wpAnyH_take (i := 11) (oi := ?oitba11) (v := .agg #[.slice ca cn cc]) ?_ (by kernel_rfl) (by kernel_rfl) (by kernel_rfl) ?_ ?_ hHl ?_
       rotate_left
       · simp only [gA, gB, gC]; rfl
       · exact fun _ _ _ h => h
       · exact Or.inl ⟨by kernel_rfl, fun w hSw => by obtain ⟨s0, s1⟩ := hSw; go_simp⟩
       try simp only [Act.put, gD, gE, gF]
       refine wpAnyH_take (i := 15) (oi := ?oitba15) (v := .agg #[.slice pa pn pc]) ?_ (by kernel_rfl) (by kernel_rfl) (by kernel_rfl) ?_ ?_ hHl ?_
       rotate_left
       · simp only [gA, gB, gC]; rfl
       · exact fun _ _ _ h => h
       · exact Or.inl ⟨by kernel_rfl, fun w hSw => by obtain ⟨s0, s1⟩ := hSw; go_simp⟩
       try simp only [Act.put, gD, gE, gF]
       refine wpAnyH_take (i := 17) (oi := ?oitba17) (v := .int .i64 (j : Int)) ?_ (by kernel_rfl) (by kernel_rfl) (by kernel_rfl) ?_ ?_ hHl ?_
       rotate_left
       · simp only [gA, gB, gC]; rfl
       · exact fun _ _ _ h => h
       · exact Or.inl ⟨by kernel_rfl, fun w hSw => by go_simp⟩
       try simp only [Act.put, gD, gE, gF]
       refine wpAnyH_ready (rs := [12]) (by kernel_rfl) (by simp) (AllReadyH.cons (o := ?ootba12) ?_ (fun K hK => ?_) AllReadyH.nil)
       rotate_left
       · simp only [gA, gB, gC]; rfl
       go_simp
       go_at_call 16
       refine (hq2 y2c Y2C.out).mono ?_
       rintro e y3a ⟨tv3p, tus3p, rfl, ot3p, _, bq⟩
       have Y3A : Hid (Below v6.heap.size v6 y3a) := ja9 Y2C.out bq
       obtain ⟨g3p, tc3p, rfl⟩ := jh6 ot3p (by omega)
       obtain ⟨u3p, _, cu3p, ou3p⟩ := ot3p.at (j := 0) hU2
       rw [ho3] at ou3p
       have CU3p : Hid (y3a.cell? ⟨g3p, 0, none⟩ = some u3p) := cu3p
       have RU3p : Hid (jf8 y3a u3p (ints os)) := jc5 ou3p
       clear bq ot3p ou3p
       try go_wp2_with fail
       refine hK.out _ _ (HTv.out _ Y3A.out) (fun hHl => ?_)
       clear hK K
       try simp only [Act.put, gD, gE, gF]
       refine wpAnyH_take (i := 13) (oi := ?oitba13) (v := .pointer (some ⟨g3p, 0, none⟩)) ?_ (by kernel_rfl) (by kernel_rfl) (by kernel_rfl) ?_ ?_ hHl ?_
       rotate_left
       · simp only [gA, gB, gC]; rfl
       · exact fun _ _ _ h => h
       · exact Or.inl ⟨by kernel_rfl, fun w hSw => by go_simp⟩
       try simp only [Act.put, gD, gE, gF]
       refine wpAnyH_ready (rs := [14, 16]) (by kernel_rfl) (by simp) ?_
       refine (AllReadyH.cons (o := ?ootba14) ?hotba14 (fun K hK => ?hktba14) (AllReadyH.cons (o := ?ootba16) ?hotba16 (fun K hK => ?hktba16) AllReadyH.nil))
       case hotba14 =>
        simp only [gA, gB, gC]
        rfl
       case hotba16 =>
        simp only [gA, gB, gC]
        rfl
       case hktba14 =>
        go_simp
        try go_wp2_with fail
        refine hK.out _ _ (HTv.out _ Y3A.out) (fun hHl => ?_)
        clear hK K
        try simp only [Act.put, gD, gE, gF]
        refine wpAnyH_ready (rs := [16]) (by kernel_rfl) (by simp) (AllReadyH.cons (o := ?ootbaa16) ?_ (fun K hK => ?_) AllReadyH.nil)
        rotate_left
        · simp only [gA, gB, gC]; rfl
        go_simp
        go_at_call 16
        refine (hp2 y3a Y3A.out).mono ?_
        rintro e y3b ⟨tv3q, tus3q, rfl, ot3q, _, bq⟩
        have Y3B : Hid (Below v6.heap.size v6 y3b) := ja9 Y3A.out bq
        have BB3 : Hid (Below y3a.heap.size y3a y3b) := bq
        have cu3p := jg9 CU3p.out bq
        obtain ⟨g3q, tc3q, rfl⟩ := jh6 ot3q (by omega)
        obtain ⟨u3q, _, cu3q, ou3q⟩ := ot3q.at (j := j) hT2
        rw [ho4] at ou3q
        have CU3q : Hid (y3b.cell? ⟨g3q, j, none⟩ = some u3q) := cu3q
        have RU3q : Hid (jf8 y3b u3q (ints os)) := jc5 ou3q
        clear bq ot3q ou3q
        try go_wp2_with fail
        refine hK.out _ _ (HTv.out _ Y3B.out) (fun hHl => ?_)
        clear hK K
        try simp only [Act.put, gD, gE, gF]
        refine wpAnyH_take (i := 18) (oi := ?oitbaa18) (v := .pointer (some ⟨g3q, j, none⟩)) ?_ (by kernel_rfl) (by kernel_rfl) (by kernel_rfl) ?_ ?_ hHl ?_
        rotate_left
        · simp only [gA, gB, gC]; rfl
        · exact fun _ _ _ h => h
        · exact Or.inl ⟨by kernel_rfl, fun w hSw => by go_simp⟩
        try simp only [Act.put, gD, gE, gF]
        refine wpAnyH_ready (rs := [19]) (by kernel_rfl) (by simp) (AllReadyH.cons (o := ?ootbaa19) ?_ (fun K hK => ?_) AllReadyH.nil)
        rotate_left
        · simp only [gA, gB, gC]; rfl
        go_simp
        try go_wp2_with fail
        refine hK.out _ _ (HTv.out _ Y3B.out) (fun hHl => ?_)
        clear hK K
        try simp only [Act.put, gD, gE, gF]
        refine wpAnyH_ready (rs := [20]) (by kernel_rfl) (by simp) (AllReadyH.cons (o := ?ootbaa20) ?_ (fun K hK => ?_) AllReadyH.nil)
        rotate_left
        · simp only [gA, gB, gC]; rfl
        go_simp
        go_at_call 15
        refine (jh4 os u3p u3q y3b hol (jc7 RU3p.out BB3.out) RU3q.out).mono ?_
        rintro e y3c ⟨rfl, bq⟩
        have Y3C : Hid (Below v6.heap.size v6 y3c) := ja9 Y3B.out bq
        clear bq RU3p RU3q
        try go_wp2_with fail
        refine hK.out _ _ (HTv.out _ Y3C.out) (fun hHl => ?_)
        clear hK K
        try simp only [Act.put, gD, gE, gF]
        refine wpAnyH_take (i := 21) (oi := ?oitbaa21) (v := .bool true) ?_ (by kernel_rfl) (by kernel_rfl) (by kernel_rfl) ?_ ?_ hHl ?_
        rotate_left
        · simp only [gA, gB, gC]; rfl
        · exact fun _ _ _ h => h
        · exact Or.inl ⟨by kernel_rfl, fun w hSw => by go_simp⟩
        try simp only [Act.put, gD, gE, gF]
        refine wpAnyH_take (i := 22) (oi := ?oitbaa22) (v := .bool true) ?_ (by kernel_rfl) (by kernel_rfl) (by kernel_rfl) ?_ ?_ hHl ?_
        rotate_left
        · simp only [gA, gB, gC]; rfl
        · exact fun _ _ _ h => h
        · exact Or.inl ⟨by kernel_rfl, fun w hSw => by go_simp⟩
        try simp only [Act.put, gD, gE, gF]
        refine wpAnyH_done (by kernel_rfl) ?_ _
        have HBE : Hid (Below w.heap.size w y3c) := ja9 LOWv.out Y3C.out
        clear hS9 hq1 hp1 hq2 hp2
        go_wp2
        go_ret
        exact ⟨rfl, HBE.out⟩
       case hktba16 =>
        go_simp
        go_at_call 16
        refine (hp2 y3a Y3A.out).mono ?_
        rintro e y3b ⟨tv3q, tus3q, rfl, ot3q, _, bq⟩
        have Y3B : Hid (Below v6.heap.size v6 y3b) := ja9 Y3A.out bq
        have BB3 : Hid (Below y3a.heap.size y3a y3b) := bq
        have cu3p := jg9 CU3p.out bq
        obtain ⟨g3q, tc3q, rfl⟩ := jh6 ot3q (by omega)
        obtain ⟨u3q, _, cu3q, ou3q⟩ := ot3q.at (j := j) hT2
        rw [ho4] at ou3q
        have CU3q : Hid (y3b.cell? ⟨g3q, j, none⟩ = some u3q) := cu3q
        have RU3q : Hid (jf8 y3b u3q (ints os)) := jc5 ou3q
        clear bq ot3q ou3q
        try go_wp2_with fail
        refine hK.out _ _ (HTv.out _ Y3B.out) (fun hHl => ?_)
        clear hK K
        try simp only [Act.put, gD, gE, gF]
        refine wpAnyH_take (i := 18) (oi := ?oitbab18) (v := .pointer (some ⟨g3q, j, none⟩)) ?_ (by kernel_rfl) (by kernel_rfl) (by kernel_rfl) ?_ ?_ hHl ?_
        rotate_left
        · simp only [gA, gB, gC]; rfl
        · exact fun _ _ _ h => h
        · exact Or.inl ⟨by kernel_rfl, fun w hSw => by go_simp⟩
        try simp only [Act.put, gD, gE, gF]
        refine wpAnyH_ready (rs := [14, 19]) (by kernel_rfl) (by simp) ?_
        refine (AllReadyH.cons (o := ?ootbab14) ?hotbab14 (fun K hK => ?hktbab14) (AllReadyH.cons (o := ?ootbab19) ?hotbab19 (fun K hK => ?hktbab19) AllReadyH.nil))
        case hotbab14 =>
         simp only [gA, gB, gC]
         rfl
        case hotbab19 =>
         simp only [gA, gB, gC]
         rfl
        case hktbab14 =>
         go_simp
         try go_wp2_with fail
         refine hK.out _ _ (HTv.out _ Y3B.out) (fun hHl => ?_)
         clear hK K
         try simp only [Act.put, gD, gE, gF]
         refine wpAnyH_ready (rs := [19]) (by kernel_rfl) (by simp) (AllReadyH.cons (o := ?ootbaba19) ?_ (fun K hK => ?_) AllReadyH.nil)
         rotate_left
         · simp only [gA, gB, gC]; rfl
         go_simp
         try go_wp2_with fail
         refine hK.out _ _ (HTv.out _ Y3B.out) (fun hHl => ?_)
         clear hK K
         try simp only [Act.put, gD, gE, gF]
         refine wpAnyH_ready (rs := [20]) (by kernel_rfl) (by simp) (AllReadyH.cons (o := ?ootbaba20) ?_ (fun K hK => ?_) AllReadyH.nil)
         rotate_left
         · simp only [gA, gB, gC]; rfl
         go_simp
         go_at_call 15
         refine (jh4 os u3p u3q y3b hol (jc7 RU3p.out BB3.out) RU3q.out).mono ?_
         rintro e y3c ⟨rfl, bq⟩
         have Y3C : Hid (Below v6.heap.size v6 y3c) := ja9 Y3B.out bq
         clear bq RU3p RU3q
         try go_wp2_with fail
         refine hK.out _ _ (HTv.out _ Y3C.out) (fun hHl => ?_)
         clear hK K
         try simp only [Act.put, gD, gE, gF]
         refine wpAnyH_take (i := 21) (oi := ?oitbaba21) (v := .bool true) ?_ (by kernel_rfl) (by kernel_rfl) (by kernel_rfl) ?_ ?_ hHl ?_
         rotate_left
         · simp only [gA, gB, gC]; rfl
         · exact fun _ _ _ h => h
         · exact Or.inl ⟨by kernel_rfl, fun w hSw => by go_simp⟩
         try simp only [Act.put, gD, gE, gF]
         refine wpAnyH_take (i := 22) (oi := ?oitbaba22) (v := .bool true) ?_ (by kernel_rfl) (by kernel_rfl) (by kernel_rfl) ?_ ?_ hHl ?_
         rotate_left
         · simp only [gA, gB, gC]; rfl
         · exact fun _ _ _ h => h
         · exact Or.inl ⟨by kernel_rfl, fun w hSw => by go_simp⟩
         try simp only [Act.put, gD, gE, gF]
         refine wpAnyH_done (by kernel_rfl) ?_ _
         have HBE : Hid (Below w.heap.size w y3c) := ja9 LOWv.out Y3C.out
         clear hS9 hq1 hp1 hq2 hp2
         go_wp2
         go_ret
         exact ⟨rfl, HBE.out⟩
        case hktbab19 =>
         go_simp
         try go_wp2_with fail
         refine hK.out _ _ (HTv.out _ Y3B.out) (fun hHl => ?_)
         clear hK K
         try simp only [Act.put, gD, gE, gF]
         refine wpAnyH_ready (rs := [14]) (by kernel_rfl) (by simp) (AllReadyH.cons (o := ?ootbabb14) ?_ (fun K hK => ?_) AllReadyH.nil)
         rotate_left
         · simp only [gA, gB, gC]; rfl
         go_simp
         try go_wp2_with fail
         refine hK.out _ _ (HTv.out _ Y3B.out) (fun hHl => ?_)
         clear hK K
         try simp only [Act.put, gD, gE, gF]
         refine wpAnyH_ready (rs := [20]) (by kernel_rfl) (by simp) (AllReadyH.cons (o := ?ootbabb20) ?_ (fun K hK => ?_) AllReadyH.nil)
         rotate_left
         · simp only [gA, gB, gC]; rfl
         go_simp
         go_at_call 15
         refine (jh4 os u3p u3q y3b hol (jc7 RU3p.out BB3.out) RU3q.out).mono ?_
         rintro e y3c ⟨rfl, bq⟩
         have Y3C : Hid (Below v6.heap.size v6 y3c) := ja9 Y3B.out bq
         clear bq RU3p RU3q
         try go_wp2_with fail
         refine hK.out _ _ (HTv.out _ Y3C.out) (fun hHl => ?_)
         clear hK K
         try simp only [Act.put, gD, gE, gF]
         refine wpAnyH_take (i := 21) (oi := ?oitbabb21) (v := .bool true) ?_ (by kernel_rfl) (by kernel_rfl) (by kernel_rfl) ?_ ?_ hHl ?_
         rotate_left
         · simp only [gA, gB, gC]; rfl
         · exact fun _ _ _ h => h
         · exact Or.inl ⟨by kernel_rfl, fun w hSw => by go_simp⟩
         try simp only [Act.put, gD, gE, gF]
         refine wpAnyH_take (i := 22) (oi := ?oitbabb22) (v := .bool true) ?_ (by kernel_rfl) (by kernel_rfl) (by kernel_rfl) ?_ ?_ hHl ?_
         rotate_left
         · simp only [gA, gB, gC]; rfl
         · exact fun _ _ _ h => h
         · exact Or.inl ⟨by kernel_rfl, fun w hSw => by go_simp⟩
         try simp only [Act.put, gD, gE, gF]
         refine wpAnyH_done (by kernel_rfl) ?_ _
         have HBE : Hid (Below w.heap.size w y3c) := ja9 LOWv.out Y3C.out
         clear hS9 hq1 hp1 hq2 hp2
         go_wp2
         go_ret
         exact ⟨rfl, HBE.out⟩
      case hktb8 =>
       go_simp
       try go_wp2_with fail
       refine hK.out _ _ (HTv.out _ Y2B.out) (fun hHl => ?_)
       clear hK K
       try simp only [Act.put, gD, gE, gF]
       refine wpAnyH_ready (rs := [3]) (by kernel_rfl) (by simp) (AllReadyH.cons (o := ?ootbb3) ?_ (fun K hK => ?_) AllReadyH.nil)
       rotate_left
       · simp only [gA, gB, gC]; rfl
       go_simp
       try go_wp2_with fail
       refine hK.out _ _ (HTv.out _ Y2B.out) (fun hHl => ?_)
       clear hK K
       try simp only [Act.put, gD, gE, gF]
       refine wpAnyH_ready (rs := [9]) (by kernel_rfl) (by simp) (AllReadyH.cons (o := ?ootbb9) ?_ (fun K hK => ?_) AllReadyH.nil)
       rotate_left
       · simp only [gA, gB, gC]; rfl
       go_simp
       go_at_call 15
       refine (jh4 ns u2p u2q y2b hnl (jc7 RU2p.out BB2.out) RU2q.out).mono ?_
       rintro e y2c ⟨rfl, bq⟩
       have Y2C : Hid (Below v6.heap.size v6 y2c) := ja9 Y2B.out bq
       clear bq RU2p RU2q
       try go_wp2_with fail
       refine hK.out _ _ (HTv.out _ Y2C.out) (fun hHl => ?_)
       clear hK K
       try simp only [Act.put, gD, gE, gF]
       refine wpAnyH_take (i := 10) (oi := ?oitbb10) (v := .bool true) ?_ (by kernel_rfl) (by kernel_rfl) (by kernel_rfl) ?_ ?_ hHl ?_
       rotate_left
       · simp only [gA, gB, gC]; rfl
       · exact fun _ _ _ h => h
       · exact Or.inl ⟨by kernel_rfl, fun w hSw => by go_simp⟩
       try simp only [Act.put, gD, gE, gF]
       refine wpAnyH_take (i := 11) (oi := ?oitbb11) (v := .agg #[.slice ca cn cc]) ?_ (by kernel_rfl) (by kernel_rfl) (by kernel_rfl) ?_ ?_ hHl ?_
       rotate_left
       · simp only [gA, gB, gC]; rfl
       · exact fun _ _ _ h => h
       · exact Or.inl ⟨by kernel_rfl, fun w hSw => by obtain ⟨s0, s1⟩ := hSw; go_simp⟩
       try simp only [Act.put, gD, gE, gF]
       refine wpAnyH_take (i := 15) (oi := ?oitbb15) (v := .agg #[.slice pa pn pc]) ?_ (by kernel_rfl) (by kernel_rfl) (by kernel_rfl) ?_ ?_ hHl ?_
       rotate_left
       · simp only [gA, gB, gC]; rfl
       · exact fun _ _ _ h => h
       · exact Or.inl ⟨by kernel_rfl, fun w hSw => by obtain ⟨s0, s1⟩ := hSw; go_simp⟩
       try simp only [Act.put, gD, gE, gF]
       refine wpAnyH_take (i := 17) (oi := ?oitbb17) (v := .int .i64 (j : Int)) ?_ (by kernel_rfl) (by kernel_rfl) (by kernel_rfl) ?_ ?_ hHl ?_
       rotate_left
       · simp only [gA, gB, gC]; rfl
       · exact fun _ _ _ h => h
       · exact Or.inl ⟨by kernel_rfl, fun w hSw => by go_simp⟩
       try simp only [Act.put, gD, gE, gF]
       refine wpAnyH_ready (rs := [12]) (by kernel_rfl) (by simp) (AllReadyH.cons (o := ?ootbb12) ?_ (fun K hK => ?_) AllReadyH.nil)
       rotate_left
       · simp only [gA, gB, gC]; rfl
       go_simp
       go_at_call 16
       refine (hq2 y2c Y2C.out).mono ?_
       rintro e y3a ⟨tv3p, tus3p, rfl, ot3p, _, bq⟩
       have Y3A : Hid (Below v6.heap.size v6 y3a) := ja9 Y2C.out bq
       obtain ⟨g3p, tc3p, rfl⟩ := jh6 ot3p (by omega)
       obtain ⟨u3p, _, cu3p, ou3p⟩ := ot3p.at (j := 0) hU2
       rw [ho3] at ou3p
       have CU3p : Hid (y3a.cell? ⟨g3p, 0, none⟩ = some u3p) := cu3p
       have RU3p : Hid (jf8 y3a u3p (ints os)) := jc5 ou3p
       clear bq ot3p ou3p
       try go_wp2_with fail
       refine hK.out _ _ (HTv.out _ Y3A.out) (fun hHl => ?_)
       clear hK K
       try simp only [Act.put, gD, gE, gF]
       refine wpAnyH_take (i := 13) (oi := ?oitbb13) (v := .pointer (some ⟨g3p, 0, none⟩)) ?_ (by kernel_rfl) (by kernel_rfl) (by kernel_rfl) ?_ ?_ hHl ?_
       rotate_left
       · simp only [gA, gB, gC]; rfl
       · exact fun _ _ _ h => h
       · exact Or.inl ⟨by kernel_rfl, fun w hSw => by go_simp⟩
       try simp only [Act.put, gD, gE, gF]
       refine wpAnyH_ready (rs := [14, 16]) (by kernel_rfl) (by simp) ?_
       refine (AllReadyH.cons (o := ?ootbb14) ?hotbb14 (fun K hK => ?hktbb14) (AllReadyH.cons (o := ?ootbb16) ?hotbb16 (fun K hK => ?hktbb16) AllReadyH.nil))
       case hotbb14 =>
        simp only [gA, gB, gC]
        rfl
       case hotbb16 =>
        simp only [gA, gB, gC]
        rfl
       case hktbb14 =>
        go_simp
        try go_wp2_with fail
        refine hK.out _ _ (HTv.out _ Y3A.out) (fun hHl => ?_)
        clear hK K
        try simp only [Act.put, gD, gE, gF]
        refine wpAnyH_ready (rs := [16]) (by kernel_rfl) (by simp) (AllReadyH.cons (o := ?ootbba16) ?_ (fun K hK => ?_) AllReadyH.nil)
        rotate_left
        · simp only [gA, gB, gC]; rfl
        go_simp
        go_at_call 16
        refine (hp2 y3a Y3A.out).mono ?_
        rintro e y3b ⟨tv3q, tus3q, rfl, ot3q, _, bq⟩
        have Y3B : Hid (Below v6.heap.size v6 y3b) := ja9 Y3A.out bq
        have BB3 : Hid (Below y3a.heap.size y3a y3b) := bq
        have cu3p := jg9 CU3p.out bq
        obtain ⟨g3q, tc3q, rfl⟩ := jh6 ot3q (by omega)
        obtain ⟨u3q, _, cu3q, ou3q⟩ := ot3q.at (j := j) hT2
        rw [ho4] at ou3q
        have CU3q : Hid (y3b.cell? ⟨g3q, j, none⟩ = some u3q) := cu3q
        have RU3q : Hid (jf8 y3b u3q (ints os)) := jc5 ou3q
        clear bq ot3q ou3q
        try go_wp2_with fail
        refine hK.out _ _ (HTv.out _ Y3B.out) (fun hHl => ?_)
        clear hK K
        try simp only [Act.put, gD, gE, gF]
        refine wpAnyH_take (i := 18) (oi := ?oitbba18) (v := .pointer (some ⟨g3q, j, none⟩)) ?_ (by kernel_rfl) (by kernel_rfl) (by kernel_rfl) ?_ ?_ hHl ?_
        rotate_left
        · simp only [gA, gB, gC]; rfl
        · exact fun _ _ _ h => h
        · exact Or.inl ⟨by kernel_rfl, fun w hSw => by go_simp⟩
        try simp only [Act.put, gD, gE, gF]
        refine wpAnyH_ready (rs := [19]) (by kernel_rfl) (by simp) (AllReadyH.cons (o := ?ootbba19) ?_ (fun K hK => ?_) AllReadyH.nil)
        rotate_left
        · simp only [gA, gB, gC]; rfl
        go_simp
        try go_wp2_with fail
        refine hK.out _ _ (HTv.out _ Y3B.out) (fun hHl => ?_)
        clear hK K
        try simp only [Act.put, gD, gE, gF]
        refine wpAnyH_ready (rs := [20]) (by kernel_rfl) (by simp) (AllReadyH.cons (o := ?ootbba20) ?_ (fun K hK => ?_) AllReadyH.nil)
        rotate_left
        · simp only [gA, gB, gC]; rfl
        go_simp
        go_at_call 15
        refine (jh4 os u3p u3q y3b hol (jc7 RU3p.out BB3.out) RU3q.out).mono ?_
        rintro e y3c ⟨rfl, bq⟩
        have Y3C : Hid (Below v6.heap.size v6 y3c) := ja9 Y3B.out bq
        clear bq RU3p RU3q
        try go_wp2_with fail
        refine hK.out _ _ (HTv.out _ Y3C.out) (fun hHl => ?_)
        clear hK K
        try simp only [Act.put, gD, gE, gF]
        refine wpAnyH_take (i := 21) (oi := ?oitbba21) (v := .bool true) ?_ (by kernel_rfl) (by kernel_rfl) (by kernel_rfl) ?_ ?_ hHl ?_
        rotate_left
        · simp only [gA, gB, gC]; rfl
        · exact fun _ _ _ h => h
        · exact Or.inl ⟨by kernel_rfl, fun w hSw => by go_simp⟩
        try simp only [Act.put, gD, gE, gF]
        refine wpAnyH_take (i := 22) (oi := ?oitbba22) (v := .bool true) ?_ (by kernel_rfl) (by kernel_rfl) (by kernel_rfl) ?_ ?_ hHl ?_
        rotate_left
        · simp only [gA, gB, gC]; rfl
        · exact fun _ _ _ h => h
        · exact Or.inl ⟨by kernel_rfl, fun w hSw => by go_simp⟩
        try simp only [Act.put, gD, gE, gF]
        refine wpAnyH_done (by kernel_rfl) ?_ _
        have HBE : Hid (Below w.heap.size w y3c) := ja9 LOWv.out Y3C.out
        clear hS9 hq1 hp1 hq2 hp2
        go_wp2
        go_ret
        exact ⟨rfl, HBE.out⟩
       case hktbb16 =>
        go_simp
        go_at_call 16
        refine (hp2 y3a Y3A.out).mono ?_
        rintro e y3b ⟨tv3q, tus3q, rfl, ot3q, _, bq⟩
        have Y3B : Hid (Below v6.heap.size v6 y3b) := ja9 Y3A.out bq
        have BB3 : Hid (Below y3a.heap.size y3a y3b) := bq
        have cu3p := jg9 CU3p.out bq
        obtain ⟨g3q, tc3q, rfl⟩ := jh6 ot3q (by omega)
        obtain ⟨u3q, _, cu3q, ou3q⟩ := ot3q.at (j := j) hT2
        rw [ho4] at ou3q
        have CU3q : Hid (y3b.cell? ⟨g3q, j, none⟩ = some u3q) := cu3q
        have RU3q : Hid (jf8 y3b u3q (ints os)) := jc5 ou3q
        clear bq ot3q ou3q
        try go_wp2_with fail
        refine hK.out _ _ (HTv.out _ Y3B.out) (fun hHl => ?_)
        clear hK K
        try simp only [Act.put, gD, gE, gF]
        refine wpAnyH_take (i := 18) (oi := ?oitbbb18) (v := .pointer (some ⟨g3q, j, none⟩)) ?_ (by kernel_rfl) (by kernel_rfl) (by kernel_rfl) ?_ ?_ hHl ?_
        rotate_left
        · simp only [gA, gB, gC]; rfl
        · exact fun _ _ _ h => h
        · exact Or.inl ⟨by kernel_rfl, fun w hSw => by go_simp⟩
        try simp only [Act.put, gD, gE, gF]
        refine wpAnyH_ready (rs := [14, 19]) (by kernel_rfl) (by simp) ?_
        refine (AllReadyH.cons (o := ?ootbbb14) ?hotbbb14 (fun K hK => ?hktbbb14) (AllReadyH.cons (o := ?ootbbb19) ?hotbbb19 (fun K hK => ?hktbbb19) AllReadyH.nil))
        case hotbbb14 =>
         simp only [gA, gB, gC]
         rfl
        case hotbbb19 =>
         simp only [gA, gB, gC]
         rfl
        case hktbbb14 =>
         go_simp
         try go_wp2_with fail
         refine hK.out _ _ (HTv.out _ Y3B.out) (fun hHl => ?_)
         clear hK K
         try simp only [Act.put, gD, gE, gF]
         refine wpAnyH_ready (rs := [19]) (by kernel_rfl) (by simp) (AllReadyH.cons (o := ?ootbbba19) ?_ (fun K hK => ?_) AllReadyH.nil)
         rotate_left
         · simp only [gA, gB, gC]; rfl
         go_simp
         try go_wp2_with fail
         refine hK.out _ _ (HTv.out _ Y3B.out) (fun hHl => ?_)
         clear hK K
         try simp only [Act.put, gD, gE, gF]
         refine wpAnyH_ready (rs := [20]) (by kernel_rfl) (by simp) (AllReadyH.cons (o := ?ootbbba20) ?_ (fun K hK => ?_) AllReadyH.nil)
         rotate_left
         · simp only [gA, gB, gC]; rfl
         go_simp
         go_at_call 15
         refine (jh4 os u3p u3q y3b hol (jc7 RU3p.out BB3.out) RU3q.out).mono ?_
         rintro e y3c ⟨rfl, bq⟩
         have Y3C : Hid (Below v6.heap.size v6 y3c) := ja9 Y3B.out bq
         clear bq RU3p RU3q
         try go_wp2_with fail
         refine hK.out _ _ (HTv.out _ Y3C.out) (fun hHl => ?_)
         clear hK K
         try simp only [Act.put, gD, gE, gF]
         refine wpAnyH_take (i := 21) (oi := ?oitbbba21) (v := .bool true) ?_ (by kernel_rfl) (by kernel_rfl) (by kernel_rfl) ?_ ?_ hHl ?_
         rotate_left
         · simp only [gA, gB, gC]; rfl
         · exact fun _ _ _ h => h
         · exact Or.inl ⟨by kernel_rfl, fun w hSw => by go_simp⟩
         try simp only [Act.put, gD, gE, gF]
         refine wpAnyH_take (i := 22) (oi := ?oitbbba22) (v := .bool true) ?_ (by kernel_rfl) (by kernel_rfl) (by kernel_rfl) ?_ ?_ hHl ?_
         rotate_left
         · simp only [gA, gB, gC]; rfl
         · exact fun _ _ _ h => h
         · exact Or.inl ⟨by kernel_rfl, fun w hSw => by go_simp⟩
         try simp only [Act.put, gD, gE, gF]
         refine wpAnyH_done (by kernel_rfl) ?_ _
         have HBE : Hid (Below w.heap.size w y3c) := ja9 LOWv.out Y3C.out
         clear hS9 hq1 hp1 hq2 hp2
         go_wp2
         go_ret
         exact ⟨rfl, HBE.out⟩
        case hktbbb19 =>
         go_simp
         try go_wp2_with fail
         refine hK.out _ _ (HTv.out _ Y3B.out) (fun hHl => ?_)
         clear hK K
         try simp only [Act.put, gD, gE, gF]
         refine wpAnyH_ready (rs := [14]) (by kernel_rfl) (by simp) (AllReadyH.cons (o := ?ootbbbb14) ?_ (fun K hK => ?_) AllReadyH.nil)
         rotate_left
         · simp only [gA, gB, gC]; rfl
         go_simp
         try go_wp2_with fail
         refine hK.out _ _ (HTv.out _ Y3B.out) (fun hHl => ?_)
         clear hK K
         try simp only [Act.put, gD, gE, gF]
         refine wpAnyH_ready (rs := [20]) (by kernel_rfl) (by simp) (AllReadyH.cons (o := ?ootbbbb20) ?_ (fun K hK => ?_) AllReadyH.nil)
         rotate_left
         · simp only [gA, gB, gC]; rfl
         go_simp
         go_at_call 15
         refine (jh4 os u3p u3q y3b hol (jc7 RU3p.out BB3.out) RU3q.out).mono ?_
         rintro e y3c ⟨rfl, bq⟩
         have Y3C : Hid (Below v6.heap.size v6 y3c) := ja9 Y3B.out bq
         clear bq RU3p RU3q
         try go_wp2_with fail
         refine hK.out _ _ (HTv.out _ Y3C.out) (fun hHl => ?_)
         clear hK K
         try simp only [Act.put, gD, gE, gF]
         refine wpAnyH_take (i := 21) (oi := ?oitbbbb21) (v := .bool true) ?_ (by kernel_rfl) (by kernel_rfl) (by kernel_rfl) ?_ ?_ hHl ?_
         rotate_left
         · simp only [gA, gB, gC]; rfl
         · exact fun _ _ _ h => h
         · exact Or.inl ⟨by kernel_rfl, fun w hSw => by go_simp⟩
         try simp only [Act.put, gD, gE, gF]
         refine wpAnyH_take (i := 22) (oi := ?oitbbbb22) (v := .bool true) ?_ (by kernel_rfl) (by kernel_rfl) (by kernel_rfl) ?_ ?_ hHl ?_
         rotate_left
         · simp only [gA, gB, gC]; rfl
         · exact fun _ _ _ h => h
         · exact Or.inl ⟨by kernel_rfl, fun w hSw => by go_simp⟩
         try simp only [Act.put, gD, gE, gF]
         refine wpAnyH_done (by kernel_rfl) ?_ _
         have HBE : Hid (Below w.heap.size w y3c) := ja9 LOWv.out Y3C.out
         clear hS9 hq1 hp1 hq2 hp2
         go_wp2
         go_ret
         exact ⟨rfl, HBE.out⟩
theorem doorMetCon (os : Os) (args : Array Value) : laidMetH Tryz.prog Rows.fnContentRow.laid ((World.doorLaid Tryz.prog 4000 os).forCall (fun _ _ => 0) ⟨#[], args, []⟩).memory :=
 laidMetH_of_parts3 (fuel := 8) (laidMet_of_run' 8 (by kernel_rfl) (by kernel_rfl)) (by kernel_rfl) (by kernel_rfl)
set_option maxRecDepth 100000 in
theorem qb6 (os : Os) (started : os.Started) (H : Type) (enc : TypeId × Value → H) :
 ReturnsInHanded {} Tryz.checked os 3 .any (fun w args => (Rows.fnContentSpec.pre enc Tryz.prog Tryz.f3 [] false w args ∧ laidMetH Tryz.prog Rows.fnContentRow.laid w) ∧ sizedMet enc Tryz.prog Tryz.f3 (OpenSpec.ofChange Rows.fnContentSpec) false w args)
  (Rows.fnContentSpec.post enc Tryz.prog Tryz.f3 false true false false) := by
 refine returnsInHanded_of_change_and (C := Tryz.checked) (X := fun w _ => laidMetH Tryz.prog Rows.fnContentRow.laid w) (fun _ _ _ hh h => h.of_heap hh) own started (by kernel_rfl) Tryz.func3
  (ChangeSpec.witness_shaped (enc := enc) (C := Tryz.checked) (os := os) (X := fun w _ => laidMetH Tryz.prog Rows.fnContentRow.laid w) false (World.doorLaid Tryz.prog 4000 os) #[.slice none 0 0] 8 rfl (World.shaped_of_RefB (by kernel_rfl) (by kernel_rfl)) (by kernel_rfl) (by kernel_rfl) (by kernel_rfl) (doorMetCon os _)) ?_
 intro W base args ds gs before hval0 hW _ _ hL _
 have hval : ∀ (j : Nat) t v, Tryz.f3.params[j]? = some t → args[j]? = some v → Value.okWide Tryz.prog W .any base t v := hval0
 have hW' := hW
 obtain ⟨p, q, hA0, hV, rfl, hfz, hnd⟩ := hW
 have hA : DataW.TrodAll enc Tryz.prog W 0 (fun _ => true) true Tryz.f3.params.toList args.toList ds p := hA0
 rw [Tryz.params3] at hA hval
 obtain ⟨v0, d0, rfl, rfl, h0⟩ := trodAll_one hA
 obtain ⟨rfl, rfl⟩ := trodVars_none hV
 obtain ⟨bs, hr, hl, hs⟩ := open_code Tryz.underlying22 Tryz.underlying5 cellsByte (hval 0 22 v0 rfl rfl) h0
 refine (walkFnContent bs v0 W hl hr).mono fun e W' ⟨he, hb⟩ => ?_
 subst he
 refine ⟨_, rfl, law_post (tb := 4) laidOut ?_ hW' rfl Tryz.underlying4 rfl rfl hb⟩
 exact all_readable (P := Tryz.prog) (by kernel_rfl)
theorem overFnContent : Rows.FnContentSaid :=
 OpenClaim.holds_of_wide 3 Tryz.f3 rfl rfl rfl rfl rfl rfl rfl ⟨rfl, rfl, rfl, rfl, rfl⟩ rfl rfl rfl rfl rfl (by kernel_rfl) Tryz.func3 (by kernel_rfl)
  (of_decide_eq_true (by kernel_rfl)) (by unfold Func.isWrapper; first | (rw [if_pos (by decide +kernel)]; kernel_rfl) | (rw [if_neg (by decide +kernel)]; exact ⟨rfl, rfl⟩))
  (fun os started H enc _ => qb6 os started H enc)
theorem fnContentHolds : Rows.FnContentCardSaid :=
 Claim7.holds_tied_plain_at .later [] [.data, .data, .data] true Rows.fnContentCard.stood.harness false
  overFnContent (fun _ h => by cases h) (by kernel_rfl) (fun _ h => by cases h) fnContent_row_tie rfl ⟨rfl, rfl⟩ (by kernel_rfl) rfl
  (fun f fn hf hfn => by
   obtain rfl : f = 3 := Option.some.inj ((show Tryz.prog.funcNamed Rows.fnContentRow.func = some 3 by kernel_rfl).symm.trans hf) |>.symm
   obtain rfl : fn = Tryz.f3 := (Option.some.inj (Tryz.func3.symm.trans hfn)).symm
   exact ⟨by kernel_rfl, fun j t ht => by
    rw [Tryz.params3] at ht
    have h3 : t = 22 := by
     rcases j with _ | j
     · simpa using ht.symm
     · simp at ht
    subst h3
    exact (show Tryz.prog.wantsStandIn 22 = false by kernel_rfl)⟩)
  (by kernel_rfl)
#print axioms fnContentHolds
end Go.Proofs.YtldagpfeaabcdaaGreatDoor
