/-
 Put together out of: ImplFix4, CanSum, CloneI, ListsLaw, MarkSS.
-/
import Derived.Test.YtldagpfeaabcdaaGreatDoorImplTabs
import Derived.Laws.EntriesVeiled
import Derived.ArgAppend
import Derived.Deep.RegionHeld3
import Derived.Deep.DrawnRows
namespace Go.Proofs.YtldagpfeaabcdaaGreatDoor
open Go.RowKit
set_option linter.unusedVariables false
set_option linter.unusedSimpArgs false
set_option maxHeartbeats 4000000
set_option maxRecDepth 20000
def RoundZ (c : Int) (ps : List (List Stm)) (T U : List (List Int)) : Prop := IsRound c ps T U ∧ ∀ i, ps.length ≤ i → i < 4 → U.getD i [] = zero7
structure RisZ (c : Int) (ps : List (List Stm)) (T : List (List Int)) : Prop where
 r : Ris c ps T
 z : ∀ i, ps.length ≤ i → i < 4 → T.getD i [] = zero7
theorem RisZ.good {c : Int} {ps : List (List Stm)} {T : List (List Int)} (h : RisZ c ps T) : GoodN 4 T := fun i hi => by
 by_cases hp : i < ps.length
 · exact h.r.good i hp
 · rw [h.z i (by omega) hi]; exact jk6
theorem RoundZ.good {c : Int} {ps : List (List Stm)} {T U : List (List Int)} (h : RoundZ c ps T U) : GoodN 4 U := fun i hi => by
 by_cases hp : i < ps.length
 · exact h.1.good i hp
 · rw [h.2 i (by omega) hi]; exact jk6
theorem RisZ.up {c : Int} {ps : List (List Stm)} {T U : List (List Int)} (h : RisZ c ps T) (k : RoundZ c ps T U) : SubN 4 T U := fun i hi => by
 by_cases hp : i < ps.length
 · exact h.r.up U k.1 i hp
 · rw [h.z i (by omega) hi]; exact jr2 _
theorem tablesOf1 (ps : List (List Stm)) (c : Int) (T : List (List Int)) (v : Value) (P C : Nat) (w : World) (hc : c = 1 ∨ c = 2) (hp : CanP ps) (h4 : ps.length ≤ 4) (hR : Rows7 4 T) (hT : GoodN ps.length T) (hv : jb5 w v ps)
 (hP : w.heap[P]? = some (.cells #[v] 26 (0, 0))) (hC : w.heap[C]? = some (.cells #[.int .i64 c] 2 (0, 0))) :
 Calls Tryz.prog 66 #[tabR T, .pointer (some ⟨P, 0, none⟩), .pointer (some ⟨C, 0, none⟩)] w fun e w' => ∃ R, e = .returned (tabR R) ∧ Rows7 4 R ∧ RoundZ c ps T R ∧ Below w.heap.size w w' := by
 have hz : ∀ w, (zeroValue 69).run Tryz.prog w = .ok (.agg (ints (List.replicate 4 zero7).flatten).toArray) w := isTab4.zero
 obtain ⟨zs, hzs⟩ : ∃ zs, ints (List.replicate 4 zero7).flatten = zs := ⟨_, rfl⟩
 rw [hzs] at hz
 obtain ⟨ts, hts⟩ : ∃ ts, ints T.flatten = ts := ⟨_, rfl⟩
 have cP := (ja4 hP).1
 have cC := (ja4 hC).1
 have zP := World.block_lt_of_cell? w _ cP
 have zC := World.block_lt_of_cell? w _ cC
 obtain ⟨W, hW⟩ : ∃ W, (w.alloc (.cells ts.toArray 69)).alloc (.cells zs.toArray 69) = W := ⟨_, rfl⟩
 have bW : Below w.heap.size w W := by rw [← hW]; go_grown
 have hTT : Hid (TabR W w.heap.size 69 T) := by
  show W.heap[w.heap.size]? = _
  rw [← hW, ja2 (by simp), hts]; exact heap_alloc_new w _
 have hTZ : TabR W (w.heap.size + 1) 69 (List.replicate 4 zero7) := by
  unfold TabR
  rw [← hW, hzs]
  have := heap_alloc_new (w.alloc (.cells ts.toArray 69)) (.cells zs.toArray 69)
  simpa using this
 have htw := tablesWith ps c T v W hc hp h4 hR hT (ja0 hv bW)
 have HW : Hid _ := hW
 have HTZ : Hid (TabR W (w.heap.size + 1) 69 (List.replicate 4 zero7)) := hTZ
 clear hP hC hzs hW hTZ
 unfold tabR
 rw [hts]
 clear hts
 go_enter Tryz.func66, Tryz.ntmps66
 go_wp2_with (first
  | ((with_reducible refine jd9 (x := .tmp 3) isTab4 w.heap.size T ?hx hR ?hT ?_); (case hx => rfl); (case hT => rw [HW.out]; exact hTT.out)))
 rw [HW.out]
 go_at_call 67
 refine htw.mono ?_
 rintro e w2 ⟨R, rfl, hRR, hI, hZ, b2⟩
 have HRR : Hid (Rows7 4 R) := hRR
 have HZ2 : Hid (TabR w2 (w.heap.size + 1) 69 (List.replicate 4 zero7)) := TabR.below HTZ.out b2
 have HI : Hid (RoundZ c ps T R) := ⟨hI, hZ⟩
 have L2 : Hid _ := bW.trans (b2.mono bW.size)
 clear hRR hI hZ b2 htw
 go_wp2_with (first
  | ((with_reducible refine jd3 (x := .tmp 4) (y := .tmp 8) isTab4 (w.heap.size + 1) (List.replicate 4 zero7) R ?hx ?hy (Rows7.zero 4) HRR.out HZ2.out ?_); (case hx => rfl); (case hy => rfl); intro w5 T5 g5; have HT5 : Hid (TabR w5 (w.heap.size + 1) 69 R) := T5; have G5 : Hid _ := g5; clear T5 g5; refine jl5 ?_))
 unfold Stop
 go_wp2
 refine jh5 isTab4 rfl (w.heap.size + 1) R rfl HRR.out HT5.out rfl ⟨R, rfl, HRR.out, HI.out, ?_⟩
 exact L2.out.grown G5.out L2.out.size (fun k hk => by cases hk; omega)
theorem fix4 (ps : List (List Stm)) (c : Int) (v : Value) (P Q : Nat) (w : World) (hc : c = 1 ∨ c = 2) (hp : CanP ps) (h4 : ps.length ≤ 4) (hv : jb5 w v ps) (hP : w.heap[P]? = some (.cells #[v] 26 (0, 0))) (hQ : w.heap[Q]? = some (.cells #[.int .i64 c] 2 (0, 0))) :
 Calls Tryz.prog 68 #[.agg #[Value.func (.func 66) #[] #[.pointer (some ⟨P, 0, none⟩), .pointer (some ⟨Q, 0, none⟩)]]] w fun e w' => ∃ R, e = .returned (tabR R) ∧ Rows7 4 R ∧ IsTables c ps R ∧ Below w.heap.size w w' := by
 have hz : ∀ w, (zeroValue 69).run Tryz.prog w = .ok (.agg (ints (List.replicate 4 zero7).flatten).toArray) w := isTab4.zero
 obtain ⟨zs, hzs⟩ : ∃ zs, ints (List.replicate 4 zero7).flatten = zs := ⟨_, rfl⟩
 rw [hzs] at hz
 have HZ : Hid _ := hzs
 obtain ⟨cl, hcl⟩ : ∃ cl, Value.func (.func 66) #[] #[.pointer (some ⟨P, 0, none⟩), .pointer (some ⟨Q, 0, none⟩)] = cl := ⟨_, rfl⟩
 have HCL : Hid _ := hcl
 rw [hcl]
 clear hcl
 go_enter Tryz.func68, Tryz.ntmps68
 go_wp2_with fail
 obtain ⟨W, hW⟩ : ∃ W, ((w.alloc (.cells #[cl] 107)).alloc (.cells zs.toArray 69)).alloc (.cells zs.toArray 69) = W := ⟨_, rfl⟩
 have S0 : FS 107 69 4 cl w (List.replicate 4 zero7) W := by
  refine ⟨?_, ?_, ?_, by rw [← hW]; go_grown⟩
  · rw [← hW, ja2 (by simp; omega), ja2 (by simp)]; exact heap_alloc_new w _
  · unfold TabR
    rw [← hW, ja2 (by simp), hzs]
    have := heap_alloc_new (w.alloc (.cells #[cl] 107)) (.cells zs.toArray 69)
    simpa using this
  · unfold TabR
    rw [← hW, hzs]
    have := heap_alloc_new ((w.alloc (.cells #[cl] 107)).alloc (.cells zs.toArray 69)) (.cells zs.toArray 69)
    simpa using this
 rw [hW]
 clear hW hzs
 go_loopw [4] (fun _ wr => ∃ R, FS 107 69 4 cl w R wr ∧ Rows7 4 R ∧ RisZ c ps R) (fun _ wr => roomB wr (w.heap.size + 1 + 1) (7 * 4))
 case atStart => exact ⟨_, S0, Rows7.zero 4, Ris.zero (fun i hi => rep_getD (by omega)), fun i _ hi => rep_getD hi⟩
 case round =>
  obtain ⟨R, S, hR, I⟩ := hrel
  clear S0
  obtain ⟨cf, _⟩ := ja4 S.f
  have HM0 : Hid (roomB wr (w.heap.size + 1 + 1) (7 * 4) = jq2 R) := qb1 S.a hR
  have hcall := tablesOf1 ps c R v P Q wr hc hp h4 hR I.r.good (ja0 hv S.bl) ((S.bl.block P (Array.getElem?_eq_some_iff.1 hP).1).trans hP) ((S.bl.block Q (Array.getElem?_eq_some_iff.1 hQ).1).trans hQ)
  have HS : Hid _ := S
  have HR : Hid (Rows7 4 R) := hR
  have HI : Hid _ := I
  have s0 := S.a.lt
  obtain rfl := HCL.out
  clear S hR I
  go_wp2_with (first
   | refine jl7 isTab4 rfl (.tmp 3) rfl (w.heap.size + 1 + 1) R rfl HR.out HS.out.a ?_)
  refine hcall.mono ?_
  rintro e w2 ⟨R2, rfl, hRw, hI2, b2⟩
  clear hcall
  have S2 := HS.out.below b2
  have HS2 : Hid _ := S2
  have HR2 : Hid (Rows7 4 R2) := hRw
  have HI2 : Hid (RoundZ c ps R R2) := hI2
  obtain ⟨w3, hw3⟩ : ∃ z, w2.alloc (.cells zs.toArray 69) = z := ⟨_, rfl⟩
  have T3 : TabR w3 w2.heap.size 69 (List.replicate 4 zero7) := by rw [← hw3, ← HZ.out]; exact qa6 w2 _ _
  have B3 : Below w2.heap.size w2 w3 := by rw [← hw3]; go_grown
  have S3 := S2.below B3
  have HS3 : Hid _ := S3
  have HT3 : Hid (TabR w3 w2.heap.size 69 (List.replicate 4 zero7)) := T3
  have HW3 : Hid _ := hw3
  have s2 := S2.a.lt
  clear S2 S3 T3 hI2 cf hw3
  obtain ⟨b, hb⟩ : ∃ b, decide (R2 = R) = b := ⟨_, rfl⟩
  have HE : Hid (decide (R2 = R) = b) := hb
  clear hb
  go_wp2_with (first
   | (rw [HW3.out]; (with_reducible refine jd3 (x := .tmp 4) (y := .tmp 8) isTab4 w2.heap.size (List.replicate 4 zero7) R2 ?hx ?hy (Rows7.zero 4) HR2.out HT3.out ?_); (case hx => rfl); (case hy => rfl); intro w4 T4 g4; have S4 : Hid _ := FS.grown HS3.out g4 (by omega); have HT4 : Hid (TabR w4 w2.heap.size 69 R2) := T4; clear T4 g4)
   | ((with_reducible refine jd9 (x := .tmp 4) isTab4 w2.heap.size R2 ?hx HR2.out HT4.out ?_); (case hx => rfl))
   | ((with_reducible refine jd9 (x := .tmp 3) isTab4 (w.heap.size + 1 + 1) R ?hx HR.out S4.out.a ?_); (case hx => rfl))
   | ((with_reducible refine jt0 isTab4 R2 R b ?h1 ?h2 HR2.out HR.out HE.out ?_); (case h1 => rfl); (case h2 => rfl); refine jl5 ?_))
  unfold Stop
  clear HT3 HW3 HS3 HS2 hz
  cases b with
  | true =>
   have hq : R2 = R := of_decide_eq_true HE.out
   have HQ : Hid (R2 = R) := hq
   clear hq
   clear HE
   go_wp2_with (first
    | ((with_reducible refine jd9 (x := .tmp 3) isTab4 (w.heap.size + 1 + 1) R ?hx HR.out S4.out.a ?_); (case hx => rfl))
    | ((with_reducible refine jd3 (x := .tmp 2) (y := .tmp 12) isTab4 (w.heap.size + 1) (List.replicate 4 zero7) R ?hx ?hy (Rows7.zero 4) HR.out S4.out.z ?_); (case hx => rfl); (case hy => rfl); intro w5 T5 g5; have HT5 : Hid (TabR w5 (w.heap.size + 1) 69 R) := T5; have G5 : Hid _ := g5; clear T5 g5; refine jl5 ?_))
   unfold Stop
   go_wp2
   refine jh5 isTab4 rfl (w.heap.size + 1) R rfl HR.out HT5.out rfl ⟨R, rfl, HR.out, ?_, ?_⟩
   · have hI2 := HI2.out
     rw [HQ.out] at hI2
     exact HI.out.r.last hI2.1
   · exact S4.out.bl.grown G5.out S4.out.bl.size (fun k hk => by cases hk; omega)
  | false =>
   have hq : ¬ R2 = R := of_decide_eq_false HE.out
   have HQ : Hid (¬ R2 = R) := hq
   clear hq
   clear HE
   go_wp2_with (first
    | ((with_reducible refine jd9 (x := .tmp 4) isTab4 w2.heap.size R2 ?hx HR2.out HT4.out ?_); (case hx => rfl))
    | ((with_reducible refine jd3 (x := .tmp 3) (y := .tmp 13) isTab4 (w.heap.size + 1 + 1) R R2 ?hx ?hy HR.out HR2.out S4.out.a ?_); (case hx => rfl); (case hy => rfl); intro w5 T5 g5; have HT5 : Hid (TabR w5 (w.heap.size + 1 + 1) 69 R2) := T5; have G5 : Hid _ := g5; clear T5 g5; refine jl5 ?_))
   unfold Stop
   go_wp2
   go_roundw
   case rel => exact ⟨R2, FS.turned S4.out HT5.out G5.out, HR2.out, ⟨HI.out.r.next hc hp HI2.out.1, HI2.out.2⟩⟩
   case measure =>
    rw [HM0.out, qb1 HT5.out HR2.out]
    refine jv7 (by rw [HR.out.1, HR2.out.1]) (by rw [HR.out.1]; exact HI.out.good) (by rw [HR.out.1]; exact HI2.out.good) (by rw [HR.out.1]; exact HI.out.up HI2.out) (fun e => HQ.out e.symm)
end Go.Proofs.YtldagpfeaabcdaaGreatDoor
namespace Go.Proofs.YtldagpfeaabcdaaGreatDoor
open Go.RowKit
set_option linter.unusedVariables false
set_option linter.unusedSimpArgs false
set_option maxHeartbeats 4000000
set_option maxRecDepth 20000
theorem canSum (ps : List (List Stm)) (c : Int) (v : Value) (w : World) (hl : ps.length ≤ maxLen) (hp : ∀ p ∈ ps, p.length ≤ maxLen) (hv : jb5 w v ps) :
 Calls Tryz.prog 37 #[.agg #[v], .int .i64 c] w fun e w' => e = .returned (.bool (okB ps c)) ∧ Below w.heap.size w w' := by
 have b0 : Below w.heap.size w (w.alloc (.cells #[v] 26)) := by go_grown
 have H0 := heap_alloc_new w (.cells #[v] 26)
 by_cases h2 : c = 1 ∨ c = 2
 · have hf := flowsOf c h2
   have hpo := fun W h => jj6 ps v W hl hp h
   have e : okB ps c = ja5 ps := by simp [okB, h2]
   rw [e]
   unfold jl2 at hf
   generalize markFn c = m at *
   clear e h2
   go_enter Tryz.func37, Tryz.ntmps37
   go_wp2_with fail
   go_at_call 65
   refine (hf _).mono ?_
   rintro e w1 ⟨rfl, b1⟩
   have B1 := b0.trans (b1.mono b0.size)
   have q1 := (b1.block w.heap.size (by simp)).trans H0
   have hlt : w.heap.size < w1.heap.size := (Array.getElem?_eq_some_iff.1 q1).1
   have q2 : ∀ o, (w1.alloc o).cell? ⟨w.heap.size, 0, none⟩ = some v := fun o => (ja4 ((ja2 hlt).trans q1)).1
   have hpo1 := fun o => hpo (w1.alloc o) (ja0 hv (B1.alloc B1.size _))
   clear hf H0 b1 q1
   go_wp2_with (go_at_call 17; refine (hpo1 _).mono ?_; rintro e w2 ⟨rfl, b2⟩)
   go_ret
   exact ⟨rfl, (B1.alloc B1.size _).trans (b2.mono (by have := B1.size; simp; omega))⟩
 · have e : okB ps c = false := by simp [okB, h2]
   rw [e]
   have hf := flowsOfNo c (fun h => h2 (.inl h)) (fun h => h2 (.inr h))
   clear e h2
   go_enter Tryz.func37, Tryz.ntmps37
   go_wp2_with (go_at_call 65; refine (hf _).mono ?_; rintro e w1 ⟨rfl, b1⟩)
   go_ret
   have B1 := b0.trans (b1.mono b0.size)
   exact ⟨rfl, B1.alloc B1.size _⟩
end Go.Proofs.YtldagpfeaabcdaaGreatDoor
namespace Go.Proofs.YtldagpfeaabcdaaGreatDoor
open Go.RowKit
set_option linter.unusedVariables false
set_option maxHeartbeats 1000000
set_option maxRecDepth 20000
theorem sliceClone (xs : List Int) (v : Value) (w : World) (h0 : 0 < xs.length) (hl : xs.length ≤ 1000000) (hv : jf8 w v (ints xs)) :
 Calls Tryz.prog 69 #[v] w fun e w' => ∃ g cap, e = .returned (.slice (some ⟨g, 0, none⟩) xs.length cap) ∧ w'.ownsRow w.heap.size 2 1 (.slice (some ⟨g, 0, none⟩) xs.length cap) xs.length (ints xs) ∧ Below w.heap.size w w' := by
 obtain ⟨i0, hi, hz0, hz1, hz2⟩ := info_parts jy6
 obtain ⟨ao, cap, rfl, hc⟩ := hv
 rw [jb8]
 obtain ⟨g, off, rfl, _⟩ := hc 0 (.int .i64 xs[0]) (by simp [ints, h0])
 have hcs : Hid (∀ j u, (ints xs)[j]? = some u → (w.alloc (.cells #[] 2)).cell? ((⟨g, off, none⟩ : Addr).add j) = some u) := by
  intro j u hu
  obtain ⟨g', off', e, hcell⟩ := hc j u hu
  simp only [Option.some.injEq, Addr.mk.injEq, and_true] at e
  obtain ⟨rfl, rfl⟩ := e
  rw [Addr.add_lit]
  exact (Below.cell (Below.alloc (Below.refl _ w) (Nat.le_refl _) _) (World.block_lt_of_cell? w _ hcell)).trans hcell
 have heq : ∀ (W : World) (A : Addr) (n c : Nat), (binOp .eql 38 (.slice (some A) n c) (.slice none 0 0)).run Tryz.prog W = .ok (.bool false) W := fun _ _ _ _ => rfl
 have m0 := made0 w
 have B0 : Below w.heap.size w (w.alloc (.cells #[] 2)) := by go_grown
 clear hc
 go_enter Tryz.func69, Tryz.ntmps69
 go_wp2_with (first
  | (at_builtin; refine wpList_append_own _ rfl (.tmp 5) (.tmp 6) 38 rfl w.heap.size 2 i0 (.int .i64 0) 1 8 Tryz.underlying38 hi hz0 hz1 hz2 rfl (by decide) _ 0 [] rfl m0 ⟨g, off, none⟩ xs.length _ (ints xs) rfl (by simp [jb8]) hcs.out (jm5 xs) (by unfold maxLen; omega) (by omega) (by simp) ?_; intro v2 w2 own2 grow2 _)
  | go_in)
 have L2 : Below w.heap.size w w2 := jw3 B0 grow2 (fun q hq => Nat.le_of_eq (Option.some.inj (show some w.heap.size = some q from hq)))
 have own3 : w2.ownsRow w.heap.size 2 1 v2 xs.length (ints xs) := by simpa using own2
 rcases own3.2 with ⟨_, hn⟩ | ⟨g2, cap2, cur2, rfl, _⟩
 · omega
 go_ret
 exact ⟨g2, cap2, rfl, own3, L2⟩
end Go.Proofs.YtldagpfeaabcdaaGreatDoor
namespace Go.Proofs.YtldagpfeaabcdaaGreatDoor
open Go.RowKit
set_option linter.unusedVariables false
set_option maxHeartbeats 1000000
attribute [local go_sem ↓] Go.wp_at_zero Go.wp_at_succ
def ReadsSS (w : World) (v : Value) (xss : List (List Int)) : Prop :=
 ∃ ao cap, v = .slice ao xss.length cap ∧ ∀ j xs, xss[j]? = some xs → ∃ g off u, ao = some ⟨g, off, none⟩ ∧ w.cell? ⟨g, off + j, none⟩ = some u ∧ jf8 w u (ints xs)
theorem OwnSS.reads {w : World} {base : Nat} {v : Value} {us : List Value} {xss : List (List Int)} (h : OwnSS w base v us xss) : ReadsSS w v xss := by
 have hl := h.len
 rcases h.row.2 with ⟨rfl, hn⟩ | ⟨g, cap, cur, rfl, _⟩
 · exact ⟨none, 0, by rw [hn], fun j xs hx => by rw [List.eq_nil_of_length_eq_zero hn] at hx; simp at hx⟩
 · refine ⟨some ⟨g, 0, none⟩, cap, rfl, fun j xs hx => ?_⟩
   have hj : j < xss.length := (List.getElem?_eq_some_iff.1 hx).1
   obtain ⟨u, hu, hc, ho⟩ := h.at hj
   have e : xss[j] = xs := (List.getElem?_eq_some_iff.1 hx).2
   exact ⟨g, 0, u, rfl, by rw [Nat.zero_add]; exact hc, by rw [← e]; exact jc5 ho⟩
end Go.Proofs.YtldagpfeaabcdaaGreatDoor
namespace Go.Proofs.YtldagpfeaabcdaaGreatDoor
open Go.RowKit
set_option linter.unusedVariables false
set_option maxHeartbeats 1000000
def ApartSS (us : List Value) : Prop := ∀ (i j : Nat) (a b : Value) (k : Nat), i ≠ j → us[i]? = some a → us[j]? = some b → a.ownBlock = some k → b.ownBlock ≠ some k
end Go.Proofs.YtldagpfeaabcdaaGreatDoor
