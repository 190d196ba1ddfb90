/-
 Put together out of: ImplFix4, CloneI, MarkSS, ImplTop.
-/
import Derived.Test.YtnjbihfceckpfaaImplTabs
import Derived.Laws.EntriesVeiled
import Derived.Test.YtnjbihfceckpfaaG20Lists
import Derived.ArgAppend
import Derived.Test.YtnjbihfceckpfaaG33ListsLaw
import Derived.Test.YtnjbihfceckpfaaG26CanSum
/-
 Chapter 10, the program's side: the tables' fixpoint: tablesOf$1, fromNothing, tablesOf.
-/
namespace Go.Proofs.Ytnjbihfceckpfaa
open Go.RowKit
set_option linter.unusedVariables false
set_option linter.unusedSimpArgs false
set_option maxHeartbeats 4000000
set_option maxRecDepth 20000

/-- What comes of T, and nothing behind the last procedure. -/
def RoundZ (c : Int) (ps : List (List Stm)) (T U : List (List Int)) : Prop := IsRound c ps T U ∧ ∀ i, ps.length ≤ i → i < 4 → U.getD i [] = zero7
structure RisZ (c : Int) (ps : List (List Stm)) (T : List (List Int)) : Prop where
 r : Ris c ps T
 z : ∀ i, ps.length ≤ i → i < 4 → T.getD i [] = zero7

theorem RisZ.good {c : Int} {ps : List (List Stm)} {T : List (List Int)} (h : RisZ c ps T) : GoodN 4 T := fun i hi => by
 by_cases hp : i < ps.length
 · exact h.r.good i hp
 · rw [h.z i (by omega) hi]; exact zero7_smalls
theorem RoundZ.good {c : Int} {ps : List (List Stm)} {T U : List (List Int)} (h : RoundZ c ps T U) : GoodN 4 U := fun i hi => by
 by_cases hp : i < ps.length
 · exact h.1.good i hp
 · rw [h.2 i (by omega) hi]; exact zero7_smalls
theorem RisZ.up {c : Int} {ps : List (List Stm)} {T U : List (List Int)} (h : RisZ c ps T) (k : RoundZ c ps T U) : SubN 4 T U := fun i hi => by
 by_cases hp : i < ps.length
 · exact h.r.up U k.1 i hp
 · rw [h.z i (by omega) hi]; exact zero7_sub _

theorem tablesOf1 (ps : List (List Stm)) (c : Int) (T : List (List Int)) (v : Value) (P C : Nat) (w : World) (hc : c = 1 ∨ c = 2) (hp : CanP ps) (h4 : ps.length ≤ 4) (hR : Rows7 4 T) (hT : GoodN ps.length T) (hv : ReadsP w v ps)
 (hP : w.heap[P]? = some (.cells #[v] 30 (0, 0))) (hC : w.heap[C]? = some (.cells #[.int .i64 c] 2 (0, 0))) :
 Calls Try.prog 81 #[tabR T, .pointer (some ⟨P, 0, none⟩), .pointer (some ⟨C, 0, none⟩)] w fun e w' => ∃ R, e = .returned (tabR R) ∧ Rows7 4 R ∧ RoundZ c ps T R ∧ Below w.heap.size w w' := by
 have hz : ∀ w, (zeroValue 88).run Try.prog w = .ok (.agg (ints (List.replicate 4 zero7).flatten).toArray) w := isTab4.zero
 obtain ⟨zs, hzs⟩ : ∃ zs, ints (List.replicate 4 zero7).flatten = zs := ⟨_, rfl⟩
 rw [hzs] at hz
 obtain ⟨ts, hts⟩ : ∃ ts, ints T.flatten = ts := ⟨_, rfl⟩
 have cP := (one_cell hP).1
 have cC := (one_cell hC).1
 have zP := World.block_lt_of_cell? w _ cP
 have zC := World.block_lt_of_cell? w _ cC
 obtain ⟨W, hW⟩ : ∃ W, (w.alloc (.cells ts.toArray 88)).alloc (.cells zs.toArray 88) = W := ⟨_, rfl⟩
 have bW : Below w.heap.size w W := by rw [← hW]; go_grown
 have hTT : Hid (TabR W w.heap.size 88 T) := by
  show W.heap[w.heap.size]? = _
  rw [← hW, old_block (by simp), hts]; exact heap_alloc_new w _
 have hTZ : TabR W (w.heap.size + 1) 88 (List.replicate 4 zero7) := by
  unfold TabR
  rw [← hW, hzs]
  have := heap_alloc_new (w.alloc (.cells ts.toArray 88)) (.cells zs.toArray 88)
  simpa using this
 have htw := tablesWith ps c T v W hc hp h4 hR hT (readsP_below hv bW)
 have HW : Hid _ := hW
 have HTZ : Hid (TabR W (w.heap.size + 1) 88 (List.replicate 4 zero7)) := hTZ
 clear hP hC hzs hW hTZ
 unfold tabR
 rw [hts]
 clear hts
 go_enter Try.func81, Try.ntmps81
 go_wp2_with (first
  | ((with_reducible refine wpList_loadTabL (x := .tmp 3) isTab4 w.heap.size T ?hx hR ?hT ?_); (case hx => rfl); (case hT => rw [HW.out]; exact hTT.out)))
 rw [HW.out]
 go_at_call 82
 refine htw.mono ?_
 rintro e w2 ⟨R, rfl, hRR, hI, hZ, b2⟩
 have HRR : Hid (Rows7 4 R) := hRR
 have HZ2 : Hid (TabR w2 (w.heap.size + 1) 88 (List.replicate 4 zero7)) := TabR.below HTZ.out b2
 have HI : Hid (RoundZ c ps T R) := ⟨hI, hZ⟩
 have L2 : Hid _ := bW.trans (b2.mono bW.size)
 clear hRR hI hZ b2 htw
 go_wp2_with (first
  | ((with_reducible refine wpList_storeTabL (x := .tmp 4) (y := .tmp 8) isTab4 (w.heap.size + 1) (List.replicate 4 zero7) R ?hx ?hy (Rows7.zero 4) HRR.out HZ2.out ?_); (case hx => rfl); (case hy => rfl); intro w5 T5 g5; have HT5 : Hid (TabR w5 (w.heap.size + 1) 88 R) := T5; have G5 : Hid _ := g5; clear T5 g5; refine stop_of ?_))
 unfold Stop
 go_wp2
 refine bodyPost_tabR isTab4 rfl (w.heap.size + 1) R rfl HRR.out HT5.out rfl ⟨R, rfl, HRR.out, HI.out, ?_⟩
 exact L2.out.grown G5.out L2.out.size (fun k hk => by cases hk; omega)

theorem fix4 (ps : List (List Stm)) (c : Int) (v : Value) (P Q : Nat) (w : World) (hc : c = 1 ∨ c = 2) (hp : CanP ps) (h4 : ps.length ≤ 4) (hv : ReadsP w v ps) (hP : w.heap[P]? = some (.cells #[v] 30 (0, 0))) (hQ : w.heap[Q]? = some (.cells #[.int .i64 c] 2 (0, 0))) :
 Calls Try.prog 83 #[.agg #[Value.func (.func 81) #[] #[.pointer (some ⟨P, 0, none⟩), .pointer (some ⟨Q, 0, none⟩)]]] w fun e w' => ∃ R, e = .returned (tabR R) ∧ Rows7 4 R ∧ IsTables c ps R ∧ Below w.heap.size w w' := by
 have hz : ∀ w, (zeroValue 88).run Try.prog w = .ok (.agg (ints (List.replicate 4 zero7).flatten).toArray) w := isTab4.zero
 obtain ⟨zs, hzs⟩ : ∃ zs, ints (List.replicate 4 zero7).flatten = zs := ⟨_, rfl⟩
 rw [hzs] at hz
 have HZ : Hid _ := hzs
 obtain ⟨cl, hcl⟩ : ∃ cl, Value.func (.func 81) #[] #[.pointer (some ⟨P, 0, none⟩), .pointer (some ⟨Q, 0, none⟩)] = cl := ⟨_, rfl⟩
 have HCL : Hid _ := hcl
 rw [hcl]
 clear hcl
 go_enter Try.func83, Try.ntmps83
 go_wp2_with fail
 obtain ⟨W, hW⟩ : ∃ W, ((w.alloc (.cells #[cl] 135)).alloc (.cells zs.toArray 88)).alloc (.cells zs.toArray 88) = W := ⟨_, rfl⟩
 have S0 : FS 135 88 4 cl w (List.replicate 4 zero7) W := by
  refine ⟨?_, ?_, ?_, by rw [← hW]; go_grown⟩
  · rw [← hW, old_block (by simp; omega), old_block (by simp)]; exact heap_alloc_new w _
  · unfold TabR
    rw [← hW, old_block (by simp), hzs]
    have := heap_alloc_new (w.alloc (.cells #[cl] 135)) (.cells zs.toArray 88)
    simpa using this
  · unfold TabR
    rw [← hW, hzs]
    have := heap_alloc_new ((w.alloc (.cells #[cl] 135)).alloc (.cells zs.toArray 88)) (.cells zs.toArray 88)
    simpa using this
 rw [hW]
 clear hW hzs
 go_loopw [4] (fun _ wr => ∃ R, FS 135 88 4 cl w R wr ∧ Rows7 4 R ∧ RisZ c ps R) (fun _ wr => roomB wr (w.heap.size + 1 + 1) (7 * 4))
 case atStart => exact ⟨_, S0, Rows7.zero 4, Ris.zero (fun i hi => rep_getD (by omega)), fun i _ hi => rep_getD hi⟩
 case round =>
  obtain ⟨R, S, hR, I⟩ := hrel
  clear S0
  obtain ⟨cf, _⟩ := one_cell S.f
  have HM0 : Hid (roomB wr (w.heap.size + 1 + 1) (7 * 4) = roomT R) := roomB_eq S.a hR
  have hcall := tablesOf1 ps c R v P Q wr hc hp h4 hR I.r.good (readsP_below hv S.bl) ((S.bl.block P (Array.getElem?_eq_some_iff.1 hP).1).trans hP) ((S.bl.block Q (Array.getElem?_eq_some_iff.1 hQ).1).trans hQ)
  have HS : Hid _ := S
  have HR : Hid (Rows7 4 R) := hR
  have HI : Hid _ := I
  have s0 := S.a.lt
  obtain rfl := HCL.out
  clear S hR I
  go_wp2_with (first
   | refine wpList_loadTabR isTab4 rfl (.tmp 3) rfl (w.heap.size + 1 + 1) R rfl HR.out HS.out.a ?_)
  refine hcall.mono ?_
  rintro e w2 ⟨R2, rfl, hRw, hI2, b2⟩
  clear hcall
  have S2 := HS.out.below b2
  have HS2 : Hid _ := S2
  have HR2 : Hid (Rows7 4 R2) := hRw
  have HI2 : Hid (RoundZ c ps R R2) := hI2
  obtain ⟨w3, hw3⟩ : ∃ z, w2.alloc (.cells zs.toArray 88) = z := ⟨_, rfl⟩
  have T3 : TabR w3 w2.heap.size 88 (List.replicate 4 zero7) := by rw [← hw3, ← HZ.out]; exact tabR_new w2 _ _
  have B3 : Below w2.heap.size w2 w3 := by rw [← hw3]; go_grown
  have S3 := S2.below B3
  have HS3 : Hid _ := S3
  have HT3 : Hid (TabR w3 w2.heap.size 88 (List.replicate 4 zero7)) := T3
  have HW3 : Hid _ := hw3
  have s2 := S2.a.lt
  clear S2 S3 T3 hI2 cf hw3
  obtain ⟨b, hb⟩ : ∃ b, decide (R2 = R) = b := ⟨_, rfl⟩
  have HE : Hid (decide (R2 = R) = b) := hb
  clear hb
  go_wp2_with (first
   | (rw [HW3.out]; (with_reducible refine wpList_storeTabL (x := .tmp 4) (y := .tmp 8) isTab4 w2.heap.size (List.replicate 4 zero7) R2 ?hx ?hy (Rows7.zero 4) HR2.out HT3.out ?_); (case hx => rfl); (case hy => rfl); intro w4 T4 g4; have S4 : Hid _ := FS.grown HS3.out g4 (by omega); have HT4 : Hid (TabR w4 w2.heap.size 88 R2) := T4; clear T4 g4)
   | ((with_reducible refine wpList_loadTabL (x := .tmp 4) isTab4 w2.heap.size R2 ?hx HR2.out HT4.out ?_); (case hx => rfl))
   | ((with_reducible refine wpList_loadTabL (x := .tmp 3) isTab4 (w.heap.size + 1 + 1) R ?hx HR.out S4.out.a ?_); (case hx => rfl))
   | ((with_reducible refine wpList_eqTabR' isTab4 R2 R b ?h1 ?h2 HR2.out HR.out HE.out ?_); (case h1 => rfl); (case h2 => rfl); refine stop_of ?_))
  unfold Stop
  clear HT3 HW3 HS3 HS2 hz
  cases b with
  | true =>
   have hq : R2 = R := of_decide_eq_true HE.out
   have HQ : Hid (R2 = R) := hq
   clear hq
   clear HE
   go_wp2_with (first
    | ((with_reducible refine wpList_loadTabL (x := .tmp 3) isTab4 (w.heap.size + 1 + 1) R ?hx HR.out S4.out.a ?_); (case hx => rfl))
    | ((with_reducible refine wpList_storeTabL (x := .tmp 2) (y := .tmp 12) isTab4 (w.heap.size + 1) (List.replicate 4 zero7) R ?hx ?hy (Rows7.zero 4) HR.out S4.out.z ?_); (case hx => rfl); (case hy => rfl); intro w5 T5 g5; have HT5 : Hid (TabR w5 (w.heap.size + 1) 88 R) := T5; have G5 : Hid _ := g5; clear T5 g5; refine stop_of ?_))
   unfold Stop
   go_wp2
   refine bodyPost_tabR isTab4 rfl (w.heap.size + 1) R rfl HR.out HT5.out rfl ⟨R, rfl, HR.out, ?_, ?_⟩
   · have hI2 := HI2.out
     rw [HQ.out] at hI2
     exact HI.out.r.last hI2.1
   · exact S4.out.bl.grown G5.out S4.out.bl.size (fun k hk => by cases hk; omega)
  | false =>
   have hq : ¬ R2 = R := of_decide_eq_false HE.out
   have HQ : Hid (¬ R2 = R) := hq
   clear hq
   clear HE
   go_wp2_with (first
    | ((with_reducible refine wpList_loadTabL (x := .tmp 4) isTab4 w2.heap.size R2 ?hx HR2.out HT4.out ?_); (case hx => rfl))
    | ((with_reducible refine wpList_storeTabL (x := .tmp 3) (y := .tmp 13) isTab4 (w.heap.size + 1 + 1) R R2 ?hx ?hy HR.out HR2.out S4.out.a ?_); (case hx => rfl); (case hy => rfl); intro w5 T5 g5; have HT5 : Hid (TabR w5 (w.heap.size + 1 + 1) 88 R2) := T5; have G5 : Hid _ := g5; clear T5 g5; refine stop_of ?_))
   unfold Stop
   go_wp2
   go_roundw
   case rel => exact ⟨R2, FS.turned S4.out HT5.out G5.out, HR2.out, ⟨HI.out.r.next hc hp HI2.out.1, HI2.out.2⟩⟩
   case measure =>
    rw [HM0.out, roomB_eq HT5.out HR2.out]
    refine roomT_ne (by rw [HR.out.1, HR2.out.1]) (by rw [HR.out.1]; exact HI.out.good) (by rw [HR.out.1]; exact HI2.out.good) (by rw [HR.out.1]; exact HI.out.up HI2.out) (fun e => HQ.out e.symm)

end Go.Proofs.Ytnjbihfceckpfaa

/-
 slices.Clone over int64, of a list that is not empty.
-/
namespace Go.Proofs.Ytnjbihfceckpfaa
open Go.RowKit
set_option linter.unusedVariables false
set_option maxHeartbeats 1000000
set_option maxRecDepth 20000

end Go.Proofs.Ytnjbihfceckpfaa

/-
 laws.markInt64SS, laws.heldInt64SS: lists of lists whose rows are all apart.
-/
namespace Go.Proofs.Ytnjbihfceckpfaa
open Go.RowKit
set_option linter.unusedVariables false
set_option maxHeartbeats 1000000

/-- No two rows are one. -/
def ApartSS (us : List Value) : Prop := ∀ (i j : Nat) (a b : Value) (k : Nat), i ≠ j → us[i]? = some a → us[j]? = some b → a.ownBlock = some k → b.ownBlock ≠ some k

end Go.Proofs.Ytnjbihfceckpfaa

/-
 Chapter 10, the program's side: tablesOf, canSum, listsOf.
-/
namespace Go.Proofs.Ytnjbihfceckpfaa
open Go.RowKit
set_option linter.unusedVariables false
set_option linter.unusedSimpArgs false
set_option maxHeartbeats 4000000
set_option maxRecDepth 20000

theorem tablesOf (ps : List (List Stm)) (c : Int) (v : Value) (w : World) (hc : c = 1 ∨ c = 2) (hp : CanP ps) (h4 : ps.length ≤ 4) (hv : ReadsP w v ps) :
 Calls Try.prog 53 #[.agg #[v], .int .i64 c] w fun e w' => ∃ R, e = .returned (tabR R) ∧ Rows7 4 R ∧ IsTables c ps R ∧ Below w.heap.size w w' := by
 have hz : ∀ w, (zeroValue 88).run Try.prog w = .ok (.agg (ints (List.replicate 4 zero7).flatten).toArray) w := isTab4.zero
 obtain ⟨zs, hzs⟩ : ∃ zs, ints (List.replicate 4 zero7).flatten = zs := ⟨_, rfl⟩
 rw [hzs] at hz
 obtain ⟨cl, hcl⟩ : ∃ cl, Value.func (.func 81) #[] #[.pointer (some ⟨w.heap.size, 0, none⟩), .pointer (some ⟨w.heap.size + 1, 0, none⟩)] = cl := ⟨_, rfl⟩
 obtain ⟨W, hW⟩ : ∃ W, (((w.alloc (.cells #[v] 30)).alloc (.cells #[.int .i64 c] 2)).alloc (.cells zs.toArray 88)).alloc (.cells #[cl] 135) = W := ⟨_, rfl⟩
 have a1 : (w.alloc (.cells #[v] 30)).heap.size = w.heap.size + 1 := by simp
 have a2 : ((w.alloc (.cells #[v] 30)).alloc (.cells #[.int .i64 c] 2)).heap.size = w.heap.size + 1 + 1 := by simp
 have a3 : (((w.alloc (.cells #[v] 30)).alloc (.cells #[.int .i64 c] 2)).alloc (.cells zs.toArray 88)).heap.size = w.heap.size + 1 + 1 + 1 := by simp
 have bW : Below w.heap.size w W := by rw [← hW]; go_grown
 have hP : W.heap[w.heap.size]? = some (.cells #[v] 30 (0, 0)) := by
  rw [← hW, old_block (by omega), old_block (by omega), old_block (by omega)]; exact heap_alloc_new w _
 have hC : W.heap[w.heap.size + 1]? = some (.cells #[.int .i64 c] 2 (0, 0)) := by
  rw [← hW, old_block (by omega), old_block (by omega)]
  have := heap_alloc_new (w.alloc (.cells #[v] 30)) (.cells #[.int .i64 c] 2)
  rwa [a1] at this
 have hZ : TabR W (w.heap.size + 1 + 1) 88 (List.replicate 4 zero7) := by
  unfold TabR
  rw [← hW, old_block (by omega), hzs]
  have := heap_alloc_new ((w.alloc (.cells #[v] 30)).alloc (.cells #[.int .i64 c] 2)) (.cells zs.toArray 88)
  rwa [a2] at this
 have hfix := fix4 ps c v w.heap.size (w.heap.size + 1) W hc hp h4 (readsP_below hv bW) hP hC
 have HW : Hid _ := hW
 have HCL : Hid _ := hcl
 have HZ : Hid (TabR W (w.heap.size + 1 + 1) 88 (List.replicate 4 zero7)) := hZ
 clear hW hcl hP hC hZ hzs a1 a2 a3
 go_enter Try.func53, Try.ntmps53
 go_wp2_with fail
 rw [← HCL.out] at HW
 rw [HW.out]
 go_at_call 83
 refine hfix.mono ?_
 rintro e w2 ⟨R, rfl, hRR, hI, b2⟩
 have HRR : Hid (Rows7 4 R) := hRR
 have HZ2 : Hid (TabR w2 (w.heap.size + 1 + 1) 88 (List.replicate 4 zero7)) := TabR.below HZ.out b2
 have HI : Hid _ := hI
 have L2 : Hid _ := bW.trans (b2.mono bW.size)
 clear hRR hI b2 hfix HW HCL
 go_wp2_with (first
  | ((with_reducible refine wpList_storeTabL (x := .tmp 4) (y := .tmp 9) isTab4 (w.heap.size + 1 + 1) (List.replicate 4 zero7) R ?hx ?hy (Rows7.zero 4) HRR.out HZ2.out ?_); (case hx => rfl); (case hy => rfl); intro w5 T5 g5; have HT5 : Hid (TabR w5 (w.heap.size + 1 + 1) 88 R) := T5; have G5 : Hid _ := g5; clear T5 g5; refine stop_of ?_))
 unfold Stop
 go_wp2
 refine bodyPost_tabR isTab4 rfl (w.heap.size + 1 + 1) R rfl HRR.out HT5.out rfl ⟨R, rfl, HRR.out, HI.out, ?_⟩
 exact L2.out.grown G5.out L2.out.size (fun k hk => by cases hk; omega)

/-- What listsOf has made: k lists, and room for n. -/
structure LO (w : World) (X : List (List Int)) (n k : Nat) (lv : Value) (vs : List Value) (wr : World) : Prop where
 row : wr.ownsRow w.heap.size 26 1 lv n (vs ++ List.replicate (n - k) (.slice none 0 0))
 len : vs.length = k
 each : ∀ j u, vs[j]? = some u → wr.ownsRow w.heap.size 2 1 u 7 (ints (X.getD j []))
 ap : ApartSS vs
 bl : Below w.heap.size w wr

theorem LO.below {w : World} {X : List (List Int)} {n k : Nat} {lv : Value} {vs : List Value} {wr wr' : World} (h : LO w X n k lv vs wr) (hb : Below wr.heap.size wr wr') : LO w X n k lv vs wr' :=
 ⟨own_kept h.row hb, h.len, fun j u hu => own_kept (h.each j u hu) hb, h.ap, h.bl.trans (hb.mono h.bl.size)⟩

theorem set_room (vs : List Value) (u z : Value) (m : Nat) (hm : 0 < m) : (vs ++ List.replicate m z).set vs.length u = (vs ++ [u]) ++ List.replicate (m - 1) z := by
 obtain ⟨m, rfl⟩ : ∃ q, m = q + 1 := ⟨m - 1, by omega⟩
 rw [List.replicate_succ, List.set_append_right _ _ (Nat.le_refl _)]
 simp

theorem LO.put {w : World} {X : List (List Int)} {n k g cap : Nat} {u : Value} {vs : List Value} {wr wa : World} (h : LO w X n k (.slice (some ⟨g, 0, none⟩) n cap) vs wr) (hk : k < n) (hb : Below wa.heap.size wa wr) (ha : LO w X n k (.slice (some ⟨g, 0, none⟩) n cap) vs wa)
 (hu : wr.ownsRow wa.heap.size 2 1 u 7 (ints (X.getD k []))) : LO w X n (k + 1) (.slice (some ⟨g, 0, none⟩) n cap) (vs ++ [u]) (wr.setCell ⟨g, k, none⟩ u) := by
 have hst := h.row.stored k u
 have hw : w.heap.size ≤ wa.heap.size := ha.bl.size
 have keep : ∀ (x : Value) (b : Nat) (ys : List Value), wr.ownsRow b 2 1 x 7 ys → (wr.setCell ⟨g, k, none⟩ u).ownsRow b 2 1 x 7 ys := fun x b ys ho =>
  own_same ho (fun q hq => hst.2.block q (ho.lt q hq).2 (fun e => row_kind ho h.row (by decide) hq e.symm))
 refine ⟨?_, by simp [h.len], fun j x hj => ?_, ?_, h.bl.grown hst.2 h.bl.size (fun q hq => by cases hq; exact (h.row.lt g rfl).1)⟩
 · have e := set_room vs u (.slice none 0 0) (n - k) (by omega)
   rw [h.len] at e
   have h1 := hst.1
   rw [e] at h1
   have e2 : n - k - 1 = n - (k + 1) := by omega
   rw [e2] at h1
   exact h1
 · by_cases hjl : j < vs.length
   · rw [List.getElem?_append_left hjl] at hj
     exact keep x _ _ (h.each j x hj)
   · rw [List.getElem?_append_right (by omega)] at hj
     have : j - vs.length = 0 := by
      have := (List.getElem?_eq_some_iff.1 hj).1
      simp at this; omega
     rw [this] at hj
     simp at hj
     subst hj
     have e : j = k := by have := h.len; omega
     rw [e]
     exact own_mono (keep u _ _ hu) hw
 · intro a b x y q hab hx hy hxq hyq
   have old : ∀ (m : Nat) (z : Value), m < vs.length → (vs ++ [u])[m]? = some z → vs[m]? = some z := fun m z hm hz => by rwa [List.getElem?_append_left hm] at hz
   have new : ∀ (m : Nat) (z : Value), ¬ m < vs.length → (vs ++ [u])[m]? = some z → z = u ∧ m = vs.length := fun m z hm hz => by
    rw [List.getElem?_append_right (by omega)] at hz
    have h0 : m - vs.length = 0 := by
     have := (List.getElem?_eq_some_iff.1 hz).1
     simp at this; omega
    rw [h0] at hz
    simp at hz
    exact ⟨hz.symm, by omega⟩
   by_cases h1 : a < vs.length
   · by_cases h2 : b < vs.length
     · exact h.ap a b x y q hab (old a x h1 hx) (old b y h2 hy) hxq hyq
     · obtain ⟨rfl, _⟩ := new b y h2 hy
       have := (hu.lt q hyq).1
       have := ((ha.each a x (old a x h1 hx)).lt q hxq).2
       omega
   · obtain ⟨rfl, e1⟩ := new a x h1 hx
     by_cases h2 : b < vs.length
     · have := (hu.lt q hxq).1
       have := ((ha.each b y (old b y h2 hy)).lt q hyq).2
       omega
     · obtain ⟨rfl, e2⟩ := new b y h2 hy
       omega

theorem LO.last {w : World} {X : List (List Int)} {n : Nat} {lv : Value} {vs : List Value} {wr : World} (h : LO w X n n lv vs wr) (hl : n ≤ X.length) (h7 : ∀ j, j < n → (X.getD j []).length = 7) : OwnSS wr w.heap.size lv vs (X.take n) := by
 have e : (X.take n).length = n := by simp; omega
 refine ⟨?_, fun j u xs hj hx => ?_⟩
 · rw [e]
   have := h.row
   simpa using this
 · have hjn : j < n := by have := (List.getElem?_eq_some_iff.1 hj).1; rw [h.len] at this; exact this
   have e2 : X.getD j [] = xs := by
    rw [List.getElem?_take, if_pos hjn] at hx
    rw [List.getD_eq_getElem?_getD, hx]; rfl
   have := h.each j u hj
   have h9 := h7 j hjn
   rw [e2] at this h9
   rw [h9]
   exact this

end Go.Proofs.Ytnjbihfceckpfaa
