/-
  Put together out of: ImplFix4, CanSum, CloneI, MarkSS.
-/
import Derived.Test.YtmophdojojcpbaaImplTabs
import Derived.Laws.EntriesVeiled
import Derived.Test.YtmophdojojcpbaaTabEx
import Derived.Test.YtmophdojojcpbaaFlowImpl
import Derived.Test.YtmophdojojcpbaaG32ListsLaw
import Derived.ArgAppend
/-
  Chapter 10, the program's side: the tables' fixpoint: tablesOf$1, fromNothing, tablesOf.
-/
namespace Go.Proofs.Ytmophdojojcpbaa
open Go.RowKit
set_option linter.unusedVariables false
set_option linter.unusedSimpArgs false
set_option maxHeartbeats 4000000
set_option maxRecDepth 20000

/-- What comes of T, and nothing behind the last procedure. -/
def RoundZ (c : Int) (ps : List (List Stm)) (T U : List (List Int)) : Prop := IsRound c ps T U ∧ ∀ i, ps.length ≤ i → i < 4 → U.getD i [] = zero7
structure RisZ (c : Int) (ps : List (List Stm)) (T : List (List Int)) : Prop where
  r : Ris c ps T
  z : ∀ i, ps.length ≤ i → i < 4 → T.getD i [] = zero7

theorem RisZ.good {c : Int} {ps : List (List Stm)} {T : List (List Int)} (h : RisZ c ps T) : GoodN 4 T := fun i hi => by
  by_cases hp : i < ps.length
  · exact h.r.good i hp
  · rw [h.z i (by omega) hi]; exact zero7_smalls
theorem RoundZ.good {c : Int} {ps : List (List Stm)} {T U : List (List Int)} (h : RoundZ c ps T U) : GoodN 4 U := fun i hi => by
  by_cases hp : i < ps.length
  · exact h.1.good i hp
  · rw [h.2 i (by omega) hi]; exact zero7_smalls
theorem RisZ.up {c : Int} {ps : List (List Stm)} {T U : List (List Int)} (h : RisZ c ps T) (k : RoundZ c ps T U) : SubN 4 T U := fun i hi => by
  by_cases hp : i < ps.length
  · exact h.r.up U k.1 i hp
  · rw [h.z i (by omega) hi]; exact zero7_sub _

theorem tablesOf1 (ps : List (List Stm)) (c : Int) (T : List (List Int)) (v : Value) (P C : Nat) (w : World) (hc : c = 1 ∨ c = 2) (hp : CanP ps) (h4 : ps.length ≤ 4) (hR : Rows7 4 T) (hT : GoodN ps.length T) (hv : ReadsP w v ps)
    (hP : w.heap[P]? = some (.cells #[v] 26 (0, 0))) (hC : w.heap[C]? = some (.cells #[.int .i64 c] 2 (0, 0))) :
    Calls Try.prog 76 #[tabR T, .pointer (some ⟨P, 0, none⟩), .pointer (some ⟨C, 0, none⟩)] w fun e w' => ∃ R, e = .returned (tabR R) ∧ Rows7 4 R ∧ RoundZ c ps T R ∧ Below w.heap.size w w' := by
  have hz : ∀ w, (zeroValue 61).run Try.prog w = .ok (.agg (ints (List.replicate 4 zero7).flatten).toArray) w := isTab4.zero
  obtain ⟨zs, hzs⟩ : ∃ zs, ints (List.replicate 4 zero7).flatten = zs := ⟨_, rfl⟩
  rw [hzs] at hz
  obtain ⟨ts, hts⟩ : ∃ ts, ints T.flatten = ts := ⟨_, rfl⟩
  have cP := (one_cell hP).1
  have cC := (one_cell hC).1
  have zP := World.block_lt_of_cell? w _ cP
  have zC := World.block_lt_of_cell? w _ cC
  obtain ⟨W, hW⟩ : ∃ W, (w.alloc (.cells ts.toArray 61)).alloc (.cells zs.toArray 61) = W := ⟨_, rfl⟩
  have bW : Below w.heap.size w W := by rw [← hW]; go_grown
  have hTT : Hid (TabR W w.heap.size 61 T) := by
    show W.heap[w.heap.size]? = _
    rw [← hW, old_block (by simp), hts]; exact heap_alloc_new w _
  have hTZ : TabR W (w.heap.size + 1) 61 (List.replicate 4 zero7) := by
    unfold TabR
    rw [← hW, hzs]
    have := heap_alloc_new (w.alloc (.cells ts.toArray 61)) (.cells zs.toArray 61)
    simpa using this
  have htw := tablesWith ps c T v W hc hp h4 hR hT (readsP_below hv bW)
  have HW : Hid _ := hW
  have HTZ : Hid (TabR W (w.heap.size + 1) 61 (List.replicate 4 zero7)) := hTZ
  clear hP hC hzs hW hTZ
  unfold tabR
  rw [hts]
  clear hts
  go_enter Try.func76, Try.ntmps76
  go_wp2_with (first
    | ((with_reducible refine wpList_loadTabL (x := .tmp 3) isTab4 w.heap.size T ?hx hR ?hT ?_); (case hx => rfl); (case hT => rw [HW.out]; exact hTT.out)))
  rw [HW.out]
  go_at_call 44
  refine htw.mono ?_
  rintro e w2 ⟨R, rfl, hRR, hI, hZ, b2⟩
  have HRR : Hid (Rows7 4 R) := hRR
  have HZ2 : Hid (TabR w2 (w.heap.size + 1) 61 (List.replicate 4 zero7)) := TabR.below HTZ.out b2
  have HI : Hid (RoundZ c ps T R) := ⟨hI, hZ⟩
  have L2 : Hid _ := bW.trans (b2.mono bW.size)
  clear hRR hI hZ b2 htw
  go_wp2_with (first
    | ((with_reducible refine wpList_storeTabL (x := .tmp 4) (y := .tmp 8) isTab4 (w.heap.size + 1) (List.replicate 4 zero7) R ?hx ?hy (Rows7.zero 4) HRR.out HZ2.out ?_); (case hx => rfl); (case hy => rfl); intro w5 T5 g5; have HT5 : Hid (TabR w5 (w.heap.size + 1) 61 R) := T5; have G5 : Hid _ := g5; clear T5 g5; refine stop_of ?_))
  unfold Stop
  go_wp2
  refine bodyPost_tabR isTab4 rfl (w.heap.size + 1) R rfl HRR.out HT5.out rfl ⟨R, rfl, HRR.out, HI.out, ?_⟩
  exact L2.out.grown G5.out L2.out.size (fun k hk => by cases hk; omega)

theorem fix4 (ps : List (List Stm)) (c : Int) (v : Value) (P Q : Nat) (w : World) (hc : c = 1 ∨ c = 2) (hp : CanP ps) (h4 : ps.length ≤ 4) (hv : ReadsP w v ps) (hP : w.heap[P]? = some (.cells #[v] 26 (0, 0))) (hQ : w.heap[Q]? = some (.cells #[.int .i64 c] 2 (0, 0))) :
    Calls Try.prog 77 #[.agg #[Value.func (.func 76) #[] #[.pointer (some ⟨P, 0, none⟩), .pointer (some ⟨Q, 0, none⟩)]]] w fun e w' => ∃ R, e = .returned (tabR R) ∧ Rows7 4 R ∧ IsTables c ps R ∧ Below w.heap.size w w' := by
  have hz : ∀ w, (zeroValue 61).run Try.prog w = .ok (.agg (ints (List.replicate 4 zero7).flatten).toArray) w := isTab4.zero
  obtain ⟨zs, hzs⟩ : ∃ zs, ints (List.replicate 4 zero7).flatten = zs := ⟨_, rfl⟩
  rw [hzs] at hz
  have HZ : Hid _ := hzs
  obtain ⟨cl, hcl⟩ : ∃ cl, Value.func (.func 76) #[] #[.pointer (some ⟨P, 0, none⟩), .pointer (some ⟨Q, 0, none⟩)] = cl := ⟨_, rfl⟩
  have HCL : Hid _ := hcl
  rw [hcl]
  clear hcl
  go_enter Try.func77, Try.ntmps77
  go_wp2_with fail
  obtain ⟨W, hW⟩ : ∃ W, ((w.alloc (.cells #[cl] 102)).alloc (.cells zs.toArray 61)).alloc (.cells zs.toArray 61) = W := ⟨_, rfl⟩
  have S0 : FS 102 61 4 cl w (List.replicate 4 zero7) W := by
    refine ⟨?_, ?_, ?_, by rw [← hW]; go_grown⟩
    · rw [← hW, old_block (by simp; omega), old_block (by simp)]; exact heap_alloc_new w _
    · unfold TabR
      rw [← hW, old_block (by simp), hzs]
      have := heap_alloc_new (w.alloc (.cells #[cl] 102)) (.cells zs.toArray 61)
      simpa using this
    · unfold TabR
      rw [← hW, hzs]
      have := heap_alloc_new ((w.alloc (.cells #[cl] 102)).alloc (.cells zs.toArray 61)) (.cells zs.toArray 61)
      simpa using this
  rw [hW]
  clear hW hzs
  go_loopw [4] (fun _ wr => ∃ R, FS 102 61 4 cl w R wr ∧ Rows7 4 R ∧ RisZ c ps R) (fun _ wr => roomB wr (w.heap.size + 1 + 1) (7 * 4))
  case atStart => exact ⟨_, S0, Rows7.zero 4, Ris.zero (fun i hi => rep_getD (by omega)), fun i _ hi => rep_getD hi⟩
  case round =>
    obtain ⟨R, S, hR, I⟩ := hrel
    clear S0
    obtain ⟨cf, _⟩ := one_cell S.f
    have HM0 : Hid (roomB wr (w.heap.size + 1 + 1) (7 * 4) = roomT R) := roomB_eq S.a hR
    have hcall := tablesOf1 ps c R v P Q wr hc hp h4 hR I.r.good (readsP_below hv S.bl) ((S.bl.block P (Array.getElem?_eq_some_iff.1 hP).1).trans hP) ((S.bl.block Q (Array.getElem?_eq_some_iff.1 hQ).1).trans hQ)
    have HS : Hid _ := S
    have HR : Hid (Rows7 4 R) := hR
    have HI : Hid _ := I
    have s0 := S.a.lt
    obtain rfl := HCL.out
    clear S hR I
    go_wp2_with (first
      | refine wpList_loadTabR isTab4 rfl (.tmp 3) rfl (w.heap.size + 1 + 1) R rfl HR.out HS.out.a ?_)
    refine hcall.mono ?_
    rintro e w2 ⟨R2, rfl, hRw, hI2, b2⟩
    clear hcall
    have S2 := HS.out.below b2
    have HS2 : Hid _ := S2
    have HR2 : Hid (Rows7 4 R2) := hRw
    have HI2 : Hid (RoundZ c ps R R2) := hI2
    obtain ⟨w3, hw3⟩ : ∃ z, w2.alloc (.cells zs.toArray 61) = z := ⟨_, rfl⟩
    have T3 : TabR w3 w2.heap.size 61 (List.replicate 4 zero7) := by rw [← hw3, ← HZ.out]; exact tabR_new w2 _ _
    have B3 : Below w2.heap.size w2 w3 := by rw [← hw3]; go_grown
    have S3 := S2.below B3
    have HS3 : Hid _ := S3
    have HT3 : Hid (TabR w3 w2.heap.size 61 (List.replicate 4 zero7)) := T3
    have HW3 : Hid _ := hw3
    have s2 := S2.a.lt
    clear S2 S3 T3 hI2 cf hw3
    obtain ⟨b, hb⟩ : ∃ b, decide (R2 = R) = b := ⟨_, rfl⟩
    have HE : Hid (decide (R2 = R) = b) := hb
    clear hb
    go_wp2_with (first
      | (rw [HW3.out]; (with_reducible refine wpList_storeTabL (x := .tmp 4) (y := .tmp 8) isTab4 w2.heap.size (List.replicate 4 zero7) R2 ?hx ?hy (Rows7.zero 4) HR2.out HT3.out ?_); (case hx => rfl); (case hy => rfl); intro w4 T4 g4; have S4 : Hid _ := FS.grown HS3.out g4 (by omega); have HT4 : Hid (TabR w4 w2.heap.size 61 R2) := T4; clear T4 g4)
      | ((with_reducible refine wpList_loadTabL (x := .tmp 4) isTab4 w2.heap.size R2 ?hx HR2.out HT4.out ?_); (case hx => rfl))
      | ((with_reducible refine wpList_loadTabL (x := .tmp 3) isTab4 (w.heap.size + 1 + 1) R ?hx HR.out S4.out.a ?_); (case hx => rfl))
      | ((with_reducible refine wpList_eqTabR' isTab4 R2 R b ?h1 ?h2 HR2.out HR.out HE.out ?_); (case h1 => rfl); (case h2 => rfl); refine stop_of ?_))
    unfold Stop
    clear HT3 HW3 HS3 HS2 hz
    cases b with
    | true =>
      have hq : R2 = R := of_decide_eq_true HE.out
      have HQ : Hid (R2 = R) := hq
      clear hq
      clear HE
      go_wp2_with (first
        | ((with_reducible refine wpList_loadTabL (x := .tmp 3) isTab4 (w.heap.size + 1 + 1) R ?hx HR.out S4.out.a ?_); (case hx => rfl))
        | ((with_reducible refine wpList_storeTabL (x := .tmp 2) (y := .tmp 12) isTab4 (w.heap.size + 1) (List.replicate 4 zero7) R ?hx ?hy (Rows7.zero 4) HR.out S4.out.z ?_); (case hx => rfl); (case hy => rfl); intro w5 T5 g5; have HT5 : Hid (TabR w5 (w.heap.size + 1) 61 R) := T5; have G5 : Hid _ := g5; clear T5 g5; refine stop_of ?_))
      unfold Stop
      go_wp2
      refine bodyPost_tabR isTab4 rfl (w.heap.size + 1) R rfl HR.out HT5.out rfl ⟨R, rfl, HR.out, ?_, ?_⟩
      · have hI2 := HI2.out
        rw [HQ.out] at hI2
        exact HI.out.r.last hI2.1
      · exact S4.out.bl.grown G5.out S4.out.bl.size (fun k hk => by cases hk; omega)
    | false =>
      have hq : ¬ R2 = R := of_decide_eq_false HE.out
      have HQ : Hid (¬ R2 = R) := hq
      clear hq
      clear HE
      go_wp2_with (first
        | ((with_reducible refine wpList_loadTabL (x := .tmp 4) isTab4 w2.heap.size R2 ?hx HR2.out HT4.out ?_); (case hx => rfl))
        | ((with_reducible refine wpList_storeTabL (x := .tmp 3) (y := .tmp 13) isTab4 (w.heap.size + 1 + 1) R R2 ?hx ?hy HR.out HR2.out S4.out.a ?_); (case hx => rfl); (case hy => rfl); intro w5 T5 g5; have HT5 : Hid (TabR w5 (w.heap.size + 1 + 1) 61 R2) := T5; have G5 : Hid _ := g5; clear T5 g5; refine stop_of ?_))
      unfold Stop
      go_wp2
      go_roundw
      case rel => exact ⟨R2, FS.turned S4.out HT5.out G5.out, HR2.out, ⟨HI.out.r.next hc hp HI2.out.1, HI2.out.2⟩⟩
      case measure =>
        rw [HM0.out, roomB_eq HT5.out HR2.out]
        refine roomT_ne (by rw [HR.out.1, HR2.out.1]) (by rw [HR.out.1]; exact HI.out.good) (by rw [HR.out.1]; exact HI2.out.good) (by rw [HR.out.1]; exact HI.out.up HI2.out) (fun e => HQ.out e.symm)

end Go.Proofs.Ytmophdojojcpbaa

/-
  impl.canSum: are program and client right?
-/
namespace Go.Proofs.Ytmophdojojcpbaa
open Go.RowKit
set_option linter.unusedVariables false
set_option linter.unusedSimpArgs false
set_option maxHeartbeats 4000000
set_option maxRecDepth 20000

theorem canSum (ps : List (List Stm)) (c : Int) (v : Value) (w : World) (hl : ps.length ≤ maxLen) (hp : ∀ p ∈ ps, p.length ≤ maxLen) (hv : ReadsP w v ps) :
    Calls Try.prog 36 #[.agg #[v], .int .i64 c] w fun e w' => e = .returned (.bool (okB ps c)) ∧ Below w.heap.size w w' := by
  have b0 : Below w.heap.size w (w.alloc (.cells #[v] 26)) := by go_grown
  have H0 := heap_alloc_new w (.cells #[v] 26)
  by_cases h2 : c = 1 ∨ c = 2
  · have hf := flowsOf c h2
    have hpo := fun W h => implProgramOk ps v W hl hp h
    have e : okB ps c = programOk ps := by simp [okB, h2]
    rw [e]
    unfold flowsV at hf
    generalize markFn c = m at *
    clear e h2
    go_enter Try.func36, Try.ntmps36
    go_wp2_with fail
    go_at_call 74
    refine (hf _).mono ?_
    rintro e w1 ⟨rfl, b1⟩
    have B1 := b0.trans (b1.mono b0.size)
    have q1 := (b1.block w.heap.size (by simp)).trans H0
    have hlt : w.heap.size < w1.heap.size := (Array.getElem?_eq_some_iff.1 q1).1
    have q2 : ∀ o, (w1.alloc o).cell? ⟨w.heap.size, 0, none⟩ = some v := fun o => (one_cell ((old_block hlt).trans q1)).1
    have hpo1 := fun o => hpo (w1.alloc o) (readsP_below hv (B1.alloc B1.size _))
    clear hf H0 b1 q1
    go_wp2_with (go_at_call 75; refine (hpo1 _).mono ?_; rintro e w2 ⟨rfl, b2⟩)
    go_ret
    exact ⟨rfl, (B1.alloc B1.size _).trans (b2.mono (by have := B1.size; simp; omega))⟩
  · have e : okB ps c = false := by simp [okB, h2]
    rw [e]
    have hf := flowsOfNo c (fun h => h2 (.inl h)) (fun h => h2 (.inr h))
    clear e h2
    go_enter Try.func36, Try.ntmps36
    go_wp2_with (go_at_call 74; refine (hf _).mono ?_; rintro e w1 ⟨rfl, b1⟩)
    go_ret
    have B1 := b0.trans (b1.mono b0.size)
    exact ⟨rfl, B1.alloc B1.size _⟩

end Go.Proofs.Ytmophdojojcpbaa

/-
  slices.Clone over int64, of a list that is not empty.
-/
namespace Go.Proofs.Ytmophdojojcpbaa
open Go.RowKit
set_option linter.unusedVariables false
set_option maxHeartbeats 1000000
set_option maxRecDepth 20000

theorem sliceClone (xs : List Int) (v : Value) (w : World) (h0 : 0 < xs.length) (hl : xs.length ≤ 1000000) (hv : Reads w v (ints xs)) :
    Calls Try.prog 78 #[v] w fun e w' => ∃ g cap, e = .returned (.slice (some ⟨g, 0, none⟩) xs.length cap) ∧ w'.ownsRow w.heap.size 2 1 (.slice (some ⟨g, 0, none⟩) xs.length cap) xs.length (ints xs) ∧ Below w.heap.size w w' := by
  obtain ⟨i0, hi, hz0, hz1, hz2⟩ := info_parts infoInt
  obtain ⟨ao, cap, rfl, hc⟩ := hv
  rw [ints_length]
  obtain ⟨g, off, rfl, _⟩ := hc 0 (.int .i64 xs[0]) (by simp [ints, h0])
  have hcs : Hid (∀ j u, (ints xs)[j]? = some u → (w.alloc (.cells #[] 2)).cell? ((⟨g, off, none⟩ : Addr).add j) = some u) := by
    intro j u hu
    obtain ⟨g', off', e, hcell⟩ := hc j u hu
    simp only [Option.some.injEq, Addr.mk.injEq, and_true] at e
    obtain ⟨rfl, rfl⟩ := e
    rw [Addr.add_lit]
    exact (Below.cell (Below.alloc (Below.refl _ w) (Nat.le_refl _) _) (World.block_lt_of_cell? w _ hcell)).trans hcell
  have heq : ∀ (W : World) (A : Addr) (n c : Nat), (binOp .eql 36 (.slice (some A) n c) (.slice none 0 0)).run Try.prog W = .ok (.bool false) W := fun _ _ _ _ => rfl
  have m0 := made0 w
  have B0 : Below w.heap.size w (w.alloc (.cells #[] 2)) := by go_grown
  clear hc
  go_enter Try.func78, Try.ntmps78
  go_wp2_with (first
    | (at_builtin; refine wpList_append_own _ rfl (.tmp 5) (.tmp 6) 36 rfl w.heap.size 2 i0 (.int .i64 0) 1 8 Try.underlying36 hi hz0 hz1 hz2 rfl (by decide) _ 0 [] rfl m0 ⟨g, off, none⟩ xs.length _ (ints xs) rfl (by simp [ints_length]) hcs.out (ints_oneCell xs) (by unfold maxLen; omega) (by omega) (by simp) ?_; intro v2 w2 own2 grow2 _)
    | go_in)
  have L2 : Below w.heap.size w w2 := below_app B0 grow2 (fun q hq => Nat.le_of_eq (Option.some.inj (show some w.heap.size = some q from hq)))
  have own3 : w2.ownsRow w.heap.size 2 1 v2 xs.length (ints xs) := by simpa using own2
  rcases own3.2 with ⟨_, hn⟩ | ⟨g2, cap2, cur2, rfl, _⟩
  · omega
  go_ret
  exact ⟨g2, cap2, rfl, own3, L2⟩

/-- Lists of numbers as Go's. -/
def castLL (c : List (List Nat)) : List (List Int) := c.map (fun g => g.map (fun x : Nat => (x : Int)))

end Go.Proofs.Ytmophdojojcpbaa

/-
  laws.markInt64SS, laws.heldInt64SS: lists of lists whose rows are all apart.
-/
namespace Go.Proofs.Ytmophdojojcpbaa
open Go.RowKit
set_option linter.unusedVariables false
set_option maxHeartbeats 1000000

/-- How many numbers there are in all lists. -/
def tot : List (List Int) → Nat
  | [] => 0
  | xs :: xss => xs.length + tot xss

theorem tot_append : ∀ (a b : List (List Int)), tot (a ++ b) = tot a + tot b
  | [], b => by simp [tot]
  | x :: a, b => by simp [tot, tot_append a b]; omega

theorem tot_take (xss : List (List Int)) (j : Nat) (h : j < xss.length) : tot (xss.take (j + 1)) = tot (xss.take j) + xss[j].length := by
  rw [List.take_succ_eq_append_getElem h, tot_append]
  simp [tot]

theorem tot_le : ∀ (xss : List (List Int)), (∀ xs ∈ xss, xs.length ≤ 1000) → tot xss ≤ 1000 * xss.length
  | [], _ => by simp [tot]
  | x :: xss, h => by
    have h1 := tot_le xss (fun y hy => h y (by simp [hy]))
    have h2 := h x (by simp)
    simp only [tot, List.length_cons]
    omega

/-- No two rows are one. -/
def ApartSS (us : List Value) : Prop := ∀ (i j : Nat) (a b : Value) (k : Nat), i ≠ j → us[i]? = some a → us[j]? = some b → a.ownBlock = some k → b.ownBlock ≠ some k

/-- The rows of the first m lists bear their marks, the others hold what they held. -/
structure MarkedSS (base : Nat) (us : List Value) (xss : List (List Int)) (k : Int) (m : Nat) (w : World) : Prop where
  done : ∀ (j : Nat) (u : Value) (hj : j < xss.length), j < m → us[j]? = some u → w.ownsRow base 2 1 u xss[j].length (markI (k + tot (xss.take j)) xss[j].length)
  todo : ∀ (j : Nat) (u : Value) (hj : j < xss.length), m ≤ j → us[j]? = some u → w.ownsRow base 2 1 u xss[j].length (ints xss[j])



end Go.Proofs.Ytmophdojojcpbaa
