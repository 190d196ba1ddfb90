/-
  Put together out of: CanSum, CloneI, MarkSS, ImplTop.
-/
import Derived.Test.YtnjbihfceckpfaaTabEx
import Derived.Test.YtnjbihfceckpfaaFlowImpl
import Derived.Test.YtnjbihfceckpfaaG22ListsLaw
import Derived.ArgAppend
import Derived.Test.YtnjbihfceckpfaaImplFix4
/-
  impl.canSum: are program and client right?
-/
namespace Go.Proofs.Ytnjbihfceckpfaa
open Go.RowKit
set_option linter.unusedVariables false
set_option linter.unusedSimpArgs false
set_option maxHeartbeats 4000000
set_option maxRecDepth 20000

theorem canSum (ps : List (List Stm)) (c : Int) (v : Value) (w : World) (hl : ps.length ≤ maxLen) (hp : ∀ p ∈ ps, p.length ≤ maxLen) (hv : ReadsP w v ps) :
    Calls Try.prog 44 #[.agg #[v], .int .i64 c] w fun e w' => e = .returned (.bool (okB ps c)) ∧ Below w.heap.size w w' := by
  have b0 : Below w.heap.size w (w.alloc (.cells #[v] 30)) := by go_grown
  have H0 := heap_alloc_new w (.cells #[v] 30)
  by_cases h2 : c = 1 ∨ c = 2
  · have hf := flowsOf c h2
    have hpo := fun W h => implProgramOk ps v W hl hp h
    have e : okB ps c = programOk ps := by simp [okB, h2]
    rw [e]
    unfold flowsV at hf
    generalize markFn c = m at *
    clear e h2
    go_enter Try.func44, Try.ntmps44
    go_wp2_with fail
    go_at_call 75
    refine (hf _).mono ?_
    rintro e w1 ⟨rfl, b1⟩
    have B1 := b0.trans (b1.mono b0.size)
    have q1 := (b1.block w.heap.size (by simp)).trans H0
    have hlt : w.heap.size < w1.heap.size := (Array.getElem?_eq_some_iff.1 q1).1
    have q2 : ∀ o, (w1.alloc o).cell? ⟨w.heap.size, 0, none⟩ = some v := fun o => (one_cell ((old_block hlt).trans q1)).1
    have hpo1 := fun o => hpo (w1.alloc o) (readsP_below hv (B1.alloc B1.size _))
    clear hf H0 b1 q1
    go_wp2_with (go_at_call 76; refine (hpo1 _).mono ?_; rintro e w2 ⟨rfl, b2⟩)
    go_ret
    exact ⟨rfl, (B1.alloc B1.size _).trans (b2.mono (by have := B1.size; simp; omega))⟩
  · have e : okB ps c = false := by simp [okB, h2]
    rw [e]
    have hf := flowsOfNo c (fun h => h2 (.inl h)) (fun h => h2 (.inr h))
    clear e h2
    go_enter Try.func44, Try.ntmps44
    go_wp2_with (go_at_call 75; refine (hf _).mono ?_; rintro e w1 ⟨rfl, b1⟩)
    go_ret
    have B1 := b0.trans (b1.mono b0.size)
    exact ⟨rfl, B1.alloc B1.size _⟩

end Go.Proofs.Ytnjbihfceckpfaa

/-
  slices.Clone over int64, of a list that is not empty.
-/
namespace Go.Proofs.Ytnjbihfceckpfaa
open Go.RowKit
set_option linter.unusedVariables false
set_option maxHeartbeats 1000000
set_option maxRecDepth 20000

/-- Lists of numbers as Go's. -/
def castLL (c : List (List Nat)) : List (List Int) := c.map (fun g => g.map (fun x : Nat => (x : Int)))

end Go.Proofs.Ytnjbihfceckpfaa

/-
  laws.markInt64SS, laws.heldInt64SS: lists of lists whose rows are all apart.
-/
namespace Go.Proofs.Ytnjbihfceckpfaa
open Go.RowKit
set_option linter.unusedVariables false
set_option maxHeartbeats 1000000

/-- How many numbers there are in all lists. -/
def tot : List (List Int) → Nat
  | [] => 0
  | xs :: xss => xs.length + tot xss

theorem tot_append : ∀ (a b : List (List Int)), tot (a ++ b) = tot a + tot b
  | [], b => by simp [tot]
  | x :: a, b => by simp [tot, tot_append a b]; omega

theorem tot_take (xss : List (List Int)) (j : Nat) (h : j < xss.length) : tot (xss.take (j + 1)) = tot (xss.take j) + xss[j].length := by
  rw [List.take_succ_eq_append_getElem h, tot_append]
  simp [tot]

theorem tot_le : ∀ (xss : List (List Int)), (∀ xs ∈ xss, xs.length ≤ 1000) → tot xss ≤ 1000 * xss.length
  | [], _ => by simp [tot]
  | x :: xss, h => by
    have h1 := tot_le xss (fun y hy => h y (by simp [hy]))
    have h2 := h x (by simp)
    simp only [tot, List.length_cons]
    omega

/-- No two rows are one. -/
def ApartSS (us : List Value) : Prop := ∀ (i j : Nat) (a b : Value) (k : Nat), i ≠ j → us[i]? = some a → us[j]? = some b → a.ownBlock = some k → b.ownBlock ≠ some k

/-- The rows of the first m lists bear their marks, the others hold what they held. -/
structure MarkedSS (base : Nat) (us : List Value) (xss : List (List Int)) (k : Int) (m : Nat) (w : World) : Prop where
  done : ∀ (j : Nat) (u : Value) (hj : j < xss.length), j < m → us[j]? = some u → w.ownsRow base 2 1 u xss[j].length (markI (k + tot (xss.take j)) xss[j].length)
  todo : ∀ (j : Nat) (u : Value) (hj : j < xss.length), m ≤ j → us[j]? = some u → w.ownsRow base 2 1 u xss[j].length (ints xss[j])

theorem markInt64SS (xss : List (List Int)) (v : Value) (us : List Value) (base : Nat) (k : Int) (w : World) (hl : xss.length ≤ 100000) (hx : ∀ xs ∈ xss, xs.length ≤ 1000) (h1 : 1 ≤ k) (h2 : k ≤ 1000000) (hbase : base ≤ w.heap.size)
    (hv : OwnSS w base v us xss) (ha : ApartSS us) :
    Calls Try.prog 21 #[v, .int .i64 k] w fun e w' => e = .returned (.int .i64 (k + tot xss)) ∧ w'.ownsRow base 26 1 v xss.length us ∧ MarkedSS base us xss k xss.length w' ∧ Below base w w' := by
  have hlu := hv.len
  have htl := tot_le xss hx
  rcases hv.row.2 with ⟨rfl, hn⟩ | ⟨g, cap, cur, rfl, hbg, _⟩
  · have hxx : xss = [] := List.eq_nil_of_length_eq_zero hn
    subst hxx
    go_enter Try.func21, Try.ntmps21
    go_wp2
    refine wp_loop_rounds 1 ?_
    rw [rounds_succ]
    go_wp2
    go_ret
    exact ⟨ret_int (by simp [tot]), hv.row, ⟨fun j u hj => by simp at hj, fun j u hj => by simp at hj⟩, Below.refl _ _⟩
  · go_enter Try.func21, Try.ntmps21
    go_wp2
    go_loopw [1, 5] (fun q i wr => ∃ j : Nat, j ≤ xss.length ∧ i = .int .i64 j ∧ q = .int .i64 (k + tot (xss.take j)) ∧ wr.ownsRow base 26 1 (.slice (some ⟨g, 0, none⟩) xss.length cap) xss.length us ∧ MarkedSS base us xss k j wr ∧ Below base w wr) (fun _ i _ => xss.length - (intOf i).toNat)
    case atStart => exact ⟨0, Nat.zero_le _, rfl, by simp [tot], hv.row, ⟨fun j u hj h => by omega, fun j u hj _ hu => hv.each j u _ hu (by simp [hj])⟩, Below.refl _ _⟩
    case round =>
      obtain ⟨j, hj, rfl, rfl, hrow, hM, hb⟩ := hrel
      by_cases hlt : j < xss.length
      · have hlt' : (j : Int) < (xss.length : Int) := by omega
        have hju : us[j]? = some (us[j]'(by omega)) := by simp [hlu, hlt]
        have hcell : wr.cell? ⟨g, j, none⟩ = some (us[j]'(by omega)) := by rw [hrow.cellAt j (by omega)]; exact hju
        have hown := hM.todo j _ hlt (Nat.le_refl _) hju
        have hxl := hx xss[j] (List.getElem_mem hlt)
        have htk := tot_take xss j hlt
        have htt : tot (xss.take j) ≤ 1000 * j := by
          have := tot_le (xss.take j) (fun y hy => hx y (List.mem_of_mem_take hy))
          have h3 : (xss.take j).length ≤ j := List.length_take_le _ _
          omega
        have hmk := markInt64S (ints xss[j]) (us[j]'(by omega)) base (k + tot (xss.take j)) wr (by rw [ints_length]; omega) (by omega) (by omega) (Nat.le_trans hbase hb.size) (by rw [ints_length]; exact hown)
        rw [ints_length] at hmk
        have HM : Hid _ := hM
        have HJ : Hid _ := hju
        clear hM
        have hset : ∀ (w' : World), wr.grownBy w' (us[j]'(by omega)).ownBlock → w'.ownsRow base 2 1 (us[j]'(by omega)) xss[j].length (markI (k + tot (xss.take j)) xss[j].length) →
            w'.ownsRow base 26 1 (.slice (some ⟨g, 0, none⟩) xss.length cap) xss.length us ∧ MarkedSS base us xss k (j + 1) w' := by
          intro w' hg ho
          refine ⟨own_same hrow (fun q hq => hg.block q (hrow.lt q hq).2 (fun e => row_kind hrow hown (by decide) hq e.symm)), fun i u hi him hu => ?_, fun i u hi him hu => ?_⟩
          · by_cases hij : i = j
            · subst hij
              rw [HJ.out] at hu
              obtain rfl := Option.some.inj hu
              exact ho
            · have h3 := HM.out.done i u hi (by omega) hu
              exact own_same h3 (fun q hq => hg.block q (h3.lt q hq).2 (fun e => ha i j u _ q hij hu HJ.out hq e.symm))
          · have h3 := HM.out.todo i u hi (by omega) hu
            exact own_same h3 (fun q hq => hg.block q (h3.lt q hq).2 (fun e => ha i j u _ q (by omega) hu HJ.out hq e.symm))
        have HSET : Hid _ := hset
        clear hset hju hown
        generalize us[j]'(by omega) = u at *
        generalize markI (k + tot (xss.take j)) xss[j].length = ms at *
        have HTK : Hid _ := htk
        clear htk
        generalize xss[j].length = xl at *
        generalize tot (xss.take j) = tj at *
        go_wp2_with fail
        go_at_call 16
        refine hmk.mono ?_
        rintro e w2 ⟨rfl, o2, b2, g2⟩
        clear hmk
        obtain ⟨hrow2, hM2⟩ := HSET.out w2 g2 o2
        go_wp2
        go_roundw
        case rel => exact ⟨j + 1, by omega, by go_num, by rw [HTK.out]; go_num, hrow2, hM2, hb.trans (b2.mono (by omega))⟩
        case measure => simp [intOf]; omega
      · obtain rfl : j = xss.length := by omega
        go_wp2
        go_ret
        exact ⟨by rw [List.take_length]; rfl, hrow, hM, hb⟩

theorem heldInt64SS (xss : List (List Int)) (v : Value) (us : List Value) (base : Nat) (k : Int) (w : World) (hl : xss.length ≤ 100000) (hx : ∀ xs ∈ xss, xs.length ≤ 1000) (h1 : 1 ≤ k) (h2 : k ≤ 1000000)
    (hrow : w.ownsRow base 26 1 v xss.length us) (hM : MarkedSS base us xss k xss.length w) :
    Calls Try.prog 22 #[v, .int .i64 k] w fun e w' => e = .returned (.int .i64 (k + tot xss)) ∧ Below w.heap.size w w' := by
  have hlu : us.length = xss.length := by have := hrow.1; omega
  have htl := tot_le xss hx
  rcases hrow.2 with ⟨rfl, hn⟩ | ⟨g, cap, cur, rfl, hbg, _⟩
  · have hxx : xss = [] := List.eq_nil_of_length_eq_zero hn
    subst hxx
    go_enter Try.func22, Try.ntmps22
    go_wp2
    refine wp_loop_rounds 1 ?_
    rw [rounds_succ]
    go_wp2
    go_ret
    exact ⟨ret_int (by simp [tot]), Below.refl _ _⟩
  · go_enter Try.func22, Try.ntmps22
    go_wp2
    go_loopw [1, 5] (fun q i wr => ∃ j : Nat, j ≤ xss.length ∧ i = .int .i64 j ∧ q = .int .i64 (k + tot (xss.take j)) ∧ Below w.heap.size w wr) (fun _ i _ => xss.length - (intOf i).toNat)
    case atStart => exact ⟨0, Nat.zero_le _, rfl, by simp [tot], Below.refl _ _⟩
    case round =>
      obtain ⟨j, hj, rfl, rfl, hb⟩ := hrel
      by_cases hlt : j < xss.length
      · have hlt' : (j : Int) < (xss.length : Int) := by omega
        have hju : us[j]? = some (us[j]'(by omega)) := by simp [hlu, hlt]
        have hr' := own_kept hrow hb
        have hcell : wr.cell? ⟨g, j, none⟩ = some (us[j]'(by omega)) := by rw [hr'.cellAt j (by omega)]; exact hju
        have hown := own_kept (hM.done j _ hlt hlt hju) hb
        have hxl := hx xss[j] (List.getElem_mem hlt)
        have htk := tot_take xss j hlt
        have htt : tot (xss.take j) ≤ 1000 * j := by
          have := tot_le (xss.take j) (fun y hy => hx y (List.mem_of_mem_take hy))
          have h3 : (xss.take j).length ≤ j := List.length_take_le _ _
          omega
        have hmk := heldInt64S xss[j].length (us[j]'(by omega)) (k + tot (xss.take j)) wr (by omega) (by omega) (by omega) (reads_own hown)
        clear hju hown
        generalize us[j]'(by omega) = u at *
        have HTK : Hid _ := htk
        clear htk
        generalize xss[j].length = xl at *
        generalize tot (xss.take j) = tj at *
        have hneg : decide (k + (tj : Int) + (xl : Int) < 0) = false := by simp; omega
        go_wp2_with fail
        go_at_call 17
        refine hmk.mono ?_
        rintro e w2 ⟨rfl, b2⟩
        clear hmk
        go_wp2
        go_roundw
        case rel => exact ⟨j + 1, by omega, by go_num, by rw [HTK.out]; go_num, hb.trans (b2.mono hb.size)⟩
        case measure => simp [intOf]; omega
      · obtain rfl : j = xss.length := by omega
        go_wp2
        go_ret
        exact ⟨by rw [List.take_length]; rfl, hb⟩

end Go.Proofs.Ytnjbihfceckpfaa

/-
  Chapter 10, the program's side: tablesOf, canSum, listsOf.
-/
namespace Go.Proofs.Ytnjbihfceckpfaa
open Go.RowKit
set_option linter.unusedVariables false
set_option linter.unusedSimpArgs false
set_option maxHeartbeats 4000000
set_option maxRecDepth 20000

theorem tablesOf (ps : List (List Stm)) (c : Int) (v : Value) (w : World) (hc : c = 1 ∨ c = 2) (hp : CanP ps) (h4 : ps.length ≤ 4) (hv : ReadsP w v ps) :
    Calls Try.prog 53 #[.agg #[v], .int .i64 c] w fun e w' => ∃ R, e = .returned (tabR R) ∧ Rows7 4 R ∧ IsTables c ps R ∧ Below w.heap.size w w' := by
  have hz : ∀ w, (zeroValue 88).run Try.prog w = .ok (.agg (ints (List.replicate 4 zero7).flatten).toArray) w := isTab4.zero
  obtain ⟨zs, hzs⟩ : ∃ zs, ints (List.replicate 4 zero7).flatten = zs := ⟨_, rfl⟩
  rw [hzs] at hz
  obtain ⟨cl, hcl⟩ : ∃ cl, Value.func (.func 81) #[] #[.pointer (some ⟨w.heap.size, 0, none⟩), .pointer (some ⟨w.heap.size + 1, 0, none⟩)] = cl := ⟨_, rfl⟩
  obtain ⟨W, hW⟩ : ∃ W, (((w.alloc (.cells #[v] 30)).alloc (.cells #[.int .i64 c] 2)).alloc (.cells zs.toArray 88)).alloc (.cells #[cl] 135) = W := ⟨_, rfl⟩
  have a1 : (w.alloc (.cells #[v] 30)).heap.size = w.heap.size + 1 := by simp
  have a2 : ((w.alloc (.cells #[v] 30)).alloc (.cells #[.int .i64 c] 2)).heap.size = w.heap.size + 1 + 1 := by simp
  have a3 : (((w.alloc (.cells #[v] 30)).alloc (.cells #[.int .i64 c] 2)).alloc (.cells zs.toArray 88)).heap.size = w.heap.size + 1 + 1 + 1 := by simp
  have bW : Below w.heap.size w W := by rw [← hW]; go_grown
  have hP : W.heap[w.heap.size]? = some (.cells #[v] 30 (0, 0)) := by
    rw [← hW, old_block (by omega), old_block (by omega), old_block (by omega)]; exact heap_alloc_new w _
  have hC : W.heap[w.heap.size + 1]? = some (.cells #[.int .i64 c] 2 (0, 0)) := by
    rw [← hW, old_block (by omega), old_block (by omega)]
    have := heap_alloc_new (w.alloc (.cells #[v] 30)) (.cells #[.int .i64 c] 2)
    rwa [a1] at this
  have hZ : TabR W (w.heap.size + 1 + 1) 88 (List.replicate 4 zero7) := by
    unfold TabR
    rw [← hW, old_block (by omega), hzs]
    have := heap_alloc_new ((w.alloc (.cells #[v] 30)).alloc (.cells #[.int .i64 c] 2)) (.cells zs.toArray 88)
    rwa [a2] at this
  have hfix := fix4 ps c v w.heap.size (w.heap.size + 1) W hc hp h4 (readsP_below hv bW) hP hC
  have HW : Hid _ := hW
  have HCL : Hid _ := hcl
  have HZ : Hid (TabR W (w.heap.size + 1 + 1) 88 (List.replicate 4 zero7)) := hZ
  clear hW hcl hP hC hZ hzs a1 a2 a3
  go_enter Try.func53, Try.ntmps53
  go_wp2_with fail
  rw [← HCL.out] at HW
  rw [HW.out]
  go_at_call 83
  refine hfix.mono ?_
  rintro e w2 ⟨R, rfl, hRR, hI, b2⟩
  have HRR : Hid (Rows7 4 R) := hRR
  have HZ2 : Hid (TabR w2 (w.heap.size + 1 + 1) 88 (List.replicate 4 zero7)) := TabR.below HZ.out b2
  have HI : Hid _ := hI
  have L2 : Hid _ := bW.trans (b2.mono bW.size)
  clear hRR hI b2 hfix HW HCL
  go_wp2_with (first
    | ((with_reducible refine wpList_storeTabL (x := .tmp 4) (y := .tmp 9) isTab4 (w.heap.size + 1 + 1) (List.replicate 4 zero7) R ?hx ?hy (Rows7.zero 4) HRR.out HZ2.out ?_); (case hx => rfl); (case hy => rfl); intro w5 T5 g5; have HT5 : Hid (TabR w5 (w.heap.size + 1 + 1) 88 R) := T5; have G5 : Hid _ := g5; clear T5 g5; refine stop_of ?_))
  unfold Stop
  go_wp2
  refine bodyPost_tabR isTab4 rfl (w.heap.size + 1 + 1) R rfl HRR.out HT5.out rfl ⟨R, rfl, HRR.out, HI.out, ?_⟩
  exact L2.out.grown G5.out L2.out.size (fun k hk => by cases hk; omega)

/-- What listsOf has made: k lists, and room for n. -/
structure LO (w : World) (X : List (List Int)) (n k : Nat) (lv : Value) (vs : List Value) (wr : World) : Prop where
  row : wr.ownsRow w.heap.size 26 1 lv n (vs ++ List.replicate (n - k) (.slice none 0 0))
  len : vs.length = k
  each : ∀ j u, vs[j]? = some u → wr.ownsRow w.heap.size 2 1 u 7 (ints (X.getD j []))
  ap : ApartSS vs
  bl : Below w.heap.size w wr

theorem LO.below {w : World} {X : List (List Int)} {n k : Nat} {lv : Value} {vs : List Value} {wr wr' : World} (h : LO w X n k lv vs wr) (hb : Below wr.heap.size wr wr') : LO w X n k lv vs wr' :=
  ⟨own_kept h.row hb, h.len, fun j u hu => own_kept (h.each j u hu) hb, h.ap, h.bl.trans (hb.mono h.bl.size)⟩

theorem set_room (vs : List Value) (u z : Value) (m : Nat) (hm : 0 < m) : (vs ++ List.replicate m z).set vs.length u = (vs ++ [u]) ++ List.replicate (m - 1) z := by
  obtain ⟨m, rfl⟩ : ∃ q, m = q + 1 := ⟨m - 1, by omega⟩
  rw [List.replicate_succ, List.set_append_right _ _ (Nat.le_refl _)]
  simp

theorem LO.put {w : World} {X : List (List Int)} {n k g cap : Nat} {u : Value} {vs : List Value} {wr wa : World} (h : LO w X n k (.slice (some ⟨g, 0, none⟩) n cap) vs wr) (hk : k < n) (hb : Below wa.heap.size wa wr) (ha : LO w X n k (.slice (some ⟨g, 0, none⟩) n cap) vs wa)
    (hu : wr.ownsRow wa.heap.size 2 1 u 7 (ints (X.getD k []))) : LO w X n (k + 1) (.slice (some ⟨g, 0, none⟩) n cap) (vs ++ [u]) (wr.setCell ⟨g, k, none⟩ u) := by
  have hst := h.row.stored k u
  have hw : w.heap.size ≤ wa.heap.size := ha.bl.size
  have keep : ∀ (x : Value) (b : Nat) (ys : List Value), wr.ownsRow b 2 1 x 7 ys → (wr.setCell ⟨g, k, none⟩ u).ownsRow b 2 1 x 7 ys := fun x b ys ho =>
    own_same ho (fun q hq => hst.2.block q (ho.lt q hq).2 (fun e => row_kind ho h.row (by decide) hq e.symm))
  refine ⟨?_, by simp [h.len], fun j x hj => ?_, ?_, h.bl.grown hst.2 h.bl.size (fun q hq => by cases hq; exact (h.row.lt g rfl).1)⟩
  · have e := set_room vs u (.slice none 0 0) (n - k) (by omega)
    rw [h.len] at e
    have h1 := hst.1
    rw [e] at h1
    have e2 : n - k - 1 = n - (k + 1) := by omega
    rw [e2] at h1
    exact h1
  · by_cases hjl : j < vs.length
    · rw [List.getElem?_append_left hjl] at hj
      exact keep x _ _ (h.each j x hj)
    · rw [List.getElem?_append_right (by omega)] at hj
      have : j - vs.length = 0 := by
        have := (List.getElem?_eq_some_iff.1 hj).1
        simp at this; omega
      rw [this] at hj
      simp at hj
      subst hj
      have e : j = k := by have := h.len; omega
      rw [e]
      exact own_mono (keep u _ _ hu) hw
  · intro a b x y q hab hx hy hxq hyq
    have old : ∀ (m : Nat) (z : Value), m < vs.length → (vs ++ [u])[m]? = some z → vs[m]? = some z := fun m z hm hz => by rwa [List.getElem?_append_left hm] at hz
    have new : ∀ (m : Nat) (z : Value), ¬ m < vs.length → (vs ++ [u])[m]? = some z → z = u ∧ m = vs.length := fun m z hm hz => by
      rw [List.getElem?_append_right (by omega)] at hz
      have h0 : m - vs.length = 0 := by
        have := (List.getElem?_eq_some_iff.1 hz).1
        simp at this; omega
      rw [h0] at hz
      simp at hz
      exact ⟨hz.symm, by omega⟩
    by_cases h1 : a < vs.length
    · by_cases h2 : b < vs.length
      · exact h.ap a b x y q hab (old a x h1 hx) (old b y h2 hy) hxq hyq
      · obtain ⟨rfl, _⟩ := new b y h2 hy
        have := (hu.lt q hyq).1
        have := ((ha.each a x (old a x h1 hx)).lt q hxq).2
        omega
    · obtain ⟨rfl, e1⟩ := new a x h1 hx
      by_cases h2 : b < vs.length
      · have := (hu.lt q hxq).1
        have := ((ha.each b y (old b y h2 hy)).lt q hyq).2
        omega
      · obtain ⟨rfl, e2⟩ := new b y h2 hy
        omega

theorem LO.last {w : World} {X : List (List Int)} {n : Nat} {lv : Value} {vs : List Value} {wr : World} (h : LO w X n n lv vs wr) (hl : n ≤ X.length) (h7 : ∀ j, j < n → (X.getD j []).length = 7) : OwnSS wr w.heap.size lv vs (X.take n) := by
  have e : (X.take n).length = n := by simp; omega
  refine ⟨?_, fun j u xs hj hx => ?_⟩
  · rw [e]
    have := h.row
    simpa using this
  · have hjn : j < n := by have := (List.getElem?_eq_some_iff.1 hj).1; rw [h.len] at this; exact this
    have e2 : X.getD j [] = xs := by
      rw [List.getElem?_take, if_pos hjn] at hx
      rw [List.getD_eq_getElem?_getD, hx]; rfl
    have := h.each j u hj
    have h9 := h7 j hjn
    rw [e2] at this h9
    rw [h9]
    exact this

end Go.Proofs.Ytnjbihfceckpfaa
