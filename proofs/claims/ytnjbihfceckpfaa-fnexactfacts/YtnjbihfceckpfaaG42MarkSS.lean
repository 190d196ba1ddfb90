/-
  Put together out of: CanSum, CloneI, MarkSS.
-/
import Derived.Test.YtnjbihfceckpfaaTabEx
import Derived.Test.YtnjbihfceckpfaaFlowImpl
import Derived.Test.YtnjbihfceckpfaaG25ListsLaw
import Derived.ArgAppend
/-
  impl.canSum: are program and client right?
-/
namespace Go.Proofs.Ytnjbihfceckpfaa
open Go.RowKit
set_option linter.unusedVariables false
set_option linter.unusedSimpArgs false
set_option maxHeartbeats 4000000
set_option maxRecDepth 20000

theorem canSum (ps : List (List Stm)) (c : Int) (v : Value) (w : World) (hl : ps.length ≤ maxLen) (hp : ∀ p ∈ ps, p.length ≤ maxLen) (hv : ReadsP w v ps) :
    Calls Try.prog 44 #[.agg #[v], .int .i64 c] w fun e w' => e = .returned (.bool (okB ps c)) ∧ Below w.heap.size w w' := by
  have b0 : Below w.heap.size w (w.alloc (.cells #[v] 30)) := by go_grown
  have H0 := heap_alloc_new w (.cells #[v] 30)
  by_cases h2 : c = 1 ∨ c = 2
  · have hf := flowsOf c h2
    have hpo := fun W h => implProgramOk ps v W hl hp h
    have e : okB ps c = programOk ps := by simp [okB, h2]
    rw [e]
    unfold flowsV at hf
    generalize markFn c = m at *
    clear e h2
    go_enter Try.func44, Try.ntmps44
    go_wp2_with fail
    go_at_call 75
    refine (hf _).mono ?_
    rintro e w1 ⟨rfl, b1⟩
    have B1 := b0.trans (b1.mono b0.size)
    have q1 := (b1.block w.heap.size (by simp)).trans H0
    have hlt : w.heap.size < w1.heap.size := (Array.getElem?_eq_some_iff.1 q1).1
    have q2 : ∀ o, (w1.alloc o).cell? ⟨w.heap.size, 0, none⟩ = some v := fun o => (one_cell ((old_block hlt).trans q1)).1
    have hpo1 := fun o => hpo (w1.alloc o) (readsP_below hv (B1.alloc B1.size _))
    clear hf H0 b1 q1
    go_wp2_with (go_at_call 76; refine (hpo1 _).mono ?_; rintro e w2 ⟨rfl, b2⟩)
    go_ret
    exact ⟨rfl, (B1.alloc B1.size _).trans (b2.mono (by have := B1.size; simp; omega))⟩
  · have e : okB ps c = false := by simp [okB, h2]
    rw [e]
    have hf := flowsOfNo c (fun h => h2 (.inl h)) (fun h => h2 (.inr h))
    clear e h2
    go_enter Try.func44, Try.ntmps44
    go_wp2_with (go_at_call 75; refine (hf _).mono ?_; rintro e w1 ⟨rfl, b1⟩)
    go_ret
    have B1 := b0.trans (b1.mono b0.size)
    exact ⟨rfl, B1.alloc B1.size _⟩

end Go.Proofs.Ytnjbihfceckpfaa

/-
  slices.Clone over int64, of a list that is not empty.
-/
namespace Go.Proofs.Ytnjbihfceckpfaa
open Go.RowKit
set_option linter.unusedVariables false
set_option maxHeartbeats 1000000
set_option maxRecDepth 20000

/-- Lists of numbers as Go's. -/
def castLL (c : List (List Nat)) : List (List Int) := c.map (fun g => g.map (fun x : Nat => (x : Int)))

end Go.Proofs.Ytnjbihfceckpfaa

/-
  laws.markInt64SS, laws.heldInt64SS: lists of lists whose rows are all apart.
-/
namespace Go.Proofs.Ytnjbihfceckpfaa
open Go.RowKit
set_option linter.unusedVariables false
set_option maxHeartbeats 1000000

/-- How many numbers there are in all lists. -/
def tot : List (List Int) → Nat
  | [] => 0
  | xs :: xss => xs.length + tot xss

theorem tot_append : ∀ (a b : List (List Int)), tot (a ++ b) = tot a + tot b
  | [], b => by simp [tot]
  | x :: a, b => by simp [tot, tot_append a b]; omega

theorem tot_take (xss : List (List Int)) (j : Nat) (h : j < xss.length) : tot (xss.take (j + 1)) = tot (xss.take j) + xss[j].length := by
  rw [List.take_succ_eq_append_getElem h, tot_append]
  simp [tot]

theorem tot_le : ∀ (xss : List (List Int)), (∀ xs ∈ xss, xs.length ≤ 1000) → tot xss ≤ 1000 * xss.length
  | [], _ => by simp [tot]
  | x :: xss, h => by
    have h1 := tot_le xss (fun y hy => h y (by simp [hy]))
    have h2 := h x (by simp)
    simp only [tot, List.length_cons]
    omega

/-- No two rows are one. -/
def ApartSS (us : List Value) : Prop := ∀ (i j : Nat) (a b : Value) (k : Nat), i ≠ j → us[i]? = some a → us[j]? = some b → a.ownBlock = some k → b.ownBlock ≠ some k

/-- The rows of the first m lists bear their marks, the others hold what they held. -/
structure MarkedSS (base : Nat) (us : List Value) (xss : List (List Int)) (k : Int) (m : Nat) (w : World) : Prop where
  done : ∀ (j : Nat) (u : Value) (hj : j < xss.length), j < m → us[j]? = some u → w.ownsRow base 2 1 u xss[j].length (markI (k + tot (xss.take j)) xss[j].length)
  todo : ∀ (j : Nat) (u : Value) (hj : j < xss.length), m ≤ j → us[j]? = some u → w.ownsRow base 2 1 u xss[j].length (ints xss[j])

theorem markInt64SS (xss : List (List Int)) (v : Value) (us : List Value) (base : Nat) (k : Int) (w : World) (hl : xss.length ≤ 100000) (hx : ∀ xs ∈ xss, xs.length ≤ 1000) (h1 : 1 ≤ k) (h2 : k ≤ 1000000) (hbase : base ≤ w.heap.size)
    (hv : OwnSS w base v us xss) (ha : ApartSS us) :
    Calls Try.prog 21 #[v, .int .i64 k] w fun e w' => e = .returned (.int .i64 (k + tot xss)) ∧ w'.ownsRow base 26 1 v xss.length us ∧ MarkedSS base us xss k xss.length w' ∧ Below base w w' := by
  have hlu := hv.len
  have htl := tot_le xss hx
  rcases hv.row.2 with ⟨rfl, hn⟩ | ⟨g, cap, cur, rfl, hbg, _⟩
  · have hxx : xss = [] := List.eq_nil_of_length_eq_zero hn
    subst hxx
    go_enter Try.func21, Try.ntmps21
    go_wp2
    refine wp_loop_rounds 1 ?_
    rw [rounds_succ]
    go_wp2
    go_ret
    exact ⟨ret_int (by simp [tot]), hv.row, ⟨fun j u hj => by simp at hj, fun j u hj => by simp at hj⟩, Below.refl _ _⟩
  · go_enter Try.func21, Try.ntmps21
    go_wp2
    go_loopw [1, 5] (fun q i wr => ∃ j : Nat, j ≤ xss.length ∧ i = .int .i64 j ∧ q = .int .i64 (k + tot (xss.take j)) ∧ wr.ownsRow base 26 1 (.slice (some ⟨g, 0, none⟩) xss.length cap) xss.length us ∧ MarkedSS base us xss k j wr ∧ Below base w wr) (fun _ i _ => xss.length - (intOf i).toNat)
    case atStart => exact ⟨0, Nat.zero_le _, rfl, by simp [tot], hv.row, ⟨fun j u hj h => by omega, fun j u hj _ hu => hv.each j u _ hu (by simp [hj])⟩, Below.refl _ _⟩
    case round =>
      obtain ⟨j, hj, rfl, rfl, hrow, hM, hb⟩ := hrel
      by_cases hlt : j < xss.length
      · have hlt' : (j : Int) < (xss.length : Int) := by omega
        have hju : us[j]? = some (us[j]'(by omega)) := by simp [hlu, hlt]
        have hcell : wr.cell? ⟨g, j, none⟩ = some (us[j]'(by omega)) := by rw [hrow.cellAt j (by omega)]; exact hju
        have hown := hM.todo j _ hlt (Nat.le_refl _) hju
        have hxl := hx xss[j] (List.getElem_mem hlt)
        have htk := tot_take xss j hlt
        have htt : tot (xss.take j) ≤ 1000 * j := by
          have := tot_le (xss.take j) (fun y hy => hx y (List.mem_of_mem_take hy))
          have h3 : (xss.take j).length ≤ j := List.length_take_le _ _
          omega
        have hmk := markInt64S (ints xss[j]) (us[j]'(by omega)) base (k + tot (xss.take j)) wr (by rw [ints_length]; omega) (by omega) (by omega) (Nat.le_trans hbase hb.size) (by rw [ints_length]; exact hown)
        rw [ints_length] at hmk
        have HM : Hid _ := hM
        have HJ : Hid _ := hju
        clear hM
        have hset : ∀ (w' : World), wr.grownBy w' (us[j]'(by omega)).ownBlock → w'.ownsRow base 2 1 (us[j]'(by omega)) xss[j].length (markI (k + tot (xss.take j)) xss[j].length) →
            w'.ownsRow base 26 1 (.slice (some ⟨g, 0, none⟩) xss.length cap) xss.length us ∧ MarkedSS base us xss k (j + 1) w' := by
          intro w' hg ho
          refine ⟨own_same hrow (fun q hq => hg.block q (hrow.lt q hq).2 (fun e => row_kind hrow hown (by decide) hq e.symm)), fun i u hi him hu => ?_, fun i u hi him hu => ?_⟩
          · by_cases hij : i = j
            · subst hij
              rw [HJ.out] at hu
              obtain rfl := Option.some.inj hu
              exact ho
            · have h3 := HM.out.done i u hi (by omega) hu
              exact own_same h3 (fun q hq => hg.block q (h3.lt q hq).2 (fun e => ha i j u _ q hij hu HJ.out hq e.symm))
          · have h3 := HM.out.todo i u hi (by omega) hu
            exact own_same h3 (fun q hq => hg.block q (h3.lt q hq).2 (fun e => ha i j u _ q (by omega) hu HJ.out hq e.symm))
        have HSET : Hid _ := hset
        clear hset hju hown
        generalize us[j]'(by omega) = u at *
        generalize markI (k + tot (xss.take j)) xss[j].length = ms at *
        have HTK : Hid _ := htk
        clear htk
        generalize xss[j].length = xl at *
        generalize tot (xss.take j) = tj at *
        go_wp2_with fail
        go_at_call 16
        refine hmk.mono ?_
        rintro e w2 ⟨rfl, o2, b2, g2⟩
        clear hmk
        obtain ⟨hrow2, hM2⟩ := HSET.out w2 g2 o2
        go_wp2
        go_roundw
        case rel => exact ⟨j + 1, by omega, by go_num, by rw [HTK.out]; go_num, hrow2, hM2, hb.trans (b2.mono (by omega))⟩
        case measure => simp [intOf]; omega
      · obtain rfl : j = xss.length := by omega
        go_wp2
        go_ret
        exact ⟨by rw [List.take_length]; rfl, hrow, hM, hb⟩

theorem heldInt64SS (xss : List (List Int)) (v : Value) (us : List Value) (base : Nat) (k : Int) (w : World) (hl : xss.length ≤ 100000) (hx : ∀ xs ∈ xss, xs.length ≤ 1000) (h1 : 1 ≤ k) (h2 : k ≤ 1000000)
    (hrow : w.ownsRow base 26 1 v xss.length us) (hM : MarkedSS base us xss k xss.length w) :
    Calls Try.prog 22 #[v, .int .i64 k] w fun e w' => e = .returned (.int .i64 (k + tot xss)) ∧ Below w.heap.size w w' := by
  have hlu : us.length = xss.length := by have := hrow.1; omega
  have htl := tot_le xss hx
  rcases hrow.2 with ⟨rfl, hn⟩ | ⟨g, cap, cur, rfl, hbg, _⟩
  · have hxx : xss = [] := List.eq_nil_of_length_eq_zero hn
    subst hxx
    go_enter Try.func22, Try.ntmps22
    go_wp2
    refine wp_loop_rounds 1 ?_
    rw [rounds_succ]
    go_wp2
    go_ret
    exact ⟨ret_int (by simp [tot]), Below.refl _ _⟩
  · go_enter Try.func22, Try.ntmps22
    go_wp2
    go_loopw [1, 5] (fun q i wr => ∃ j : Nat, j ≤ xss.length ∧ i = .int .i64 j ∧ q = .int .i64 (k + tot (xss.take j)) ∧ Below w.heap.size w wr) (fun _ i _ => xss.length - (intOf i).toNat)
    case atStart => exact ⟨0, Nat.zero_le _, rfl, by simp [tot], Below.refl _ _⟩
    case round =>
      obtain ⟨j, hj, rfl, rfl, hb⟩ := hrel
      by_cases hlt : j < xss.length
      · have hlt' : (j : Int) < (xss.length : Int) := by omega
        have hju : us[j]? = some (us[j]'(by omega)) := by simp [hlu, hlt]
        have hr' := own_kept hrow hb
        have hcell : wr.cell? ⟨g, j, none⟩ = some (us[j]'(by omega)) := by rw [hr'.cellAt j (by omega)]; exact hju
        have hown := own_kept (hM.done j _ hlt hlt hju) hb
        have hxl := hx xss[j] (List.getElem_mem hlt)
        have htk := tot_take xss j hlt
        have htt : tot (xss.take j) ≤ 1000 * j := by
          have := tot_le (xss.take j) (fun y hy => hx y (List.mem_of_mem_take hy))
          have h3 : (xss.take j).length ≤ j := List.length_take_le _ _
          omega
        have hmk := heldInt64S xss[j].length (us[j]'(by omega)) (k + tot (xss.take j)) wr (by omega) (by omega) (by omega) (reads_own hown)
        clear hju hown
        generalize us[j]'(by omega) = u at *
        have HTK : Hid _ := htk
        clear htk
        generalize xss[j].length = xl at *
        generalize tot (xss.take j) = tj at *
        have hneg : decide (k + (tj : Int) + (xl : Int) < 0) = false := by simp; omega
        go_wp2_with fail
        go_at_call 17
        refine hmk.mono ?_
        rintro e w2 ⟨rfl, b2⟩
        clear hmk
        go_wp2
        go_roundw
        case rel => exact ⟨j + 1, by omega, by go_num, by rw [HTK.out]; go_num, hb.trans (b2.mono hb.size)⟩
        case measure => simp [intOf]; omega
      · obtain rfl : j = xss.length := by omega
        go_wp2
        go_ret
        exact ⟨by rw [List.take_length]; rfl, hb⟩

end Go.Proofs.Ytnjbihfceckpfaa
