/-
  Put together out of: LikeLists, NextBoth, InnerMath, TablesMath, OpenCode.
-/
import Derived.Test.YtmophdojojcpbaaG32ListsLaw
import Derived.Test.YtmophdojojcpbaaG09RelM
import Derived.Deep.RegionHeld3
import Derived.Test.YtmophdojojcpbaaNexts
import Derived.Test.YtmophdojojcpbaaTabEx
import Derived.Test.YtmophdojojcpbaaG21OpenProc
import Derived.WalkLawsBesides
/-
  laws.likeLists: both hold the same lists.
-/
namespace Go.Proofs.Ytmophdojojcpbaa
open Go.RowKit
set_option linter.unusedVariables false
set_option linter.unusedSimpArgs false
set_option maxHeartbeats 2000000

theorem likeLists (xss : List (List Int)) (v u : Value) (w : World) (hl : xss.length ≤ maxLen) (hx : ∀ xs ∈ xss, xs.length ≤ maxLen) (hv : ReadsSS w v xss) (hu : ReadsSS w u xss) :
    Calls Try.prog 12 #[v, u] w fun e w' => e = .returned (.bool true) ∧ Below w.heap.size w w' := by
  unfold maxLen at hl
  obtain ⟨ao, cap, rfl, hc⟩ := hv
  obtain ⟨bo, cap', rfl, hd⟩ := hu
  go_enter Try.func12, Try.ntmps12
  go_wp2
  go_loopw [5] (fun i wr => ∃ k : Nat, k ≤ xss.length ∧ i = .int .i64 k ∧ Below w.heap.size w wr) (fun i _ => xss.length - (intOf i).toNat)
  case atStart => exact ⟨0, Nat.zero_le _, rfl, Below.refl _ _⟩
  case round =>
    obtain ⟨k, hk, rfl, hb⟩ := hrel
    by_cases hlt : k < xss.length
    · obtain ⟨g, off, p, rfl, p0, rp⟩ := hc k xss[k] (by simp [hlt])
      obtain ⟨g', off', q, rfl, q0, rq⟩ := hd k xss[k] (by simp [hlt])
      have hxl := hx xss[k] (List.getElem_mem hlt)
      have pB := World.block_lt_of_cell? w _ p0
      have qB := World.block_lt_of_cell? w _ q0
      have sz := hb.size
      have p1 := (hb.cell pB).trans p0
      have q1 := (hb.cell qB).trans q0
      have pB' : g < wr.heap.size := by simp at pB; omega
      have qB' : g' < wr.heap.size := by simp at qB; omega
      have hlt' : (k : Int) < (xss.length : Int) := by omega
      have hk0 : (0 : Int) ≤ (k : Int) := by omega
      have he : ∀ W, Below wr.heap.size wr W → _ := fun W hW => likeInts xss[k] p q W hxl (reads_below (reads_below rp hb) hW) (reads_below (reads_below rq hb) hW)
      obtain ⟨pa, pn, pc, rfl⟩ : ∃ a n c, p = .slice a n c := by obtain ⟨a, c, rfl, _⟩ := rp; exact ⟨_, _, _, rfl⟩
      obtain ⟨qa, qn, qc, rfl⟩ : ∃ a n c, q = .slice a n c := by obtain ⟨a, c, rfl, _⟩ := rq; exact ⟨_, _, _, rfl⟩
      clear hc hd rp rq p0 q0
      go_wp2_with fail
      go_region_held3 (fun w' => w'.cell? ⟨g, off + k, none⟩ = some (.slice pa pn pc) ∧ w'.cell? ⟨g', off' + k, none⟩ = some (.slice qa qn qc)) (first | exact ⟨p1, q1⟩ | exact ⟨(hc4 _ _ pB').trans p1, (hc4 _ _ qB').trans q1⟩) (first
        | (go_at_call 46; refine (he _ (by go_grown)).mono ?_; rintro e w4 ⟨rfl, b4⟩; have M4 : Below wr.heap.size wr w4 := Below.trans (by go_grown) b4; obtain ⟨hc4, hf4⟩ := bcell M4))
      all_goals
        go_wp2
        go_roundw
        case rel => exact ⟨k + 1, by omega, by go_num, hb.trans (M4.mono sz)⟩
        case measure => simp [intOf]; omega
    · go_wp2
      go_ret
      exact ⟨rfl, hb⟩

end Go.Proofs.Ytmophdojojcpbaa

/-
  spec.Next, impl.Next.
-/
namespace Go.Proofs.Ytmophdojojcpbaa
open Go.RowKit
set_option linter.unusedVariables false
set_option maxHeartbeats 1000000

/-- What both answer. -/
def nextAns (ss : List Stm) (i : Int) : List Int := if hasS ss i then nextsS (ss.getD i.toNat ⟨0, 0, 0⟩) i else []

theorem nextAns_length (ss : List Stm) (i : Int) : (nextAns ss i).length ≤ 2 := by
  unfold nextAns
  split
  · exact nextsS_length _ _
  · simp

end Go.Proofs.Ytmophdojojcpbaa

/-
  FnInner, FnTables: what the laws ask, of the relations and tables (no dump is spoken of).
-/
namespace Go.Proofs.Ytmophdojojcpbaa
open Go.RowKit
set_option linter.unusedVariables false

theorem within_of {xs ys : List Int} (hx : Smalls xs) (hy : Smalls ys) (h : SubR xs ys) : withinAns xs ys = true := by
  have e : joi xs ys = ys := subR_eq (joi_smalls hx hy) hy (joi_least hx hy h (SubR.refl _)) (joi_r hx hy)
  unfold withinAns
  rw [relOk_iff.2 hx, relOk_iff.2 hy, e]
  simp
theorem sub_of_within {xs ys : List Int} (h : withinAns xs ys = true) : Smalls xs ∧ Smalls ys ∧ SubR xs ys := by
  unfold withinAns at h
  simp only [Bool.and_eq_true, decide_eq_true_eq] at h
  obtain ⟨⟨h1, h2⟩, h3⟩ := h
  have hx := relOk_iff.1 h1
  have hy := relOk_iff.1 h2
  refine ⟨hx, hy, ?_⟩
  have := joi_l hx hy
  rwa [h3] at this

/-- What the law FnInner meets where there are relations: those of procedure j. -/
structure InnL (ps : List (List Stm)) (c i : Int) (A : List (List Int)) (j : Nat) (ss : List Stm) : Prop where
  at' : ps[j]? = some ss
  num : i = j
  len : A.length = ss.length
  small : ss.length ≤ 12
  four : ps.length ≤ 4
  eff : ∀ k, k < ss.length → ∀ s, ss[k]? = some s → ∀ E, EffA ps c s E → E.length = 7 ∧ (compAns (A.getD k []) E).length = 7 ∧ (A.getD k []).length = 7 ∧ ∀ x ∈ nextAns ss (k : Nat), ∃ m : Nat, x = m ∧ m < A.length ∧ withinAns (compAns (A.getD k []) E) (A.getD m []) = true
  back : ∀ k, k < ss.length → ∀ s, ss[k]? = some s → (s.k = 9 → joinAns (backsK ss A k) (A.getD k []) = backsK ss A (k + 1)) ∧ (s.k ≠ 9 → backsK ss A k = backsK ss A (k + 1)) ∧ (backsK ss A k).length = 7
  unit : withinAns unitL (A.getD 0 []) = true
  tab : ∀ T, TabA ps c T → T.length = ps.length ∧ T.getD j [] = backsK ss A ss.length ∧ (backsK ss A ss.length).length = 7

theorem inner_asked {ps : List (List Stm)} {c i : Int} {A : List (List Int)} (h : InnA ps c i A) (h0 : 0 < A.length) : ∃ j ss, InnL ps c i A j ss := by
  have hb : inB10 ps c i = true := by
    cases hb : inB10 ps c i with
    | true => rfl
    | false => rw [h.2 hb] at h0; cases h0
  obtain ⟨T, hj, hTl, hT, hl, hR⟩ := h.1 hb
  obtain ⟨hok, j, rfl, hj'⟩ := inB10_parts hb
  obtain ⟨hpo, hc, hp, h4⟩ := okB_parts hok
  simp only [Int.toNat_natCast] at hl hR
  obtain ⟨h1, h12, _⟩ := procOk_parts (hp j hj').1
  have hS : ∀ k (hk : k < ps[j].length), CanS ps.length ps[j][k] := fun k hk => (hp j hj').2 _ (List.getElem_mem hk)
  have hE : ∀ k, k < ps[j].length → ∀ s, ps[j][k]? = some s → ∀ E, EffA ps c s E → E = effN c T ps[j] k := by
    intro k hk s hs E hEA
    have e : ps[j][k] = s := by simpa [hk] using hs
    subst e
    have hcan : canB ps c ps[j][k] = true := by
      have := hS k hk
      unfold canB
      rw [hok, this.1]
      by_cases h8 : ps[j][k].k = 8
      · have h9 := this.2 h8
        simp [h9]
      · simp [h8]
    obtain ⟨T', hl', hT', rfl⟩ := hEA.1 hcan
    rw [effN_eq hk, tables_eq hT' hT hl' hTl]
  refine ⟨j, ps[j], ⟨by simp [hj'], rfl, hl, h12, h4, ?_, ?_, ?_, ?_⟩⟩
  · intro k hk s hs E hEA
    have hEe := hE k hk s hs E hEA
    have hsm : Smalls E := by rw [hEe]; exact effN_smalls hc hp hT.good hj' hk
    have gk := hR.good k hk
    have ec : compAns (A.getD k []) E = comp (A.getD k []) E := by
      unfold compAns
      rw [relOk_iff.2 gk, relOk_iff.2 hsm]
      simp
    rw [ec]
    refine ⟨hsm.1, (comp_smalls gk hsm).1, gk.1, fun x hx => ?_⟩
    have hns : nextAns ps[j] (k : Nat) = nextsS ps[j][k] k := by
      unfold nextAns
      have : hasS ps[j] (k : Nat) = true := by
        unfold hasS wiB
        simp [(hp j hj').1, hk]
      rw [this]
      simp [List.getD, hk]
    rw [hns] at hx
    obtain ⟨m, rfl, hm⟩ := nextsS_in (hp j hj').1 hk x hx
    refine ⟨m, rfl, by omega, within_of (comp_smalls gk hsm) (hR.good m hm) ?_⟩
    have := hR.clo.2 k hk _ hx
    rw [hEe]
    simpa using this
  · intro k hk s hs
    have e : ps[j][k] = s := by simpa [hk] using hs
    have gk := hR.good k hk
    have gb := backsK_smalls hR.good k (Nat.le_of_lt hk)
    have eg : ps[j].getD k ⟨0, 0, 0⟩ = s := by simp [List.getD, hk, e]
    refine ⟨fun h9 => ?_, fun h9 => ?_, gb.1⟩
    · unfold joinAns
      rw [relOk_iff.2 gk, relOk_iff.2 gb, backsK, eg, if_pos h9]
      simp
    · rw [backsK, eg, if_neg h9]
  · exact within_of unit_smalls (hR.good 0 (by omega)) hR.clo.1
  · intro U hU
    obtain ⟨hUl, hUt⟩ := hU.1 hok
    refine ⟨hUl, ?_, (backsK_smalls hR.good _ (Nat.le_refl _)).1⟩
    have e : U = T := tables_eq hUt hT hUl hTl
    subst e
    obtain ⟨R, hR', e2⟩ := hT.self j hj'
    rw [e2]
    exact backsK_eq (fun q hq => hR'.uniq hR hq) _ (Nat.le_refl _)

end Go.Proofs.Ytmophdojojcpbaa

/-
  FnTables: its mathematics.
-/
namespace Go.Proofs.Ytmophdojojcpbaa
open Go.RowKit
set_option linter.unusedVariables false

theorem withB_all {T X : List (List Int)} : ∀ {n : Nat}, withB T X n = true → ∀ k, k < n → withinAns (T.getD k []) (X.getD k []) = true
  | 0, _, k, hk => by omega
  | n + 1, h, k, hk => by
    unfold withB at h
    simp only [Bool.and_eq_true] at h
    by_cases e : k = n
    · subst e; exact h.2
    · exact withB_all h.1 k (by omega)
theorem withB_of {T X : List (List Int)} : ∀ {n : Nat}, (∀ k, k < n → withinAns (T.getD k []) (X.getD k []) = true) → withB T X n = true
  | 0, _ => rfl
  | n + 1, h => by
    unfold withB
    rw [withB_of (fun k hk => h k (by omega)), h n (by omega)]
    rfl

theorem hold_least {qs : List (List Stm)} {c : Int} {X T : List (List Int)} (h : HoldA qs c X true) (hT : TabA qs c T) : T.length = X.length ∧ ∀ i, i < T.length → withinAns (T.getD i []) (X.getD i []) = true ∧ (T.getD i []).length ≤ 7 := by
  have hr : relsB qs c X = true := by
    cases hr : relsB qs c X with
    | true => rfl
    | false => have := h.2 hr; cases this
  obtain ⟨hok, hXl, hXg, _⟩ := relsB_parts hr
  obtain ⟨T', hl', hR, hw⟩ := h.1 hr
  obtain ⟨hTl, hTt⟩ := hT.1 hok
  have hs : SubN qs.length T' X := fun i hi => (sub_of_within (withB_all hw.symm i hi)).2.2
  have hlow := hTt.low X T' hXg hR hs
  refine ⟨by omega, fun i hi => ⟨within_of (hTt.good i (by omega)) (hXg i (by omega)) (hlow i (by omega)), ?_⟩⟩
  have := (hTt.good i (by omega)).1
  omega

theorem tab_holds {ps : List (List Stm)} {c : Int} {A : List (List Int)} {b : Bool} (hA : TabA ps c A) (h0 : 0 < A.length) (h : HoldA ps c A b) : b = true ∧ A.length = ps.length ∧ ∀ i, i < A.length → relOk (A.getD i []) = true := by
  have hok : okB ps c = true := by
    cases hok : okB ps c with
    | true => rfl
    | false => rw [hA.2 hok] at h0; cases h0
  obtain ⟨hl, ht⟩ := hA.1 hok
  have hrel : ∀ i, i < A.length → relOk (A.getD i []) = true := fun i hi => relOk_iff.2 (ht.good i (by omega))
  have hr : relsB ps c A = true := by
    unfold relsB
    rw [hok, hl]
    simp only [decide_true, Bool.true_and, List.all_eq_true]
    intro x hx
    obtain ⟨j, hj, rfl⟩ := List.getElem_of_mem hx
    have := hrel j hj
    simpa [List.getD, hj] using this
  obtain ⟨T', hl', hR, hw⟩ := h.1 hr
  have e : T' = A := round_same hR ht.self hl' hl
  subst e
  refine ⟨?_, hl, hrel⟩
  rw [hw]
  exact withB_of (fun k hk => within_of (ht.good k hk) (ht.good k hk) (SubR.refl _))

theorem programOk_pos {ps : List (List Stm)} (h : programOk ps = true) : 1 ≤ ps.length := by
  unfold programOk at h
  simp only [Bool.and_eq_true, decide_eq_true_eq] at h
  omega

theorem tab_none {ps : List (List Stm)} {c : Int} {A : List (List Int)} (hA : TabA ps c A) (h0 : A.length = 0) : programOk ps = false ∨ c < 1 ∨ 2 < c := by
  cases hok : okB ps c with
  | true =>
    obtain ⟨hl, _⟩ := hA.1 hok
    have h1 := (okB_parts hok).1
    have := (programOk_pos h1)
    omega
  | false =>
    unfold okB at hok
    cases hp : programOk ps with
    | false => exact .inl rfl
    | true =>
      rw [hp] at hok
      simp at hok
      refine .inr ?_
      by_cases h1 : c < 1
      · exact .inl h1
      · exact .inr (by have h2 : ¬ c = 1 := hok.1; have h3 : ¬ c = 2 := hok.2; omega)

end Go.Proofs.Ytmophdojojcpbaa

/-
  The code that came in; laws.big.
-/
namespace Go.Proofs.Ytmophdojojcpbaa
open Go.ChangeShapes Go.WideShapes Go.ChangeAt Go.RowKit
set_option linter.unusedVariables false
set_option maxHeartbeats 2000000

theorem lawBig (bs : List Int) (v : Value) (w : World) (hl : bs.length ≤ maxLen) (hv : Reads w v (bs.map (Value.int .u8))) :
    Calls Try.prog 7 #[v] w fun e w' => e = .returned (.bool (decide ((4096 : Int) < (bs.length : Int)))) ∧ w = w' := by
  obtain ⟨ao, cap, rfl, hc⟩ := hv
  simp only [List.length_map]
  go_enter Try.func7, Try.ntmps7
  go_wp2
  go_ret
  exact ⟨rfl, rfl⟩

theorem open_code {H : Type} {enc : TypeId × Value → H} {P : Program} {W : World} {base : Nat} {held : Bool} {t e : TypeId} {r : Reach} {b0 : Nat} {v : Value} {d : DataW H} {p : List MemPlace}
    (ht : P.underlying t = some (.slice e)) (he : P.underlying e = some (.int .u8)) (hc : P.cellsOf e = 1) (hv : Value.okWide P W r b0 t v) (h : DataW.Trod enc P W base (fun _ => true) held t v d p) :
    ∃ bs : List Int, Reads W v (bs.map (Value.int .u8)) ∧ bs.length ≤ maxLen ∧ ∀ x ∈ bs, 0 ≤ x ∧ x ≤ 255 := by
  obtain ⟨a0, len, cap, rfl⟩ := okWide_slice ht hv
  obtain ⟨fuel, hf⟩ := h
  rcases open_ints ht he hc hf with ⟨hcs, _⟩ | ⟨a, len', cap', zs, hcs, _, hl, hm, hz, _, hcell, hwz⟩
  · simp [Value.cells] at hcs
    obtain ⟨rfl, rfl, rfl⟩ := hcs
    exact ⟨[], ⟨none, 0, rfl, fun j x hx => by simp at hx⟩, by simp, by simp⟩
  · simp [Value.cells] at hcs
    obtain ⟨rfl, rfl, rfl⟩ := hcs
    simp only [if_true] at hz
    have hlen : (zs.take len).length = len := by simp; omega
    refine ⟨zs.take len, ⟨some a, cap, by rw [List.length_map, hlen], ?_⟩, by omega, fun x hx => ?_⟩
    · intro j x hx
      have hj : j < len := by
        rcases Nat.lt_or_ge j len with h | h
        · exact h
        · rw [List.getElem?_eq_none (by simp; omega)] at hx; simp at hx
      have hcj := hcell j (by omega)
      obtain ⟨b, off, spot⟩ := a
      have hspot : spot = none := by
        have h0 := hcell 0 (by omega)
        simpa [Addr.add] using World.cell?_spot h0
      subst hspot
      refine ⟨b, off, rfl, ?_⟩
      have hadd : (⟨b, off, none⟩ : Addr).add j = ⟨b, off + j, none⟩ := by unfold Addr.add; split <;> simp_all
      rw [hadd] at hcj
      rw [hcj]
      have hjs : j < zs.length := by omega
      simp [hj, List.getElem?_eq_getElem hjs] at hx
      rw [List.getD_eq_getElem?_getD, List.getElem?_eq_getElem hjs]
      simp [hx]
    · have := hwz x (List.mem_of_mem_take hx)
      simp only [Lit.wf, Bool.and_eq_true, decide_eq_true_eq] at this
      have h1 : IntKind.u8.min = 0 := by decide
      have h2 : IntKind.u8.max = 255 := by decide
      rw [h1, h2] at this
      exact this

theorem cellsByte : Try.prog.cellsOf 5 = 1 := by kernel_rfl

end Go.Proofs.Ytmophdojojcpbaa
