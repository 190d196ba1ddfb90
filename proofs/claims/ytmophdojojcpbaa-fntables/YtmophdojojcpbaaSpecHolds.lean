/-
  Chapter 10, the specification's side: Holds.
-/
import Derived.Test.YtmophdojojcpbaaG39FnKit
namespace Go.Proofs.Ytmophdojojcpbaa
open Go.RowKit
set_option linter.unusedVariables false
set_option linter.unusedSimpArgs false
set_option maxHeartbeats 4000000
set_option maxRecDepth 20000

theorem withB_false {T X : List (List Int)} : ∀ {n k : Nat}, k ≤ n → withB T X k = false → withB T X n = false
  | 0, k, h, e => by
    obtain rfl : k = 0 := by omega
    exact e
  | n + 1, k, h, e => by
    by_cases hk : k = n + 1
    · subst hk; exact e
    · rw [withB, withB_false (n := n) (by omega) e]; rfl

theorem specHolds (ps : List (List Stm)) (c : Int) (X : List (List Int)) (b : Bool) (hA : HoldA ps c X b) (v xv : Value) (w : World) (hl : ps.length ≤ maxLen) (hp : ∀ p ∈ ps, p.length ≤ maxLen) (hX : X.length ≤ maxLen) (hXx : ∀ x ∈ X, x.length ≤ maxLen) (hv : ReadsP w v ps) (hx : ReadsSS w xv X) :
    Calls Try.prog 14 #[.agg #[v], .int .i64 c, xv] w fun e w' => e = .returned (.bool b) ∧ Below w.heap.size w w' := by
  have hb0 : Below w.heap.size w (w.alloc (.cells #[v] 26)) := by go_grown
  have hpo := specProgramOk ps v _ hl hp (readsP_below hv hb0)
  have H0 := heap_alloc_new w (.cells #[v] 26)
  have s0 : (w.alloc (.cells #[v] 26)).heap.size = w.heap.size + 1 := by simp
  have hcl := l7Client c
  obtain ⟨xo, xc, rfl, hxc⟩ := id hx
  obtain ⟨ao, cap, rfl, hcell⟩ := id hv
  cases h1 : programOk ps
  · rw [h1] at hpo
    obtain rfl := hA.2 (by simp [relsB, okB, h1])
    go_enter Try.func14, Try.ntmps14
    go_wp2_with (first
      | (go_at_call 16; refine hpo.mono ?_; rintro e w2 ⟨rfl, b2⟩))
    go_ret
    exact ⟨rfl, hb0.trans (b2.mono hb0.size)⟩
  rw [h1] at hpo
  by_cases h2 : c = 1 ∨ c = 2
  · rw [decide_eq_true h2] at hcl
    have hok : okB ps c = true := by simp [okB, h1, h2]
    obtain ⟨_, hc, hcp, h4⟩ := okB_parts hok
    go_enter Try.func14, Try.ntmps14
    go_wp2_with fail
    go_at_call 16
    refine hpo.mono ?_
    rintro e w2 ⟨rfl, b2⟩
    have L2 := hb0.trans (b2.mono hb0.size)
    have P2 := (b2.block w.heap.size (by omega)).trans H0
    obtain ⟨c2, f2⟩ := one_cell P2
    have HP2 : Hid _ := P2
    clear hpo H0 P2
    by_cases hlen : X.length = ps.length
    · have hlen' : (X.length : Int) = (ps.length : Int) := by omega
      have HL : Hid _ := hlen
      clear hlen
      go_wp2_with (first
        | (go_at_call 47; refine (hcl _).mono ?_; rintro e w3 ⟨rfl, rfl⟩))
      clear hlen'
      have hX4 : X.length ≤ 4 := by rw [HL.out]; exact h4
      go_loopw [7] (fun i wr => ∃ k : Nat, k ≤ X.length ∧ i = .int .i64 k ∧ (∀ x ∈ X.take k, relOk x = true) ∧ Below w2.heap.size w2 wr) (fun i _ => X.length - (intOf i).toNat)
      case atStart => exact ⟨0, Nat.zero_le _, rfl, by simp, Below.refl _ _⟩
      case round =>
        obtain ⟨k, hk, rfl, hrk, B⟩ := hrel
        by_cases hlt : k < X.length
        · have hlt' : (k : Int) < (X.length : Int) := by omega
          have LB := L2.trans (B.mono L2.size)
          obtain ⟨gx, ox, ux, rfl, cx, hux⟩ := readsSS_at (readsSS_below hx LB) hlt
          have hek : X.getD k [] = X[k] := by simp [List.getD, hlt]
          rw [hek] at hux
          have hro := specRelOk X[k] ux wr (hXx _ (List.getElem_mem hlt)) hux
          have HRK : Hid _ := hrk
          have HE : Hid (∀ x ∈ X.take (k + 1), x ∈ X.take k ∨ x = X[k]) := fun x hx => by
            rw [List.take_succ_eq_append_getElem hlt] at hx
            rcases List.mem_append.1 hx with h | h
            · exact .inl h
            · exact .inr (List.mem_singleton.1 h)
          clear hrk hek
          cases hr : relOk X[k]
          · rw [hr] at hro
            obtain rfl := hA.2 (by
              simp only [relsB, Bool.and_eq_false_iff, List.all_eq_false]
              exact .inr (.inr ⟨X[k], List.getElem_mem hlt, by simp [hr]⟩))
            go_wp2_with (go_at_call 49; refine hro.mono ?_; rintro e w3 ⟨rfl, b3⟩)
            go_ret
            exact ⟨rfl, LB.trans (b3.mono LB.size)⟩
          · rw [hr] at hro
            have HR : Hid _ := hr
            clear hr
            go_wp2_with (go_at_call 49; refine hro.mono ?_; rintro e w3 ⟨rfl, b3⟩)
            go_roundw
            case rel =>
              refine ⟨k + 1, by omega, by go_num, fun x hx => ?_, B.trans (b3.mono B.size)⟩
              rcases HE.out x hx with h | h
              · exact HRK.out x h
              · rw [h]; exact HR.out
            case measure => simp [intOf]; omega
        · have hkk : k = X.length := by omega
          subst hkk
          rw [List.take_length] at hrk
          have LB := L2.trans (B.mono L2.size)
          have hrb : relsB ps c X = true := by
            simp only [relsB, hok, Bool.true_and, Bool.and_eq_true, decide_eq_true_eq, List.all_eq_true]
            exact ⟨HL.out, hrk⟩
          obtain ⟨-, -, hgood, -⟩ := relsB_parts hrb
          obtain ⟨T0, hT0l, hT0, hbe⟩ := hA.1 hrb
          have P3 := (B.block _ (Array.getElem?_eq_some_iff.1 HP2.out).1).trans HP2.out
          obtain ⟨c3, f3⟩ := one_cell P3
          have hrd := l10Round ps c X _ (.slice xo X.length xc) wr hc hcp h4 HL.out hgood (readsP_below hv LB) (readsSS_below hx LB)
          have HRK : Hid _ := hrk
          have HBE : Hid _ := hbe
          clear hrk hA hrb hbe P3 c2 f2
          go_wp2_with fail
          go_at_call 50
          refine hrd.mono ?_
          rintro e w3 ⟨T, a3, u3, rfl, hTl, hT, o3, b3⟩
          obtain rfl := round_same hT hT0 hTl hT0l
          clear hrd c3 f3 hT0 hT0l
          have L3 := LB.trans (b3.mono LB.size)
          have hrT := o3.reads
          obtain ⟨to, tc, hta, _⟩ := id hrT
          subst hta
          have HTl : Hid _ := hTl
          have HT : Hid (IsRound c ps X T) := hT
          have hT4 : T.length ≤ 4 := by rw [hTl]; exact h4
          clear hTl hT
          go_wp2_with fail
          go_loopw [9] (fun i wr => ∃ k : Nat, k ≤ T.length ∧ i = .int .i64 k ∧ withB T X k = true ∧ Below w3.heap.size w3 wr) (fun i _ => T.length - (intOf i).toNat)
          case atStart => exact ⟨0, Nat.zero_le _, rfl, rfl, Below.refl _ _⟩
          case round =>
            obtain ⟨k, hk, rfl, hwk, B3⟩ := hrel
            by_cases hlt : k < T.length
            · have hlt' : (k : Int) < (T.length : Int) := by omega
              have hltX : k < X.length := by have := HTl.out; have := HL.out; omega
              have hltX' : (k : Int) < (X.length : Int) := by omega
              have LB3 := L3.trans (B3.mono L3.size)
              obtain ⟨gx, ox, ux, rfl, cx, hux⟩ := readsSS_at (readsSS_below hx LB3) hltX
              obtain ⟨gt, ot, ut, rfl, ct, hut⟩ := readsSS_at (readsSS_below hrT B3) hlt
              have hk4 : k < ps.length := by have := HTl.out; omega
              have gT := (HT.out.good k hk4).1
              have gX := (hgood k hk4).1
              have hwi := fun W (hW : Below wr.heap.size wr W) => specWithin (T.getD k []) (X.getD k []) ut ux W (by rw [gT]; unfold maxLen; omega) (by rw [gX]; unfold maxLen; omega) (reads_below hut hW) (reads_below hux hW)
              have z1 := World.block_lt_of_cell? wr _ cx
              have z2 := World.block_lt_of_cell? wr _ ct
              have HW1 : Hid (withB T X (k + 1) = withinAns (T.getD k []) (X.getD k [])) := by
                show withB T X (k + 1) = _
                rw [withB, hwk]; rfl
              have HB3 : Hid _ := LB3
              have HBB : Hid _ := B3
              clear hux hut gT gX hwk LB3 B3
              generalize withinAns (T.getD k []) (X.getD k []) = q at *
              cases q
              · go_wp2_with fail
                go_region_held3 (fun w' => w'.cell? ⟨gt, ot + k, none⟩ = some ut ∧ w'.cell? ⟨gx, ox + k, none⟩ = some ux) (first | exact ⟨ct, cx⟩ | exact ⟨(q4 _ _ z2).trans ct, (q4 _ _ z1).trans cx⟩) (first
                  | (go_at_call 51; refine (hwi _ (by go_grown)).mono ?_; rintro e w4 ⟨rfl, b4⟩; have L4 : Below wr.heap.size wr w4 := Below.trans (by go_grown) b4; obtain ⟨q4, -⟩ := bcell L4))
                go_wp2
                go_ret
                refine ⟨?_, HB3.out.trans (L4.mono HB3.out.size)⟩
                have hfin : withB T X ps.length = false := withB_false (k := k + 1) (by omega) HW1.out
                rw [HBE.out, hfin]
                rfl
              · go_wp2_with fail
                go_region_held3 (fun w' => w'.cell? ⟨gt, ot + k, none⟩ = some ut ∧ w'.cell? ⟨gx, ox + k, none⟩ = some ux) (first | exact ⟨ct, cx⟩ | exact ⟨(q4 _ _ z2).trans ct, (q4 _ _ z1).trans cx⟩) (first
                  | (go_at_call 51; refine (hwi _ (by go_grown)).mono ?_; rintro e w4 ⟨rfl, b4⟩; have L4 : Below wr.heap.size wr w4 := Below.trans (by go_grown) b4; obtain ⟨q4, -⟩ := bcell L4))
                go_wp2
                go_roundw
                case rel => exact ⟨k + 1, by omega, by go_num, HW1.out, HBB.out.trans (L4.mono HBB.out.size)⟩
                case measure => simp [intOf]; omega
            · have hkk : k = T.length := by omega
              subst hkk
              have HWK : Hid _ := hwk
              clear hwk
              go_wp2
              go_ret
              refine ⟨?_, L3.trans (B3.mono L3.size)⟩
              have := HWK.out
              rw [HTl.out] at this
              rw [HBE.out, this]
              rfl
    · obtain rfl := hA.2 (by simp [relsB, hlen])
      have hlen' : ¬ (X.length : Int) = (ps.length : Int) := by omega
      go_wp2_with (first
        | (go_at_call 47; refine (hcl _).mono ?_; rintro e w3 ⟨rfl, rfl⟩))
      go_ret
      exact ⟨rfl, L2⟩
  · rw [decide_eq_false h2] at hcl
    obtain rfl := hA.2 (by simp [relsB, okB, h2])
    go_enter Try.func14, Try.ntmps14
    go_wp2_with (first
      | (go_at_call 16; refine hpo.mono ?_; rintro e w2 ⟨rfl, b2⟩)
      | (go_at_call 47; refine (hcl _).mono ?_; rintro e w3 ⟨rfl, rfl⟩))
    go_ret
    exact ⟨rfl, hb0.trans (b2.mono hb0.size)⟩

end Go.Proofs.Ytmophdojojcpbaa
