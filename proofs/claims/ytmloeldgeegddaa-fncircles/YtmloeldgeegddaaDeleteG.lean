/-
  slices.Delete of one list out of a row of lists.
-/
import Derived.Test.YtmloeldgeegddaaG22ImplCircles
import Derived.Deep.RegionLaw
import Derived.Lib.SliceRun
namespace Go.Proofs.Ytmloeldgeegddaa
open Go.RowKit
set_option linter.unusedVariables false
set_option maxHeartbeats 4000000
set_option maxRecDepth 20000

def setsL {α : Type} : List α → Nat → List α → List α
  | xs, _, [] => xs
  | xs, o, v :: r => setsL (xs.set o v) (o + 1) r

theorem own_sets {base : Nat} {e : TypeId} {g n cap : Nat} : ∀ (vs : List Value) (o : Nat) (w : World) (xs : List Value), w.ownsRow base e 1 (.slice (some ⟨g, 0, none⟩) n cap) n xs → o + vs.length ≤ n → (w.setCells g o vs).ownsRow base e 1 (.slice (some ⟨g, 0, none⟩) n cap) n (setsL xs o vs) ∧ w.grownBy (w.setCells g o vs) (some g)
  | [], o, w, xs, h, _ => ⟨h, World.grownBy.refl _ _⟩
  | v :: r, o, w, xs, h, hl => by
    simp only [List.length_cons] at hl
    obtain ⟨h1, h2⟩ := own_sets r (o + 1) (w.setCell ⟨g, o, none⟩ v) (xs.set o v) (own_put1 h (by omega) v) (by omega)
    exact ⟨h1, grown_trans (grown_setCell1 w g o v) h2⟩

theorem setsL_eq {α : Type} : ∀ (vs xs : List α) (o : Nat), o + vs.length ≤ xs.length → setsL xs o vs = xs.take o ++ vs ++ xs.drop (o + vs.length)
  | [], xs, o, _ => by simp [setsL]
  | v :: r, xs, o, h => by
    simp only [List.length_cons] at h
    have ih := setsL_eq r (xs.set o v) (o + 1) (by rw [List.length_set]; omega)
    unfold setsL
    rw [ih]
    have e1 : (xs.set o v).take (o + 1) = xs.take o ++ [v] := by
      rw [List.take_succ_eq_append_getElem (by rw [List.length_set]; omega), List.take_set_of_le (Nat.le_refl _)]
      simp
    have e2 : (xs.set o v).drop (o + 1 + r.length) = xs.drop (o + (r.length + 1)) := by
      rw [List.drop_set_of_lt (by omega)]
      congr 1
      omega
    rw [e1, e2]
    simp

theorem erase_take {α : Type} (xs : List α) (i : Nat) (h : i < xs.length) (z : α) : ((setsL xs i (xs.drop (i + 1))).set (xs.length - 1) z).take (xs.length - 1) = xs.eraseIdx i := by
  rw [List.take_set_of_le (Nat.le_refl _), setsL_eq _ _ _ (by rw [List.length_drop]; omega), List.eraseIdx_eq_take_drop_succ]
  rw [List.take_append_of_le_length (by simp; omega)]
  rw [List.take_of_length_le (by simp; omega)]

theorem apart_erase {us : List Value} (h : ApartSS us) (i : Nat) : ApartSS (us.eraseIdx i) := by
  intro a b x y k hne hx hy hk
  rw [List.getElem?_eraseIdx] at hx hy
  refine h (if a < i then a else a + 1) (if b < i then b else b + 1) x y k ?_ ?_ ?_ hk
  · by_cases h1 : a < i <;> by_cases h2 : b < i <;> simp only [h1, h2, if_true, if_false] <;> omega
  · by_cases h1 : a < i <;> simpa [h1] using hx
  · by_cases h2 : b < i <;> simpa [h2] using hy

theorem map_erase {α β : Type} (f : α → β) : ∀ (xs : List α) (i : Nat), (xs.eraseIdx i).map f = (xs.map f).eraseIdx i
  | [], i => by simp
  | x :: xs, 0 => by simp
  | x :: xs, i + 1 => by simp [map_erase f xs i]

theorem deleteAt (L : List LV) (g cap base i : Nat) (w : World) (hi : i < L.length) (hl : L.length ≤ 4) (hv : GRow w base g L.length cap L) :
    Calls Try.prog 87 #[.slice (some ⟨g, 0, none⟩) L.length cap, .int .i64 (i : Int), .int .i64 ((i + 1 : Nat) : Int)] w fun e w' => e = .returned (.slice (some ⟨g, 0, none⟩) (L.length - 1) cap) ∧ GRow w' base g (L.length - 1) cap (L.eraseIdx i) ∧ w.grownBy w' (some g) := by
  obtain ⟨i1, hjS, hy0, hy1, hy2⟩ := info_parts infoSlice
  have hcap : L.length ≤ cap ∧ cap ≤ maxLen := by
    rcases hv.row.2 with ⟨h, _⟩ | ⟨g', cap', cur, h, _, _, h1, h2, _⟩
    · cases h
    · simp only [Value.slice.injEq] at h
      obtain ⟨_, _, rfl⟩ := h
      exact ⟨h1, h2⟩
  obtain ⟨hc1, hc2⟩ := hcap
  unfold maxLen at hc2
  -- behind it
  have hfin : ∀ W, w.grownBy W (some g) → W.ownsRow base 30 1 (.slice (some ⟨g, 0, none⟩) L.length cap) L.length ((setsL (L.map Prod.fst) i ((L.map Prod.fst).drop (i + 1))).set (L.length - 1) (.slice none 0 0)) → GRow W base g (L.length - 1) cap (L.eraseIdx i) := fun W hW ho => by
    have hml : (L.map Prod.fst).length = L.length := by simp
    refine ⟨?_, fun x hx => ?_, ?_⟩
    · have h1 := own_take ho (k := L.length - 1) (by omega)
      have h2 := erase_take (L.map Prod.fst) i (by omega) (.slice none 0 0)
      rw [hml] at h2
      rw [h2, ← map_erase] at h1
      exact h1
    · have hm : x ∈ L := List.mem_of_mem_eraseIdx hx
      exact ⟨(hv.each x hm).1, own_grown (hv.each x hm).2 hW (fun k hk e => row_kind (hv.each x hm).2 hv.row (by decide) hk (by simp at e; subst e; rfl))⟩
    · rw [map_erase]
      exact apart_erase hv.ap i
  have HFIN : Hid _ := hfin
  have HONE : Hid (∀ u ∈ L.map Prod.fst, u.oneCell' = true) := fun u hu => by
    obtain ⟨x, hx, rfl⟩ := List.mem_map.1 hu
    obtain ⟨a, c, e, _⟩ := reads_own (hv.each x hx).2
    rw [e]; rfl
  have HROW : Hid (w.ownsRow base 30 1 (.slice (some ⟨g, 0, none⟩) L.length cap) L.length (L.map Prod.fst)) := hv.row
  obtain ⟨N, hN⟩ : ∃ N, L.length = N := ⟨_, rfl⟩
  have hml : (L.map Prod.fst).length = N := by simp [hN]
  have HML : Hid _ := hml
  rw [hN] at hi hl hc1 HROW HFIN ⊢
  have hiN : (i : Int) < (N : Int) := by omega
  have hi1 : ((i + 1 : Nat) : Int) ≤ (N : Int) := by omega
  have hNc : (N : Int) ≤ (cap : Int) := by omega
  obtain ⟨J, hJ⟩ : ∃ J, i + 1 = J := ⟨_, rfl⟩
  rw [hJ] at hi1 HFIN ⊢
  have HJ : Hid _ := hJ
  have hiJ : (i : Int) ≤ (J : Int) := by omega
  have hij2 : ¬ (i : Int) = (J : Int) := by omega
  have hJN : (J : Int) ≤ (N : Int) := by omega
  have hic : ¬ cap = i := by omega
  obtain ⟨us, hus⟩ : ∃ us, L.map Prod.fst = us := ⟨_, rfl⟩
  rw [hus] at HROW HFIN HML HONE
  have hdl : (us.drop J).length = N - J := by rw [List.length_drop, HML.out]
  clear hv hfin hml hN hus hJ
  obtain ⟨M, hM⟩ : ∃ M, i + (N - J) = M := ⟨_, rfl⟩
  have hJ' := HJ.out
  have hMN : M + 1 = N := by omega
  have hNM : N - M = 1 := by omega
  have hcM : ¬ cap = M := by omega
  have hMN2 : (M : Int) ≤ (N : Int) := by omega
  have hNc2 : (N : Int) ≤ (cap : Int) := by omega
  have hicap : (i : Int) ≤ (cap : Int) := by omega
  have hicap2 : i ≤ cap := by omega
  have hJcap : (J : Int) ≤ (cap : Int) := by omega
  have HD : Hid _ := hdl
  have HO1 : Hid (∀ W : World, W.ownsRow base 30 1 (.slice (some ⟨g, 0, none⟩) N cap) N us → (W.setCells g i (us.drop J)).ownsRow base 30 1 (.slice (some ⟨g, 0, none⟩) N cap) N (setsL us i (us.drop J)) ∧ W.grownBy (W.setCells g i (us.drop J)) (some g)) := fun W h => own_sets _ i W us h (by rw [HD.out]; omega)
  have hrd : w.drew.ownsRow base 30 1 (.slice (some ⟨g, 0, none⟩) N cap) N us := own_kept HROW.out (Below.drew (Below.refl _ _))
  have HRD : Hid _ := hrd
  have h1c : ∀ u ∈ us.drop J, u.oneCell' = true := fun u hu => by
    have := List.mem_of_mem_drop hu
    exact HONE.out u this
  have hspare : ∀ j, j < (us.drop J).length → (w.drew.cell? ⟨g, 0 + i * 1 + j, none⟩).isSome = true ∧ w.drew.frozen? ⟨g, 0 + i * 1 + j, none⟩ = false := fun j hj => by
    rw [HD.out] at hj
    refine ⟨?_, hrd.frozenAt _⟩
    rw [hrd.cellAt (0 + i * 1 + j) (by omega), List.getElem?_eq_getElem (by rw [HML.out]; omega)]
    rfl
  have hsrc : ∀ (j : Nat) (u : Value), (us.drop J)[j]? = some u → w.drew.cell? ((⟨g, J, none⟩ : Addr).add j) = some u := fun j u hj => by
    rw [List.getElem?_drop] at hj
    have hlt := (List.getElem?_eq_some_iff.1 hj).1
    have e2 : (⟨g, J, none⟩ : Addr).add j = ⟨g, J + j, none⟩ := by unfold Addr.add; split <;> simp_all
    rw [e2, hrd.cellAt (J + j) (by rw [HML.out] at hlt; omega), hj]
  have hpos : 0 + i * 1 = i := by omega
  have HSP : Hid _ := hspare
  have HSR : Hid _ := hsrc
  have H1C : Hid _ := h1c
  clear hdl hrd hspare hsrc h1c hJ'
  by_cases hcJ : cap = J
  · have hNJ0 : N - J = 0 := by omega
    have hcJ0 : cap - J = 0 := by omega
    have hJle : (cap : Int) ≤ (J : Int) := by omega
    have hMi : M = i := by omega
    have hiJn : i ≤ J := by omega
    have hnil : us.drop J = [] := List.eq_nil_of_length_eq_zero (by rw [HD.out]; omega)
    have o1 : w.drew.ownsRow base 30 1 (.slice (some ⟨g, 0, none⟩) N cap) N (setsL us i (us.drop J)) := by rw [hnil]; exact HRD.out
    have GG1 : Hid (w.grownBy w.drew (some g)) := grown_of_below (Below.drew (Below.refl _ _)) _
    have o2 := own_put1 o1 (j := M) (by omega) (.slice none 0 0)
    have cM := o1.cellAt M (by omega)
    have fM := o1.frozenAt M
    have HO2 : Hid _ := o2
    have hcl : (Builtin.clear_ #[52] 0 #[.slice (some ⟨g, M, none⟩) 1 (cap - M)]).run Try.prog w.drew = .ok (.tuple #[]) (w.drew.setCell ⟨g, M, none⟩ (.slice none 0 0)) := by
      have := Lib.run_clear_slice (P := Try.prog) w.drew 52 30 0 (.slice none 0 0) Try.underlying52 (fun W => by first | kernel_rfl | rfl | simp [zeroValue, typeInfo, hjS, hy0]) rfl rfl g M 1 (cap - M) (by omega) (fun j hj => by
        obtain rfl : j = 0 := by omega
        rw [Nat.add_zero, cM, List.getElem?_eq_getElem (by have := o1.1; omega)]
        rfl) (fun j hj => by
        obtain rfl : j = 0 := by omega
        exact fM)
      simpa [World.setCells] using this
    have gs := grown_setCell1 w.drew g M (.slice none 0 0)
    have G4 : Hid (w.grownBy (w.drew.setCell ⟨g, M, none⟩ (.slice none 0 0)) (some g)) := grown_trans GG1.out gs
    have eM : N - 1 = M := by omega
    have HEM : Hid _ := eM
    have HF : Hid (GRow (w.drew.setCell ⟨g, M, none⟩ (.slice none 0 0)) base g (N - 1) cap (L.eraseIdx i)) := HFIN.out _ G4.out (by rw [HEM.out]; exact HO2.out)
    rw [HEM.out] at HF
    clear o1 o2 cM fM gs eM hnil
    subst hMi
    have HCJ : Hid _ := hcJ
    subst hcJ
    go_enter Try.func87, Try.ntmps87
    go_wp2_with fail
    go_region
    go_wp2
    go_ret
    exact ⟨by rw [HEM.out]; rfl, by rw [HEM.out]; exact HF.out, G4.out⟩
  · go_enter Try.func87, Try.ntmps87
    go_wp2_with fail
    go_region_law (refine step_append_room rfl (.tmp 22) (.tmp 25) 52 rfl 30 i1 1 Try.underlying52 hjS hy1 g 0 i cap rfl ⟨g, J, none⟩ (N - J) _ (us.drop J) rfl (by rw [HD.out]; omega) HSR.out H1C.out (by omega) HSP.out ?_)
    obtain ⟨o1, g1⟩ := HO1.out w.drew HRD.out
    have GG1 : Hid (w.grownBy (w.drew.setCells g i (us.drop J)) (some g)) := grown_trans (grown_of_below (Below.drew (Below.refl _ _)) _) g1
    generalize w.drew.setCells g i (us.drop J) = W3 at *
    have o2 := own_put1 o1 (j := M) (by omega) (.slice none 0 0)
    have cM := o1.cellAt M (by omega)
    have fM := o1.frozenAt M
    have HO2 : Hid _ := o2
    have hcl : (Builtin.clear_ #[52] 0 #[.slice (some ⟨g, M, none⟩) 1 (cap - M)]).run Try.prog W3 = .ok (.tuple #[]) (W3.setCell ⟨g, M, none⟩ (.slice none 0 0)) := by
      have := Lib.run_clear_slice (P := Try.prog) W3 52 30 0 (.slice none 0 0) Try.underlying52 (fun W => by first | kernel_rfl | rfl | simp [zeroValue, typeInfo, hjS, hy0]) rfl rfl g M 1 (cap - M) (by omega) (fun j hj => by
        obtain rfl : j = 0 := by omega
        rw [Nat.add_zero, cM, List.getElem?_eq_getElem (by have := o1.1; omega)]
        rfl) (fun j hj => by
        obtain rfl : j = 0 := by omega
        exact fM)
      simpa [World.setCells] using this
    have gs := grown_setCell1 W3 g M (.slice none 0 0)
    have G4 : Hid (w.grownBy (W3.setCell ⟨g, M, none⟩ (.slice none 0 0)) (some g)) := grown_trans GG1.out gs
    have eM : N - 1 = M := by omega
    have HEM : Hid _ := eM
    have HF : Hid (GRow (W3.setCell ⟨g, M, none⟩ (.slice none 0 0)) base g (N - 1) cap (L.eraseIdx i)) := HFIN.out _ G4.out (by rw [HEM.out]; exact HO2.out)
    rw [HEM.out] at HF
    clear o1 cM fM gs eM
    go_wp2
    go_ret
    exact ⟨by rw [HEM.out]; rfl, by rw [HEM.out]; exact HF.out, G4.out⟩

end Go.Proofs.Ytmloeldgeegddaa
