/-
 The code that came in; laws.big.
-/
import Derived.Test.YtnjbihfceckpfaaG12Progs
import Derived.WalkLawsBesides
namespace Go.Proofs.Ytnjbihfceckpfaa
open Go.ChangeShapes Go.WideShapes Go.ChangeAt Go.RowKit
set_option linter.unusedVariables false
set_option maxHeartbeats 2000000

theorem lawBig (bs : List Int) (v : Value) (w : World) (hl : bs.length ≤ maxLen) (hv : Reads w v (bs.map (Value.int .u8))) :
 Calls Try.prog 32 #[v] w fun e w' => e = .returned (.bool (decide ((4096 : Int) < (bs.length : Int)))) ∧ w = w' := by
 obtain ⟨ao, cap, rfl, hc⟩ := hv
 simp only [List.length_map]
 go_enter Try.func32, Try.ntmps32
 go_wp2
 go_ret
 exact ⟨rfl, rfl⟩

theorem open_code {H : Type} {enc : TypeId × Value → H} {P : Program} {W : World} {base : Nat} {held : Bool} {t e : TypeId} {r : Reach} {b0 : Nat} {v : Value} {d : DataW H} {p : List MemPlace}
 (ht : P.underlying t = some (.slice e)) (he : P.underlying e = some (.int .u8)) (hc : P.cellsOf e = 1) (hv : Value.okWide P W r b0 t v) (h : DataW.Trod enc P W base (fun _ => true) held t v d p) :
 ∃ bs : List Int, Reads W v (bs.map (Value.int .u8)) ∧ bs.length ≤ maxLen ∧ ∀ x ∈ bs, 0 ≤ x ∧ x ≤ 255 := by
 obtain ⟨a0, len, cap, rfl⟩ := okWide_slice ht hv
 obtain ⟨fuel, hf⟩ := h
 rcases open_ints ht he hc hf with ⟨hcs, _⟩ | ⟨a, len', cap', zs, hcs, _, hl, hm, hz, _, hcell, hwz⟩
 · simp [Value.cells] at hcs
   obtain ⟨rfl, rfl, rfl⟩ := hcs
   exact ⟨[], ⟨none, 0, rfl, fun j x hx => by simp at hx⟩, by simp, by simp⟩
 · simp [Value.cells] at hcs
   obtain ⟨rfl, rfl, rfl⟩ := hcs
   simp only [if_true] at hz
   have hlen : (zs.take len).length = len := by simp; omega
   refine ⟨zs.take len, ⟨some a, cap, by rw [List.length_map, hlen], ?_⟩, by omega, fun x hx => ?_⟩
   · intro j x hx
     have hj : j < len := by
      rcases Nat.lt_or_ge j len with h | h
      · exact h
      · rw [List.getElem?_eq_none (by simp; omega)] at hx; simp at hx
     have hcj := hcell j (by omega)
     obtain ⟨b, off, spot⟩ := a
     have hspot : spot = none := by
      have h0 := hcell 0 (by omega)
      simpa [Addr.add] using World.cell?_spot h0
     subst hspot
     refine ⟨b, off, rfl, ?_⟩
     have hadd : (⟨b, off, none⟩ : Addr).add j = ⟨b, off + j, none⟩ := by unfold Addr.add; split <;> simp_all
     rw [hadd] at hcj
     rw [hcj]
     have hjs : j < zs.length := by omega
     simp [hj, List.getElem?_eq_getElem hjs] at hx
     rw [List.getD_eq_getElem?_getD, List.getElem?_eq_getElem hjs]
     simp [hx]
   · have := hwz x (List.mem_of_mem_take hx)
     simp only [Lit.wf, Bool.and_eq_true, decide_eq_true_eq] at this
     have h1 : IntKind.u8.min = 0 := by decide
     have h2 : IntKind.u8.max = 255 := by decide
     rw [h1, h2] at this
     exact this

theorem cellsByte : Try.prog.cellsOf 5 = 1 := by kernel_rfl

end Go.Proofs.Ytnjbihfceckpfaa
