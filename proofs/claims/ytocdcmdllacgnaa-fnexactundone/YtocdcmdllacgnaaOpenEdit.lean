/-
  An Edit that came in, opened.
-/
import Derived.Test.YtocdcmdllacgnaaLawEdSt
import Derived.Test.YtocdcmdllacgnaaOpenProc
namespace Go.Proofs.Ytocdcmdllacgnaa
open Go.ChangeShapes Go.WideShapes Go.ChangeAt Go.RowKit
set_option linter.unusedVariables false
set_option maxRecDepth 100000
set_option maxHeartbeats 4000000

theorem cellsEdit : Try.prog.cellsOf 44 = 6 := by kernel_rfl

theorem open_edit {H : Type} {enc : TypeId × Value → H} {W : World} {base : Nat} {held : Bool} {r : Reach} {b0 : Nat} {v0 : Value} {d : DataW H} {p : List MemPlace}
    (hv : Value.okWide Try.prog W r b0 44 v0) (h : DataW.Trod enc Try.prog W base (fun _ => true) held 44 v0 d p) : ∃ e : Edt, v0 = edV e := by
  obtain ⟨cs, rfl, hsz⟩ := okWide_struct Try.underlying44 hv
  rw [cellsEdit] at hsz
  obtain ⟨c0, c1, c2, c3, c4, c5, rfl⟩ : ∃ c0 c1 c2 c3 c4 c5, cs = #[c0, c1, c2, c3, c4, c5] := by
    obtain ⟨l⟩ := cs
    match l, hsz with
    | [c0, c1, c2, c3, c4, c5], _ => exact ⟨c0, c1, c2, c3, c4, c5, rfl⟩
  obtain ⟨fuel, hf⟩ := h
  obtain ⟨xs, n, _, _, _, hlen, hfs⟩ := DataW.trod_struct Try.underlying44 hf
  match xs, hlen with
  | [x0, x1, x2, x3], _ =>
    have t0 := hfs 0 _ rfl
    have t1 := hfs 1 _ rfl
    have t2 := hfs 2 _ rfl
    have t3 := hfs 3 _ rfl
    simp [Value.cells, cellsInt, cellsStmt] at t0 t1 t2 t3
    obtain ⟨k, e0, _, _⟩ := DataW.trod_int Try.underlying2 t0
    obtain ⟨pr, e1, _, _⟩ := DataW.trod_int Try.underlying2 t1
    obtain ⟨a, e2, _, _⟩ := DataW.trod_int Try.underlying2 t2
    obtain ⟨y0, y1, y2, m, _, _, s0, s1, s2⟩ := Go.Deep.trod_struct3 Try.underlying42 t3
    simp [cellsInt] at s0 s1 s2
    obtain ⟨sk, e3, _, _⟩ := DataW.trod_int Try.underlying2 s0
    obtain ⟨sx, e4, _, _⟩ := DataW.trod_int Try.underlying2 s1
    obtain ⟨sy, e5, _, _⟩ := DataW.trod_int Try.underlying2 s2
    simp at e0 e1 e2 e3 e4 e5
    subst e0 e1 e2 e3 e4 e5
    exact ⟨⟨k, pr, a, ⟨sk, sx, sy⟩⟩, rfl⟩

end Go.Proofs.Ytocdcmdllacgnaa
