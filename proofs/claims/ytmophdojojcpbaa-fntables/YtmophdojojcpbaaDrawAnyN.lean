/-
  Towards spec.l3DrawAny, its loop that puts statements before those of one procedure.
-/
import Derived.Test.YtmophdojojcpbaaDrawAnyM
namespace Go.Proofs.Ytmophdojojcpbaa
open Go.RowKit
set_option linter.unusedVariables false
set_option linter.unusedSimpArgs false

theorem cells3_oneD : ∀ (p : List Stm), ∀ u ∈ cells3 p, u.oneCell' = true
  | [], u, h => by simp [cells3] at h
  | s :: p, u, h => by
    have e : cells3 (s :: p) = cells3 [s] ++ cells3 p := by rw [← cells3_append]; rfl
    rw [e] at h
    rcases List.mem_append.1 h with h | h
    · exact stm_oneCell s u h
    · exact cells3_oneD p u h

theorem own_news {w : World} {base : Nat} {e : TypeId} {s g n cap : Nat} {xs : List Value} (h : w.ownsRow base e s (.slice (some ⟨g, 0, none⟩) n cap) n xs) : ∀ (j : Nat) (u : Value), xs[j]? = some u → w.cell? ((⟨g, 0, none⟩ : Addr).add j) = some u := by
  intro j u hj
  have hl := h.1
  have hlt : j < n * s := by have := (List.getElem?_eq_some_iff.1 hj).1; omega
  have := (h.cellAt j hlt).trans hj
  cases j with
  | zero => simpa [Addr.add] using this
  | succ j => simpa [Addr.add] using this

/-- A row of one statement that was just made. -/
theorem own_one {w : World} {base b : Nat} {s : Stm} (h : w.heap[b]? = some (stm3 s)) (hb : base ≤ b) : w.ownsRow base 79 3 (.slice (some ⟨b, 0, none⟩) 1 1) 1 (cells3 [s]) :=
  ⟨rfl, .inr ⟨b, 1, _, rfl, hb, h, Nat.le_refl _, by simp [maxLen], rfl, rfl⟩⟩

/-- An own row of one and more has a block. -/
theorem own_formD {w : World} {base : Nat} {e : TypeId} {s n : Nat} {v : Value} {xs : List Value} (h : w.ownsRow base e s v n xs) (hn : 1 ≤ n) : ∃ g cap, v = .slice (some ⟨g, 0, none⟩) n cap ∧ base ≤ g ∧ n ≤ cap := by
  rcases h.2 with ⟨_, h0⟩ | ⟨g, cap, cur, rfl, hb, _, hle, _⟩
  · omega
  · exact ⟨g, cap, rfl, hb, hle⟩

def roomAt (w : World) (gu i : Nat) : Nat := match w.cell? ⟨gu, i, none⟩ with | some (.slice _ n _) => 13 - n | _ => 0

/-- One of the procedures has become another in new memory. -/
theorem DA.pre {w : World} {g : Nat} {bs : List Int} {P gu uc i : Nat} {qs : List (List Stm)} {p : List Stm} {v : Value} {w1 w3 : World} (D : DA w g bs P (.slice (some ⟨gu, 0, none⟩) qs.length uc) qs w1) (hgw : g < w.heap.size) (hPw : w.heap.size < P)
    (hi : i < qs.length) (b3 : Below w1.heap.size w1 w3) (own3 : w3.ownsRow (w.heap.size + 1) 79 3 v p.length (cells3 p)) (hne : P ≠ gu) (hgu : w.heap.size + 1 ≤ gu) :
    DA w g bs P (.slice (some ⟨gu, 0, none⟩) qs.length uc) (qs.set i p) (w3.setCell ⟨gu, i, none⟩ v) := by
  have D3 := D.draw hgw hPw (cur_below D.cur b3) (grown_of_below b3 (some g))
  refine ⟨by simpa using D3.rows.put own3 hi, ?_, ?_, curSet D3.cur (by omega) _, grownSet D3.gr (by omega) _⟩
  · rw [heap_setCell_other w3 ⟨gu, i, none⟩ P v (by simpa using hne)]; exact D3.box
  · rw [heap_setCell_other w3 ⟨gu, i, none⟩ w.heap.size v (by simp; omega)]; exact D3.res

theorem DA.frozen {w : World} {g : Nat} {bs : List Int} {P gu uc : Nat} {qs : List (List Stm)} {w1 : World} (D : DA w g bs P (.slice (some ⟨gu, 0, none⟩) qs.length uc) qs w1) (i : Nat) : w1.frozen? ⟨gu, i, none⟩ = false := by
  obtain ⟨us, ho, _⟩ := D.rows
  exact ho.frozenAt i

theorem own_cons {w : World} {base : Nat} {e : TypeId} {v : Value} {t : Stm} {p : List Stm} (h : w.ownsRow base e 3 v (1 + p.length) (cells3 [t] ++ cells3 p)) : w.ownsRow base e 3 v (t :: p).length (cells3 (t :: p)) := by
  have e7 : cells3 (t :: p) = cells3 [t] ++ cells3 p := by rw [← cells3_append]; rfl
  rw [e7, List.length_cons, Nat.add_comm]
  exact h

theorem below_app3 {w w2 w3 : World} {b : Nat} (h : Below w.heap.size w w2) (hg : w2.grownBy w3 (some b)) (hb : w.heap.size ≤ b) : Below w.heap.size w w3 :=
  ⟨hg.os.trans h.os, hg.tape.trans h.tape, hg.output.trans h.output, Nat.le_trans h.size hg.size, fun k hk => (hg.block k (Nat.lt_of_lt_of_le hk h.size) (fun e => by have e := Option.some.inj e; omega)).trans (h.block k hk)⟩

end Go.Proofs.Ytmophdojojcpbaa
