/-
  Chapter 1, mathematics: which values are right, how many they are; values that lie below a block.
-/
import Derived.Test.YtepahapocgmhiaaTextV
import Derived.Test.YtepahapocgmhiaaToVal
namespace Go.Proofs.Ytepahapocgmhiaa
open Go.RowKit
set_option linter.unusedVariables false
set_option linter.unusedSimpArgs false

def KeysB (ks : List ByteArray) : Prop := ∀ (i : Nat) (h : i < ks.length), textB ks[i] = true ∧ ks[i] ∉ ks.take i

/-- What is asked of a value beside its items (m of them). -/
structure LocalV (k n : Int) (t : ByteArray) (m : Nat) (ks : List ByteArray) : Prop where
  lo : 1 ≤ k
  hi : k ≤ 6
  hn : k ≠ 2 → k ≠ 3 → n = 0
  h2 : k = 2 → 0 ≤ n ∧ n ≤ 1
  h3 : k = 3 → -999999999 ≤ n ∧ n ≤ 999999999
  ht : k ≠ 4 → t.toList = []
  h4 : k = 4 → textB t = true
  hm : k < 5 → m = 0
  hk : k ≠ 6 → ks = []
  h6 : k = 6 → ks.length = m ∧ KeysB ks

def RightV : (d : Nat) → Val d → Int → Prop
  | 0, _, _ => False
  | d + 1, (k, n, t, its, ks), deep => 1 ≤ deep ∧ LocalV k n t its.length ks ∧ ∀ x ∈ its, RightV d x (deep - 1)
def cntV : (d : Nat) → Val d → Nat
  | 0, _ => 0
  | d + 1, (k, n, t, its, ks) => 1 + (its.map (cntV d)).sum
def cntL {d : Nat} (its : List (Val d)) : Nat := (its.map (cntV d)).sum

theorem cntV_pos : ∀ {d : Nat} (x : Val d), d = 0 ∨ 1 ≤ cntV d x
  | 0, _ => .inl rfl
  | d + 1, (k, n, t, its, ks) => .inr (by simp only [cntV]; omega)
theorem right_pos {d : Nat} {x : Val d} {deep : Int} (h : RightV d x deep) : 1 ≤ cntV d x := by
  cases d with
  | zero => exact h.elim
  | succ d => rcases cntV_pos x with h | h; · omega
              · exact h
theorem cntL_take {d : Nat} (its : List (Val d)) (j : Nat) (h : j < its.length) : cntL (its.take (j + 1)) = cntL (its.take j) + cntV d its[j] := by
  unfold cntL
  rw [List.take_succ_eq_append_getElem h, List.map_append, List.sum_append]
  simp
theorem cntL_le {d : Nat} (its : List (Val d)) (j : Nat) : cntL (its.take j) ≤ cntL its := by
  unfold cntL
  have h := congrArg (fun l => (l.map (cntV d)).sum) (List.take_append_drop j its)
  simp only [List.map_append, List.sum_append] at h
  omega
theorem cntL_len {d : Nat} : ∀ (its : List (Val d)) (deep : Int), (∀ x ∈ its, RightV d x deep) → its.length ≤ cntL its
  | [], _, _ => Nat.zero_le _
  | x :: its, deep, h => by
    have h1 := right_pos (h x (by simp))
    have h2 := cntL_len its deep (fun y hy => h y (by simp [hy]))
    unfold cntL at h2 ⊢
    simp only [List.map_cons, List.sum_cons, List.length_cons]
    omega

/-- A slice's cells lie below g. -/
def ReadsL (w : World) (g : Nat) (v : Value) (xs : List Value) : Prop :=
  ∃ ao cap, v = .slice ao xs.length cap ∧ xs.length ≤ cap ∧ ∀ j x, xs[j]? = some x → ∃ b off, ao = some ⟨b, off, none⟩ ∧ b < g ∧ w.cell? ⟨b, off + j, none⟩ = some x
def RdSL {α : Type} (w : World) (g : Nat) (R : List Value → α → Prop) (iv : Value) (its : List α) : Prop :=
  ∃ ao cap, iv = .slice ao its.length cap ∧ ∀ j x, its[j]? = some x → ∃ b off cs, ao = some ⟨b, off, none⟩ ∧ b < g ∧ cs.length = 5 ∧ (∀ q, q < 5 → w.cell? ⟨b, off + j * 5 + q, none⟩ = cs[q]?) ∧ R cs x
def RdVL : (d : Nat) → World → Nat → List Value → Val d → Prop
  | 0, _, _, _, _ => False
  | d + 1, w, g, cs, (k, n, t, its, ks) => ∃ iv kv, cs = [.int .i64 k, .int .i64 n, .string t, iv, kv] ∧ RdSL w g (RdVL d w g) iv its ∧ its.length ≤ maxLen ∧ ReadsL w g kv (ks.map .string) ∧ ks.length ≤ maxLen ∧ t.size ≤ maxLen ∧ ∀ x ∈ ks, x.size ≤ maxLen

theorem ReadsL.of {w : World} {base : Nat} {v : Value} {xs : List Value} (h : ReadsB w base v xs) : ReadsL w w.heap.size v xs := by
  obtain ⟨ao, cap, rfl, hcp, hc⟩ := h
  refine ⟨ao, cap, rfl, hcp, fun j x hx => ?_⟩
  obtain ⟨b, off, e, _, h1⟩ := hc j x hx
  exact ⟨b, off, e, World.block_lt_of_cell? w _ h1, h1⟩
theorem ReadsL.rd {w : World} {g : Nat} {v : Value} {xs : List Value} (h : ReadsL w g v xs) : Reads w v xs := by
  obtain ⟨ao, cap, rfl, hcp, hc⟩ := h
  refine ⟨ao, cap, rfl, fun j x hx => ?_⟩
  obtain ⟨b, off, e, _, h1⟩ := hc j x hx
  exact ⟨b, off, e, h1⟩
theorem ReadsL.keep {w w' : World} {g g' : Nat} {v : Value} {xs : List Value} (h : ReadsL w g v xs) (hk : ∀ (a : Addr) v, a.block < g → w.cell? a = some v → w'.cell? a = some v) (hg : g ≤ g') : ReadsL w' g' v xs := by
  obtain ⟨ao, cap, rfl, hcp, hc⟩ := h
  refine ⟨ao, cap, rfl, hcp, fun j x hx => ?_⟩
  obtain ⟨b, off, e, h0, h1⟩ := hc j x hx
  exact ⟨b, off, e, by omega, hk _ _ h0 h1⟩
theorem RdVL.of : ∀ {d : Nat} {w : World} {base : Nat} {cs : List Value} {x : Val d}, RdVB d w base cs x → RdVL d w w.heap.size cs x
  | 0, _, _, _, _, h => h.elim
  | d + 1, w, base, cs, (k, n, t, its, ks), h => by
    obtain ⟨iv, kv, h1, ⟨ao, cap, h2, hc⟩, h3, h4, h5⟩ := h
    refine ⟨iv, kv, h1, ⟨ao, cap, h2, fun j x hx => ?_⟩, h3, ReadsL.of h4, h5⟩
    obtain ⟨b, off, cs, e1, _, e2, e3, e4⟩ := hc j x hx
    have e5 := e3 0 (by omega)
    rw [List.getElem?_eq_getElem (by omega)] at e5
    exact ⟨b, off, cs, e1, World.block_lt_of_cell? w _ e5, e2, e3, RdVL.of e4⟩
theorem RdVL.rd : ∀ {d : Nat} {w : World} {g : Nat} {cs : List Value} {x : Val d}, RdVL d w g cs x → RdV d w cs x
  | 0, _, _, _, _, h => h.elim
  | d + 1, w, g, cs, (k, n, t, its, ks), h => by
    obtain ⟨iv, kv, h1, ⟨ao, cap, h2, hc⟩, h3, h4, h5⟩ := h
    refine ⟨iv, kv, h1, ⟨ao, cap, h2, fun j x hx => ?_⟩, h3, h4.rd, h5⟩
    obtain ⟨b, off, cs, e1, _, e2, e3, e4⟩ := hc j x hx
    exact ⟨b, off, cs, e1, e2, e3, RdVL.rd e4⟩
theorem RdVL.keep : ∀ {d : Nat} {w w' : World} {g g' : Nat} {cs : List Value} {x : Val d}, RdVL d w g cs x → (∀ (a : Addr) v, a.block < g → w.cell? a = some v → w'.cell? a = some v) → g ≤ g' → RdVL d w' g' cs x
  | 0, _, _, _, _, _, _, h, _, _ => h.elim
  | d + 1, w, w', g, g', cs, (k, n, t, its, ks), h, hk, hg => by
    obtain ⟨iv, kv, h1, ⟨ao, cap, h2, hc⟩, h3, h4, h5⟩ := h
    refine ⟨iv, kv, h1, ⟨ao, cap, h2, fun j x hx => ?_⟩, h3, h4.keep hk hg, h5⟩
    obtain ⟨b, off, cs, e1, e0, e2, e3, e4⟩ := hc j x hx
    refine ⟨b, off, cs, e1, by omega, e2, fun q hq => ?_, RdVL.keep e4 hk hg⟩
    have e5 := e3 q hq
    rw [List.getElem?_eq_getElem (by omega)] at e5 ⊢
    exact hk _ _ e0 e5
theorem RdVL.grown {d : Nat} {w w' : World} {g : Nat} {cs : List Value} {x : Val d} (h : RdVL d w g cs x) (hg : w.grownBy w' (some g)) (hgw : g ≤ w.heap.size) : RdVL d w' g cs x :=
  h.keep (fun a v ha hv => (World.cell?_of_block (hg.block a.block (by omega) (fun e => by cases e; omega))).trans hv) (Nat.le_refl _)
theorem RdVL.below {d : Nat} {w w' : World} {g : Nat} {cs : List Value} {x : Val d} (h : RdVL d w g cs x) (hb : Below g w w') : RdVL d w' g cs x :=
  h.keep (fun a v ha hv => (World.cell?_of_block (hb.block a.block ha)).trans hv) (Nat.le_refl _)

end Go.Proofs.Ytepahapocgmhiaa
