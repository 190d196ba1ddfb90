/-
  laws.toValue, toValueS: a value anew, in blocks of its own.
-/
import Derived.Test.YtepahapocgmhiaaSzVal
namespace Go.Proofs.Ytepahapocgmhiaa
open Go.RowKit
set_option linter.unusedVariables false
set_option linter.unusedSimpArgs false
set_option maxHeartbeats 2000000

/-- As Reads, RdS, RdV; every block from base on. -/
def ReadsB (w : World) (base : Nat) (v : Value) (xs : List Value) : Prop :=
  ∃ ao cap, v = .slice ao xs.length cap ∧ xs.length ≤ cap ∧ ∀ j x, xs[j]? = some x → ∃ g off, ao = some ⟨g, off, none⟩ ∧ base ≤ g ∧ w.cell? ⟨g, off + j, none⟩ = some x
def RdSB {α : Type} (w : World) (base : Nat) (R : List Value → α → Prop) (iv : Value) (its : List α) : Prop :=
  ∃ ao cap, iv = .slice ao its.length cap ∧ ∀ j x, its[j]? = some x → ∃ g off cs, ao = some ⟨g, off, none⟩ ∧ base ≤ g ∧ cs.length = 5 ∧ (∀ q, q < 5 → w.cell? ⟨g, off + j * 5 + q, none⟩ = cs[q]?) ∧ R cs x
def RdVB : (d : Nat) → World → Nat → List Value → Val d → Prop
  | 0, _, _, _, _ => False
  | d + 1, w, base, cs, (k, n, t, its, ks) => ∃ iv kv, cs = [.int .i64 k, .int .i64 n, .string t, iv, kv] ∧ RdSB w base (RdVB d w base) iv its ∧ its.length ≤ maxLen ∧ ReadsB w base kv (ks.map .string) ∧ ks.length ≤ maxLen ∧ t.size ≤ maxLen ∧ ∀ x ∈ ks, x.size ≤ maxLen

theorem ReadsB.reads {w : World} {base : Nat} {v : Value} {xs : List Value} (h : ReadsB w base v xs) : Reads w v xs := by
  obtain ⟨ao, cap, rfl, _, hc⟩ := h
  exact ⟨ao, cap, rfl, fun j x hx => by obtain ⟨g, off, h1, _, h3⟩ := hc j x hx; exact ⟨g, off, h1, h3⟩⟩
theorem RdVB.rd : ∀ {d : Nat} {w : World} {base : Nat} {cs : List Value} {x : Val d}, RdVB d w base cs x → RdV d w cs x
  | 0, _, _, _, _, h => h.elim
  | d + 1, w, base, cs, (k, n, t, its, ks), h => by
    obtain ⟨iv, kv, h1, ⟨ao, cap, rfl, hc⟩, h3, h4, h5⟩ := h
    exact ⟨_, kv, h1, ⟨ao, cap, rfl, fun j x hx => by
      obtain ⟨g, off, cs, e1, _, e2, e3, e4⟩ := hc j x hx
      exact ⟨g, off, cs, e1, e2, e3, e4.rd⟩⟩, h3, h4.reads, h5⟩
/-- What is kept: cells of blocks from base on. -/
theorem RdVB.keep : ∀ {d : Nat} {w w' : World} {base base' : Nat} {cs : List Value} {x : Val d}, RdVB d w base cs x → (∀ (a : Addr) v, base ≤ a.block → w.cell? a = some v → w'.cell? a = some v) → base' ≤ base → RdVB d w' base' cs x
  | 0, _, _, _, _, _, _, h, _, _ => h.elim
  | d + 1, w, w', base, base', cs, (k, n, t, its, ks), h, hk, hb => by
    obtain ⟨iv, kv, h1, ⟨ao, cap, rfl, hc⟩, h3, ⟨ko, kc, rfl, hcap, hkc⟩, h5⟩ := h
    refine ⟨_, _, h1, ⟨ao, cap, rfl, fun j x hx => ?_⟩, h3, ⟨ko, kc, rfl, hcap, fun j x hx => ?_⟩, h5⟩
    · obtain ⟨g, off, cs, e1, e0, e2, e3, e4⟩ := hc j x hx
      refine ⟨g, off, cs, e1, by omega, e2, fun q hq => ?_, e4.keep hk hb⟩
      have h6 := e3 q hq
      rw [List.getElem?_eq_getElem (by omega)] at h6
      rw [List.getElem?_eq_getElem (by omega)]
      exact hk _ _ e0 h6
    · obtain ⟨g, off, e1, e0, e2⟩ := hkc j x hx
      exact ⟨g, off, e1, by omega, hk _ _ e0 e2⟩
theorem RdVB.below {d : Nat} {w w' : World} {base : Nat} {cs : List Value} {x : Val d} (h : RdVB d w base cs x) (hb : Below w.heap.size w w') : RdVB d w' base cs x :=
  h.keep (fun a v _ hc => (hb.cell (World.block_lt_of_cell? w _ hc)).trans hc) (Nat.le_refl _)
theorem RdVB.grown {d : Nat} {w w' : World} {base B : Nat} {cs : List Value} {x : Val d} (h : RdVB d w base cs x) (hg : w.grownBy w' (some B)) (hB : B < base) : RdVB d w' base cs x :=
  h.keep (fun a v ha hc => hg.cell hc (by simp; omega)) (Nat.le_refl _)

theorem grown_set5 (w : World) (b o0 o1 o2 o3 o4 : Nat) (x0 x1 x2 x3 x4 : Value) : w.grownBy (((((w.setCell ⟨b, o0, none⟩ x0).setCell ⟨b, o1, none⟩ x1).setCell ⟨b, o2, none⟩ x2).setCell ⟨b, o3, none⟩ x3).setCell ⟨b, o4, none⟩ x4) (some b) := by
  have one : ∀ (W : World) (o : Nat) (x : Value), W.grownBy (W.setCell ⟨b, o, none⟩ x) (some b) := fun W o x => ⟨rfl, rfl, rfl, by simp [World.setCell], fun k _ hk => Below.heap_setCell _ _ _ k (fun e => hk (by rw [e]))⟩
  exact grown_trans (grown_trans (grown_trans (grown_trans (one _ _ _) (one _ _ _)) (one _ _ _)) (one _ _ _)) (one _ _ _)

theorem own_readsB {w : World} {base : Nat} {e : TypeId} {v : Value} {n : Nat} {xs : List Value} (h : w.ownsRow base e 1 v n xs) : ReadsB w base v xs := by
  have hn : xs.length = n := by have := h.1; omega
  obtain ⟨ao, cap, rfl, hc⟩ := reads_own h
  refine ⟨ao, cap, rfl, ?_, fun j x hx => ?_⟩
  · rcases h.2 with ⟨e9, h0⟩ | ⟨g', cap', cur, e9, _, _, hnc, _⟩
    · omega
    · injection e9 with e1 e2 e3; omega
  · obtain ⟨g, off, rfl, h3⟩ := hc j x hx
    exact ⟨g, off, rfl, (h.lt g rfl).1, h3⟩

/-- What toValue, toValueS answer. -/
def ToP {d : Nat} (x : Val d) (w : World) (e : Ending) (w' : World) : Prop := ∃ (k n : Int) (t : ByteArray) (a1 : Option Addr) (n1 c1 : Nat) (a2 : Option Addr) (n2 c2 : Nat), e = .returned (.agg #[.int .i64 k, .int .i64 n, .string t, .slice a1 n1 c1, .slice a2 n2 c2]) ∧
  RdVB d w' w.heap.size [.int .i64 k, .int .i64 n, .string t, .slice a1 n1 c1, .slice a2 n2 c2] x ∧ Below w.heap.size w w'
def ToL {d : Nat} (its : List (Val d)) (w : World) (e : Ending) (w' : World) : Prop := ∃ u : Value, e = .returned u ∧ RdSB w' w.heap.size (RdVB d w' w.heap.size) u its ∧ Below w.heap.size w w'

theorem infoValue : (Try.prog.info? 30).map (fun i => (i.zero, i.size, i.bytes)) = some (some (.agg #[.int .i64 0, .int .i64 0, .string ⟨#[]⟩, .slice none 0 0, .slice none 0 0]), 5, 80) := by kernel_rfl

/-- The row that is filled: of the first k. -/
structure FillS {d : Nat} (w : World) (its : List (Val d)) (k : Nat) (zs : List Value) (wr : World) : Prop where
  own : wr.ownsRow w.heap.size 30 5 (.slice (some ⟨w.heap.size, 0, none⟩) its.length its.length) its.length zs
  done : ∀ j x, j < k → its[j]? = some x → ∃ cs, cs.length = 5 ∧ (∀ q, q < 5 → zs[j * 5 + q]? = cs[q]?) ∧ RdVB d wr (w.heap.size + 1) cs x
  bel : Below w.heap.size w wr

theorem FillS.put {d : Nat} {w : World} {its : List (Val d)} {k : Nat} {zs : List Value} {wr w2 : World} (h : FillS w its k zs wr) (hk : k < its.length) (hb : Below wr.heap.size wr w2) (hsz : w.heap.size + 1 ≤ wr.heap.size) {x0 x1 x2 x3 x4 : Value} (hx : RdVB d w2 wr.heap.size [x0, x1, x2, x3, x4] (its[k]'hk)) :
    ∃ zs', FillS w its (k + 1) zs' (((((w2.setCell ⟨w.heap.size, k * 5, none⟩ x0).setCell ⟨w.heap.size, k * 5 + 1, none⟩ x1).setCell ⟨w.heap.size, k * 5 + 2, none⟩ x2).setCell ⟨w.heap.size, k * 5 + 3, none⟩ x3).setCell ⟨w.heap.size, k * 5 + 4, none⟩ x4) := by
  have own2 := own_kept h.own hb
  have hg := grown_set5 w2 w.heap.size (k * 5) (k * 5 + 1) (k * 5 + 2) (k * 5 + 3) (k * 5 + 4) x0 x1 x2 x3 x4
  have hl := own2.1
  have own3 := (((((own2.stored (k * 5) x0).1.stored (k * 5 + 1) x1).1.stored (k * 5 + 2) x2).1.stored (k * 5 + 3) x3).1.stored (k * 5 + 4) x4).1
  refine ⟨_, own3, fun j x hj hx9 => ?_, (h.bel.trans (hb.mono h.bel.size)).grown hg (Nat.le_trans h.bel.size hb.size) (fun q e => by simp at e; omega)⟩
  by_cases e : j = k
  · subst e
    have ex : its[j]'hk = x := by simpa [hk] using hx9
    rw [ex] at hx
    refine ⟨[x0, x1, x2, x3, x4], rfl, fun q hq => ?_, (hx.keep (fun a v _ hc => hc) hsz).grown hg (by omega)⟩
    have hq5 : q = 0 ∨ q = 1 ∨ q = 2 ∨ q = 3 ∨ q = 4 := by omega
    have l0 : j * 5 < zs.length := by omega
    rcases hq5 with rfl | rfl | rfl | rfl | rfl <;> simp [List.getElem?_set] <;> omega
  · obtain ⟨cs, c1, c2, c3⟩ := h.done j x (by omega) hx9
    refine ⟨cs, c1, fun q hq => ?_, (c3.below hb).grown hg (by omega)⟩
    rw [← c2 q hq]
    rw [List.getElem?_set_ne (by omega), List.getElem?_set_ne (by omega), List.getElem?_set_ne (by omega), List.getElem?_set_ne (by omega), List.getElem?_set_ne (by omega)]

end Go.Proofs.Ytepahapocgmhiaa
