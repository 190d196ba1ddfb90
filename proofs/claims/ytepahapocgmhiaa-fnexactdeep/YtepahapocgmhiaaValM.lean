/-
  Chapter 1: values of at most d levels, in memory; an argument of that kind, opened.
-/
import Derived.Test.YtepahapocgmhiaaBase
import Derived.Test.YtepahapocgmhiaaLift
import Derived.Lib.SmallJoins
namespace Go.Proofs.Ytepahapocgmhiaa
open Go.ChangeShapes Go.WideShapes Go.ChangeAt Go.RowKit
set_option linter.unusedVariables false
set_option linter.unusedSimpArgs false
set_option maxHeartbeats 1000000

/-- A value: kind, number, text, items, keys; at most d levels. -/
def Val : Nat → Type
  | 0 => Empty
  | d + 1 => Int × Int × ByteArray × List (Val d) × List ByteArray

/-- The slice iv holds the values its: five cells each, of which R says what they hold. -/
def RdS {α : Type} (w : World) (R : List Value → α → Prop) (iv : Value) (its : List α) : Prop :=
  ∃ ao cap, iv = .slice ao its.length cap ∧ ∀ j x, its[j]? = some x → ∃ g off cs, ao = some ⟨g, off, none⟩ ∧ cs.length = 5 ∧ (∀ q, q < 5 → w.cell? ⟨g, off + j * 5 + q, none⟩ = cs[q]?) ∧ R cs x
/-- Five cells that hold a value. -/
def RdV : (d : Nat) → World → List Value → Val d → Prop
  | 0, _, _, _ => False
  | d + 1, w, cs, (k, n, t, its, ks) => ∃ iv kv, cs = [.int .i64 k, .int .i64 n, .string t, iv, kv] ∧ RdS w (RdV d w) iv its ∧ its.length ≤ maxLen ∧ Reads w kv (ks.map .string) ∧ ks.length ≤ maxLen ∧ t.size ≤ maxLen ∧ ∀ x ∈ ks, x.size ≤ maxLen

theorem RdS.below {α : Type} {w w' : World} {R R' : List Value → α → Prop} {iv : Value} {its : List α} (h : RdS w R iv its) (hb : Below w.heap.size w w') (hR : ∀ cs x, R cs x → R' cs x) : RdS w' R' iv its := by
  obtain ⟨ao, cap, rfl, hc⟩ := h
  refine ⟨ao, cap, rfl, fun j x hx => ?_⟩
  obtain ⟨g, off, cs, h1, h2, h3, h4⟩ := hc j x hx
  refine ⟨g, off, cs, h1, h2, fun q hq => ?_, hR cs x h4⟩
  have h5 := h3 q hq
  rw [List.getElem?_eq_getElem (by omega)] at h5
  rw [List.getElem?_eq_getElem (by omega)]
  exact (hb.cell (World.block_lt_of_cell? w _ h5)).trans h5
theorem RdV.below : ∀ {d : Nat} {w w' : World} {cs : List Value} {x : Val d}, RdV d w cs x → Below w.heap.size w w' → RdV d w' cs x
  | 0, _, _, _, _, h, _ => h.elim
  | d + 1, w, w', cs, (k, n, t, its, ks), h, hb => by
    obtain ⟨iv, kv, h1, h2, h3, h4, h5⟩ := h
    exact ⟨iv, kv, h1, h2.below hb (fun cs x hx => RdV.below hx hb), h3, reads_below h4 hb, h5⟩

theorem list_ofV {α : Type} : ∀ (n : Nat) {P : Nat → α → Prop}, (∀ i, i < n → ∃ x, P i x) → ∃ l : List α, l.length = n ∧ ∀ i x, l[i]? = some x → P i x
  | 0, P, _ => ⟨[], rfl, fun i x h => by simp at h⟩
  | n + 1, P, h => by
    obtain ⟨x, hx⟩ := h 0 (by omega)
    obtain ⟨l, hl, hp⟩ := list_ofV n (P := fun i => P (i + 1)) (fun i hi => h (i + 1) (by omega))
    refine ⟨x :: l, by simp [hl], fun i y hy => ?_⟩
    cases i with
    | zero => simp at hy; subst hy; exact hx
    | succ i => exact hp i y (by simpa using hy)
theorem addr_addV (b off j : Nat) : (⟨b, off, none⟩ : Addr).add j = ⟨b, off + j, none⟩ := by unfold Addr.add; split <;> simp_all

section
variable {H : Type} {enc : TypeId × Value → H} {P : Program} {w : World} {base : Nat} {spare : Nat → Bool} {held : Bool}

theorem open_sliceV {t e : TypeId} {fuel : Nat} {cs : List Value} {x : DataW H × List MemPlace} (ht : P.underlying t = some (.slice e)) (h : DataW.trod enc P w base spare held fuel t cs = some x) :
    ∃ ao len cap n, cs = [.slice ao len cap] ∧ len ≤ maxLen ∧ n < fuel ∧ ∀ i, i < len → ∃ a cs' y, ao = some a ∧ w.cells? base (a.add (i * P.cellsOf e)) (P.cellsOf e) = some cs' ∧ DataW.trod enc P w base spare held n e cs' = some y := by
  have h0 : 0 < fuel := by
    cases fuel with
    | zero => simp [DataW.trod] at h
    | succ n => omega
  rcases DataW.trod_slice ht h with ⟨rfl, _⟩ | ⟨a, len, cap, elems, rest, n, hf, rfl, _, hb, hl, hm, hlen, hel, _, _⟩
  · exact ⟨none, 0, 0, 0, rfl, by simp [maxLen], h0, fun i hi => by omega⟩
  · refine ⟨some a, len, cap, n, rfl, by omega, by omega, fun i hi => ?_⟩
    have := hel i hi
    rw [List.getElem?_eq_getElem (by omega), Option.bind_eq_some_iff] at this
    obtain ⟨cs', h1, h2⟩ := this
    exact ⟨a, cs', _, rfl, h1, h2⟩
theorem head_noneV {a : Addr} {c : Nat} {cs' : List Value} (hc : 0 < c) (h : w.cells? base (a.add (0 * c)) c = some cs') : a.spot = none := by
  obtain ⟨_, hl, hg⟩ := World.cells?_some h
  have h0 := hg 0 hc
  rw [List.getElem?_eq_getElem (by omega)] at h0
  simpa [Addr.add] using World.cell?_spot h0
/-- A slice of texts that came in. -/
theorem open_textsV {t e : TypeId} {fuel : Nat} {cs : List Value} {x : DataW H × List MemPlace} (ht : P.underlying t = some (.slice e)) (he : P.underlying e = some .string) (hc : P.cellsOf e = 1)
    (h : DataW.trod enc P w base spare held fuel t cs = some x) : ∃ (v : Value) (ks : List ByteArray), cs = [v] ∧ Reads w v (ks.map .string) ∧ ks.length ≤ maxLen ∧ ∀ y ∈ ks, y.size ≤ maxLen := by
  obtain ⟨ao, len, cap, n, rfl, hm, _, hel⟩ := open_sliceV ht h
  rw [hc] at hel
  have each : ∀ i, i < len → ∃ s : ByteArray, s.size ≤ maxLen ∧ ∃ g off, ao = some ⟨g, off, none⟩ ∧ w.cell? ⟨g, off + i, none⟩ = some (.string s) := by
    intro i hi'
    obtain ⟨a, cs0, _, ea, h0, _⟩ := hel 0 (by omega)
    have hn := head_noneV (by omega) h0
    obtain ⟨a', cs', y, ea', h1, h2⟩ := hel i hi'
    rw [ea] at ea'
    obtain rfl := Option.some.inj ea'
    obtain ⟨b, off, spot⟩ := a
    simp only at hn
    subst hn
    rw [addr_addV, Nat.mul_one] at h1
    obtain ⟨_, hl, hg⟩ := World.cells?_some h1
    obtain ⟨s, rfl, _, hs⟩ := DataW.trod_string he h2
    have g0 := hg 0 (by omega)
    rw [addr_addV] at g0
    exact ⟨s, hs, b, off, ea, g0⟩
  obtain ⟨ks, hlen, hp⟩ := list_ofV len each
  refine ⟨_, ks, rfl, ⟨ao, cap, by simp [hlen], fun j y hy => ?_⟩, by omega, fun y hy => ?_⟩
  · rw [List.getElem?_map] at hy
    cases e9 : ks[j]? with
    | none => rw [e9] at hy; cases hy
    | some s =>
      rw [e9] at hy
      simp at hy
      subst hy
      exact (hp j s e9).2
  · obtain ⟨j, hj⟩ := List.getElem?_of_mem hy
    exact (hp j y hj).1

theorem trod_struct5 {t : TypeId} {f0 f1 f2 f3 f4 : Field} {fuel : Nat} {cs : List Value} {x : DataW H × List MemPlace} (ht : P.underlying t = some (.struct #[f0, f1, f2, f3, f4])) (h : DataW.trod enc P w base spare held fuel t cs = some x) :
    ∃ y0 y1 y2 y3 y4 n, n < fuel ∧ cs.length = P.cellsOf t ∧ DataW.trod enc P w base spare held n f0.type ((cs.drop f0.offset).take (P.cellsOf f0.type)) = some y0 ∧ DataW.trod enc P w base spare held n f1.type ((cs.drop f1.offset).take (P.cellsOf f1.type)) = some y1 ∧
      DataW.trod enc P w base spare held n f2.type ((cs.drop f2.offset).take (P.cellsOf f2.type)) = some y2 ∧ DataW.trod enc P w base spare held n f3.type ((cs.drop f3.offset).take (P.cellsOf f3.type)) = some y3 ∧ DataW.trod enc P w base spare held n f4.type ((cs.drop f4.offset).take (P.cellsOf f4.type)) = some y4 := by
  obtain ⟨xs, n, hn, rfl, hl, hlen, hf⟩ := DataW.trod_struct ht h
  match xs, hlen with
  | [y0, y1, y2, y3, y4], _ => exact ⟨y0, y1, y2, y3, y4, n, by omega, hl, by simpa using hf 0 f0 rfl, by simpa using hf 1 f1 rfl, by simpa using hf 2 f2 rfl, by simpa using hf 3 f3 rfl, by simpa using hf 4 f4 rfl⟩

/-- What the type of a value must be. -/
structure ValT (P : Program) (t : TypeId) : Prop where
  ex : ∃ f0 f1 f2 f3 f4 ti ts tv tk, P.underlying t = some (.struct #[f0, f1, f2, f3, f4]) ∧ P.cellsOf t = 5 ∧ f0.type = ti ∧ f1.type = ti ∧ f2.type = ts ∧ f3.type = tv ∧ f4.type = tk ∧ f0.offset = 0 ∧ f1.offset = 1 ∧ f2.offset = 2 ∧ f3.offset = 3 ∧ f4.offset = 4 ∧
    P.underlying ti = some (.int .i64) ∧ P.cellsOf ti = 1 ∧ P.underlying ts = some .string ∧ P.cellsOf ts = 1 ∧ P.underlying tv = some (.slice t) ∧ P.cellsOf tv = 1 ∧ P.underlying tk = some (.slice ts) ∧ P.cellsOf tk = 1

theorem open_value {t : TypeId} (hT : ValT P t) : ∀ (fuel d : Nat), fuel ≤ d → ∀ {cs : List Value} {x : DataW H × List MemPlace}, DataW.trod enc P w base spare held fuel t cs = some x → ∃ y : Val (d + 1), RdV (d + 1) w cs y := by
  obtain ⟨f0, f1, f2, f3, f4, ti, ts, tv, tk, ht, h5, k0, k1, k2, k3, k4, o0, o1, o2, o3, o4, ui, ci, us, cs9, uv, cv, uk, ck⟩ := hT.ex
  intro fuel
  induction fuel using Nat.strongRecOn with
  | ind fuel ih =>
    intro d hd cs x h
    obtain ⟨y0, y1, y2, y3, y4, n, hn, hl, t0, t1, t2, t3, t4⟩ := trod_struct5 ht h
    rw [k0, o0, ci] at t0
    rw [k1, o1, ci] at t1
    rw [k2, o2, cs9] at t2
    rw [k3, o3, cv] at t3
    rw [k4, o4, ck] at t4
    rw [h5] at hl
    match cs, hl with
    | [c0, c1, c2, c3, c4], _ =>
      simp at t0 t1 t2 t3 t4
      obtain ⟨kk, e0, _, _⟩ := DataW.trod_int ui t0
      obtain ⟨nn, e1, _, _⟩ := DataW.trod_int ui t1
      obtain ⟨tt, e2, _, hts⟩ := DataW.trod_string us t2
      obtain ⟨kv, ks, e4, hks, hkl, hkx⟩ := open_textsV uk us cs9 t4
      obtain ⟨ao, len, cap, m, e3, hm, hmn, hel⟩ := open_sliceV uv t3
      simp at e0 e1 e2 e3 e4
      subst e0 e1 e2 e3 e4
      rw [h5] at hel
      obtain ⟨d', rfl⟩ : ∃ d', d = d' + 1 := ⟨d - 1, by omega⟩
      have each : ∀ i, i < len → ∃ y : Val (d' + 1), ∃ g off cs, ao = some ⟨g, off, none⟩ ∧ cs.length = 5 ∧ (∀ q, q < 5 → w.cell? ⟨g, off + i * 5 + q, none⟩ = cs[q]?) ∧ RdV (d' + 1) w cs y := by
        intro i hi'
        obtain ⟨a, cs0, _, ea, h0, _⟩ := hel 0 (by omega)
        have hnn := head_noneV (by omega) h0
        obtain ⟨a', cs', y, ea', h1, h2⟩ := hel i hi'
        rw [ea] at ea'
        obtain rfl := Option.some.inj ea'
        obtain ⟨b, off, spot⟩ := a
        simp only at hnn
        subst hnn
        rw [addr_addV] at h1
        obtain ⟨_, hl9, hg⟩ := World.cells?_some h1
        obtain ⟨v, hv⟩ := ih m (by omega) d' (by omega) h2
        refine ⟨v, b, off, cs', ea, hl9, fun q hq => ?_, hv⟩
        have g9 := hg q hq
        rw [addr_addV] at g9
        exact g9
      obtain ⟨its, hlen, hp⟩ := list_ofV len each
      exact ⟨(kk, nn, tt, its, ks), _, _, rfl, ⟨ao, cap, by rw [hlen], hp⟩, by omega, hks, hkl, hts, hkx⟩
end

end Go.Proofs.Ytepahapocgmhiaa
