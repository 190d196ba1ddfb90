/-
  Put together out of: Lift, OpenProc.
-/
import Derived.Test.YtnjbihfceckpfaaG00Stmt
import Derived.Carry
import Derived.Test.YtnjbihfceckpfaaProc
import Derived.Lib.SmallJoins
/-
  From a walk that ends in 'Below' to the row's 'post', for a law: it returns true, and its arguments read as they read before.
-/
namespace Go.Proofs.Ytnjbihfceckpfaa
open Go.ChangeShapes Go.WideShapes Go.ChangeAt Go.RowKit

theorem below_trodAll {H : Type} {enc : TypeId × Value → H} {P : Program} (hl : laidOutB P = true) {W W' : World} (hb : Below W.heap.size W W') :
    ∀ (ts : List TypeId) (vs : List Value) (ds : List (DataW H)) (ps : List MemPlace), (∀ t ∈ ts, P.readableRec t = true ∧ t < P.types.size) →
      DataW.TrodAll enc P W 0 (fun _ => true) true ts vs ds ps → (∀ x ∈ ps, x.block < W.heap.size) →
      DataW.TrodAll enc P W' 0 (fun b => decide (b < W.heap.size)) true ts vs ds ps
  | [], vs, ds, ps, _, h, _ => by
    obtain ⟨rfl, rfl, rfl⟩ := trodAll_nil h
    exact trodAll_mk0
  | t :: ts, vs, ds, ps, ht, h, hlt => by
    obtain ⟨v, vs', d, ds', p, q, rfl, rfl, rfl, h0, hr⟩ := trodAll_cons h
    refine trodAll_cons_mk (Below.trod hl (ht t (by simp)).1 (ht t (by simp)).2 h0 hb (fun x hx => hlt x (by simp [hx])))
      (below_trodAll hl hb ts vs' ds' q (fun t' h' => ht t' (by simp [h'])) hr (fun x hx => hlt x (by simp [hx])))

theorem all_readable {P : Program} {ts : List TypeId} (h : ts.all (fun t => P.readableRec t && decide (t < P.types.size)) = true) : ∀ t ∈ ts, P.readableRec t = true ∧ t < P.types.size := by
  intro t ht
  have := List.all_eq_true.1 h t ht
  rw [Bool.and_eq_true] at this
  exact ⟨this.1, of_decide_eq_true this.2⟩

theorem law_post {H : Type} {enc : TypeId × Value → H} {P : Program} {f : Func} {s : ChangeSpec} {W W' : World} {args : Array Value} {ds : List (DataW H)} {before : List MemPlace} {tb : TypeId}
    (hl : laidOutB P = true) (hts : ∀ t ∈ f.params.toList, P.readableRec t = true ∧ t < P.types.size)
    (hW : DataW.Whole enc P f.params.toList s.vars false W args.toList ds [] before)
    (hr : f.resultTypes = #[tb]) (htb : P.underlying tb = some .bool) (hv : s.vars = [])
    (hs : s.fn H (ds ++ []) = { results := [.lit (.bool true)], args := ds }) (hbel : Below W.heap.size W W') :
    s.post enc P f false true false false W args (.bool true) W' := by
  have hlt : ∀ x ∈ before, x.block < W.heap.size := fun x hx => by simpa using hW.lt x hx
  have hW2 := hW
  obtain ⟨p, q, hA, hV, rfl, _, _⟩ := hW2
  rw [hv] at hV
  obtain ⟨_, rfl⟩ := trodVars_none hV
  rw [List.append_nil] at hlt hW
  refine ⟨ds, [], p, [], p, [], hW, ?_, ?_, ?_, hbel.frame _, fun h => by cases h⟩
  · rw [hr, hs]; exact trodAll_mk1 (shut_bool htb _)
  · rw [hs]; exact below_trodAll hl hbel _ _ _ _ hts hA hlt
  · rw [hv, hs]; rfl

end Go.Proofs.Ytnjbihfceckpfaa

/-
  Procs and Programs that came in, opened: slices of statements, slices of such slices.
-/
namespace Go.Proofs.Ytnjbihfceckpfaa
set_option maxRecDepth 100000
open Go.ChangeShapes Go.WideShapes Go.ChangeAt Go.RowKit
set_option linter.unusedVariables false
set_option maxHeartbeats 4000000

theorem list_of {α : Type} : ∀ (n : Nat) {P : Nat → α → Prop}, (∀ i, i < n → ∃ x, P i x) → ∃ l : List α, l.length = n ∧ ∀ i x, l[i]? = some x → P i x
  | 0, P, _ => ⟨[], rfl, fun i x h => by simp at h⟩
  | n + 1, P, h => by
    obtain ⟨x, hx⟩ := h 0 (by omega)
    obtain ⟨l, hl, hp⟩ := list_of n (P := fun i => P (i + 1)) (fun i hi => h (i + 1) (by omega))
    refine ⟨x :: l, by simp [hl], fun i y hy => ?_⟩
    cases i with
    | zero => simp at hy; subst hy; exact hx
    | succ i => exact hp i y (by simpa using hy)

theorem addr_add (b off j : Nat) : (⟨b, off, none⟩ : Addr).add j = ⟨b, off + j, none⟩ := by unfold Addr.add; split <;> simp_all

section
variable {H : Type} {enc : TypeId × Value → H} {P : Program} {w : World} {base : Nat} {spare : Nat → Bool} {held : Bool}

theorem open_slice {t e : TypeId} {fuel : Nat} {cs : List Value} {x : DataW H × List MemPlace} (ht : P.underlying t = some (.slice e)) (h : DataW.trod enc P w base spare held fuel t cs = some x) :
    ∃ ao len cap, cs = [.slice ao len cap] ∧ len ≤ maxLen ∧ ∀ i, i < len → ∃ a cs' n y, ao = some a ∧ w.cells? base (a.add (i * P.cellsOf e)) (P.cellsOf e) = some cs' ∧ DataW.trod enc P w base spare held n e cs' = some y := by
  rcases DataW.trod_slice ht h with ⟨rfl, _⟩ | ⟨a, len, cap, elems, rest, n, _, rfl, _, hb, hl, hm, hlen, hel, _, _⟩
  · exact ⟨none, 0, 0, rfl, by simp [maxLen], fun i hi => by omega⟩
  · refine ⟨some a, len, cap, rfl, by omega, fun i hi => ?_⟩
    have := hel i hi
    rw [List.getElem?_eq_getElem (by omega), Option.bind_eq_some_iff] at this
    obtain ⟨cs', h1, h2⟩ := this
    exact ⟨a, cs', n, _, rfl, h1, h2⟩

/-- The slice's head is a place of a row, where it holds anything. -/
theorem head_none {a : Addr} {len c : Nat} {cs' : List Value} (hc : 0 < c) (h : w.cells? base (a.add (0 * c)) c = some cs') : a.spot = none := by
  obtain ⟨_, hl, hg⟩ := World.cells?_some h
  have h0 := hg 0 hc
  rw [List.getElem?_eq_getElem (by omega)] at h0
  simpa [Addr.add] using World.cell?_spot h0

theorem open_stmts {t e ti : TypeId} {f0 f1 f2 : Field} {fuel : Nat} {cs : List Value} {x : DataW H × List MemPlace} (ht : P.underlying t = some (.slice e)) (he : P.underlying e = some (.struct #[f0, f1, f2])) (hc : P.cellsOf e = 3)
    (k0 : f0.type = ti) (k1 : f1.type = ti) (k2 : f2.type = ti) (o0 : f0.offset = 0) (o1 : f1.offset = 1) (o2 : f2.offset = 2) (hi : P.underlying ti = some (.int .i64)) (hci : P.cellsOf ti = 1)
    (h : DataW.trod enc P w base spare held fuel t cs = some x) : ∃ v ss, cs = [v] ∧ Reads3 w v ss ∧ ss.length ≤ maxLen := by
  obtain ⟨ao, len, cap, rfl, hm, hel⟩ := open_slice ht h
  rw [hc] at hel
  have each : ∀ i, i < len → ∃ s : Stm, ∃ g off, ao = some ⟨g, off, none⟩ ∧ w.cell? ⟨g, off + i * 3, none⟩ = some (.int .i64 s.k) ∧ w.cell? ⟨g, off + i * 3 + 1, none⟩ = some (.int .i64 s.x) ∧ w.cell? ⟨g, off + i * 3 + 2, none⟩ = some (.int .i64 s.y) := by
    intro i hi'
    obtain ⟨a, cs0, _, _, ea, h0, _⟩ := hel 0 (by omega)
    have hn := head_none (len := len) (by omega) h0
    obtain ⟨a', cs', n, y, ea', h1, h2⟩ := hel i hi'
    rw [ea] at ea'
    obtain rfl := Option.some.inj ea'
    obtain ⟨b, off, spot⟩ := a
    simp only at hn
    subst hn
    rw [addr_add] at h1
    obtain ⟨_, hl, hg⟩ := World.cells?_some h1
    obtain ⟨y0, y1, y2, m, _, _, t0, t1, t2⟩ := Go.Deep.trod_struct3 he h2
    rw [k0, o0, hci] at t0
    rw [k1, o1, hci] at t1
    rw [k2, o2, hci] at t2
    match cs', hl with
    | [c0, c1, c2], _ =>
      simp at t0 t1 t2
      obtain ⟨kk, e0, _, _⟩ := DataW.trod_int hi t0
      obtain ⟨xx, e1, _, _⟩ := DataW.trod_int hi t1
      obtain ⟨yy, e2, _, _⟩ := DataW.trod_int hi t2
      simp at e0 e1 e2
      subst e0 e1 e2
      have g0 := hg 0 (by omega)
      have g1 := hg 1 (by omega)
      have g2 := hg 2 (by omega)
      rw [addr_add] at g0 g1 g2
      exact ⟨⟨kk, xx, yy⟩, b, off, ea, g0, g1, g2⟩
  obtain ⟨ss, hlen, hp⟩ := list_of len each
  exact ⟨_, ss, rfl, ⟨ao, cap, by rw [hlen], hp⟩, by omega⟩

/-- The slice v holds the procedures ps. -/
def ReadsP (w : World) (v : Value) (ps : List (List Stm)) : Prop :=
  ∃ ao cap, v = .slice ao ps.length cap ∧ ∀ j p, ps[j]? = some p → ∃ g off u, ao = some ⟨g, off, none⟩ ∧ w.cell? ⟨g, off + j, none⟩ = some u ∧ Reads3 w u p

theorem readsP_below {w w' : World} {v : Value} {ps : List (List Stm)} (h : ReadsP w v ps) (hb : Below w.heap.size w w') : ReadsP w' v ps := by
  obtain ⟨ao, cap, rfl, hc⟩ := h
  refine ⟨ao, cap, rfl, fun j p hp => ?_⟩
  obtain ⟨g, off, u, hg, hcell, hr⟩ := hc j p hp
  exact ⟨g, off, u, hg, (hb.cell (World.block_lt_of_cell? w _ hcell)).trans hcell, reads3_below hr hb⟩

theorem open_procs {t e tp te ti : TypeId} {f f0 f1 f2 : Field} {fuel : Nat} {cs : List Value} {x : DataW H × List MemPlace} (htp : P.underlying tp = some (.slice t)) (hte : P.underlying t = some (.struct #[f])) (hct : P.cellsOf t = 1)
    (kf : f.type = te) (kof : f.offset = 0) (hcf : P.cellsOf te = 1) (ht : P.underlying te = some (.slice e)) (he : P.underlying e = some (.struct #[f0, f1, f2])) (hc : P.cellsOf e = 3)
    (k0 : f0.type = ti) (k1 : f1.type = ti) (k2 : f2.type = ti) (o0 : f0.offset = 0) (o1 : f1.offset = 1) (o2 : f2.offset = 2) (hi : P.underlying ti = some (.int .i64)) (hci : P.cellsOf ti = 1)
    (h : DataW.trod enc P w base spare held fuel tp cs = some x) : ∃ v ps, cs = [v] ∧ ReadsP w v ps ∧ ps.length ≤ maxLen ∧ ∀ p ∈ ps, p.length ≤ maxLen := by
  obtain ⟨ao, len, cap, rfl, hm, hel⟩ := open_slice htp h
  rw [hct] at hel
  have each : ∀ i, i < len → ∃ p : List Stm, (∃ g off u, ao = some ⟨g, off, none⟩ ∧ w.cell? ⟨g, off + i, none⟩ = some u ∧ Reads3 w u p) ∧ p.length ≤ maxLen := by
    intro i hi'
    obtain ⟨a, cs0, _, _, ea, h0, _⟩ := hel 0 (by omega)
    have hn := head_none (len := len) (by omega) h0
    obtain ⟨a', cs', n, y, ea', h1, h2⟩ := hel i hi'
    rw [ea] at ea'
    obtain rfl := Option.some.inj ea'
    obtain ⟨b, off, spot⟩ := a
    simp only at hn
    subst hn
    rw [addr_add, Nat.mul_one] at h1
    obtain ⟨_, hl, hg⟩ := World.cells?_some h1
    obtain ⟨y0, m, _, _, t0⟩ := trod_struct1 hte h2
    rw [kf, kof, hcf] at t0
    match cs', hl with
    | [c0], _ =>
      simp at t0
      obtain ⟨u, p, e0, hr, hpl⟩ := open_stmts ht he hc k0 k1 k2 o0 o1 o2 hi hci t0
      simp at e0
      subst e0
      have g0 := hg 0 (by omega)
      rw [addr_add] at g0
      exact ⟨p, ⟨b, off, _, ea, g0, hr⟩, hpl⟩
  obtain ⟨ps, hlen, hp⟩ := list_of len each
  refine ⟨_, ps, rfl, ⟨ao, cap, by rw [hlen], fun j p hj => (hp j p hj).1⟩, by omega, fun p hpm => ?_⟩
  obtain ⟨j, hj⟩ := List.getElem?_of_mem hpm
  exact (hp j p hj).2

end

theorem own : ownKnob Try.prog.godebug = none := by kernel_rfl
theorem laidOut : laidOutB Try.prog = true := by kernel_rfl
theorem cellsStmt : Try.prog.cellsOf 173 = 3 := by kernel_rfl
theorem cellsProc : Try.prog.cellsOf 118 = 1 := by kernel_rfl
theorem cellsProgram : Try.prog.cellsOf 24 = 1 := by kernel_rfl
theorem cellsStmts : Try.prog.cellsOf 116 = 1 := by kernel_rfl
theorem cellsProcs : Try.prog.cellsOf 22 = 1 := by kernel_rfl
theorem cellsInt : Try.prog.cellsOf 2 = 1 := by kernel_rfl

/-- A Proc that came in. -/
theorem open_proc {H : Type} {enc : TypeId × Value → H} {W : World} {base : Nat} {held : Bool} {r : Reach} {b0 : Nat} {v0 : Value} {d : DataW H} {p : List MemPlace}
    (hv : Value.okWide Try.prog W r b0 118 v0) (h : DataW.Trod enc Try.prog W base (fun _ => true) held 118 v0 d p) :
    ∃ v ss, v0 = .agg #[v] ∧ Reads3 W v ss ∧ ss.length ≤ maxLen := by
  obtain ⟨cs, rfl, hsz⟩ := okWide_struct Try.underlying118 hv
  rw [cellsProc] at hsz
  obtain ⟨c, rfl⟩ : ∃ c, cs = #[c] := Array.size_eq_one_iff.1 hsz
  obtain ⟨fuel, hf⟩ := h
  obtain ⟨y0, m, _, _, t0⟩ := trod_struct1 Try.underlying118 hf
  simp [Value.cells, cellsStmts] at t0
  obtain ⟨u, ss, e0, hr, hl⟩ := open_stmts (ti := 2) Try.underlying116 Try.underlying173 cellsStmt rfl rfl rfl rfl rfl rfl Try.underlying2 cellsInt t0
  simp at e0
  subst e0
  exact ⟨_, ss, rfl, hr, hl⟩

/-- A Program that came in. -/
theorem open_program {H : Type} {enc : TypeId × Value → H} {W : World} {base : Nat} {held : Bool} {r : Reach} {b0 : Nat} {v0 : Value} {d : DataW H} {p : List MemPlace}
    (hv : Value.okWide Try.prog W r b0 24 v0) (h : DataW.Trod enc Try.prog W base (fun _ => true) held 24 v0 d p) :
    ∃ v ps, v0 = .agg #[v] ∧ ReadsP W v ps ∧ ps.length ≤ maxLen ∧ ∀ q ∈ ps, q.length ≤ maxLen := by
  obtain ⟨cs, rfl, hsz⟩ := okWide_struct Try.underlying24 hv
  rw [cellsProgram] at hsz
  obtain ⟨c, rfl⟩ : ∃ c, cs = #[c] := Array.size_eq_one_iff.1 hsz
  obtain ⟨fuel, hf⟩ := h
  obtain ⟨y0, m, _, _, t0⟩ := trod_struct1 Try.underlying24 hf
  simp [Value.cells, cellsProcs] at t0
  obtain ⟨u, ps, e0, hr, hl, hq⟩ := open_procs (te := 116) (ti := 2) Try.underlying22 Try.underlying118 cellsProc rfl rfl cellsStmts Try.underlying116 Try.underlying173 cellsStmt rfl rfl rfl rfl rfl rfl Try.underlying2 cellsInt t0
  simp at e0
  subst e0
  exact ⟨_, ps, rfl, hr, hl, hq⟩

end Go.Proofs.Ytnjbihfceckpfaa
