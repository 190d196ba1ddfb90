/-
 Put together out of: DrawAnyM, DrawAnyN.
-/
import Derived.Test.YtnjbihfceckpfaaG04IntS
import Derived.Test.YtnjbihfceckpfaaG05RelM
import Derived.Test.YtnjbihfceckpfaaRelTab
/-
 What spec.l3DrawAny answers: some Program, right or wrong, in memory of its own: what is there, and what stays of it.
-/
namespace Go.Proofs.Ytnjbihfceckpfaa
open Go.RowKit
set_option linter.unusedVariables false
set_option linter.unusedSimpArgs false
set_option maxHeartbeats 4000000
set_option maxRecDepth 20000

/-- The first 3 m cells of block b are numbers: m statements. -/
def SB (w : World) (b m : Nat) : Prop := ∃ C : Array Value, w.heap[b]? = some (.cells C 92 (0, 0)) ∧ 3 * m ≤ C.size ∧ ∀ i, i < 3 * m → ∃ z : Int, C[i]? = some (.int .i64 z)

/-- x is a slice of n statements in blocks from base on. -/
def SlOk (w : World) (base : Nat) (x : Value) (n : Nat) : Prop := (x = .slice none 0 0 ∧ n = 0) ∨ ∃ g o cap m, x = .slice (some ⟨g, o * 3, none⟩) n cap ∧ base ≤ g ∧ SB w g m ∧ o + n ≤ m

/-- u is a slice of slices of statements, as long as L tells. -/
def PrOk (w : World) (base : Nat) (u : Value) (L : List Nat) : Prop :=
 ∃ ao cap, u = .slice ao L.length cap ∧ ∀ j n, L[j]? = some n → ∃ g off x, ao = some ⟨g, off, none⟩ ∧ base ≤ g ∧ w.cell? ⟨g, off + j, none⟩ = some x ∧ SlOk w base x n

theorem SB.same {w w' : World} {b m : Nat} (h : SB w b m) (he : w'.heap[b]? = w.heap[b]?) : SB w' b m := by
 obtain ⟨C, h1, h2, h3⟩ := h
 exact ⟨C, he.trans h1, h2, h3⟩
theorem SB.lt {w : World} {b m : Nat} (h : SB w b m) : b < w.heap.size := by
 obtain ⟨C, h1, _⟩ := h
 exact (Array.getElem?_eq_some_iff.1 h1).1
theorem SB.cell {w : World} {b m : Nat} (h : SB w b m) {i : Nat} (hi : i < 3 * m) : ∃ z : Int, w.cell? ⟨b, i, none⟩ = some (.int .i64 z) ∧ w.frozen? ⟨b, i, none⟩ = false := by
 obtain ⟨C, h1, h2, h3⟩ := h
 obtain ⟨z, hz⟩ := h3 i hi
 exact ⟨z, by rw [cell_of_row w b i C _ (0, 0) h1]; exact hz, frozen_of_row w b i C _ h1⟩
/-- A number that is stored into it. -/
theorem SB.put {w : World} {b m : Nat} (h : SB w b m) (i : Nat) (z : Int) : SB (w.setCell ⟨b, i, none⟩ (.int .i64 z)) b m := by
 obtain ⟨C, h1, h2, h3⟩ := h
 refine ⟨C.setIfInBounds i (.int .i64 z), heap_setCell_same w b i C _ _ h1, by simpa using h2, fun k hk => ?_⟩
 by_cases e : i = k
 · subst e
   have : i < C.size := by omega
   exact ⟨z, by simp [this]⟩
 · obtain ⟨y, hy⟩ := h3 k hk
   exact ⟨y, by rw [Array.getElem?_setIfInBounds_ne e]; exact hy⟩

theorem PrOk.grown {w w' : World} {base : Nat} {u : Value} {L : List Nat} {row : Option Nat} (h : PrOk w base u L) (hg : w.grownBy w' row) (hr : ∀ k, row = some k → k < base) : PrOk w' base u L := by
 obtain ⟨ao, cap, rfl, hc⟩ := h
 refine ⟨ao, cap, rfl, fun j n hj => ?_⟩
 obtain ⟨g, off, x, e, hgb, cx, hs⟩ := hc j n hj
 refine ⟨g, off, x, e, hgb, hg.cell cx (fun e => by have := hr _ e.symm; simp at this; omega), ?_⟩
 rcases hs with hs | ⟨g', o, c', m, e', hb', hsb, hle⟩
 · exact .inl hs
 · exact .inr ⟨g', o, c', m, e', hb', hsb.same (hg.block g' hsb.lt (fun e => by have := hr _ e.symm; omega)), hle⟩

theorem own_capD {w : World} {base : Nat} {e : TypeId} {s g n cap : Nat} {xs : List Value} (h : w.ownsRow base e s (.slice (some ⟨g, 0, none⟩) n cap) n xs) : n ≤ cap := by
 rcases h.2 with ⟨e, _⟩ | ⟨g', cap', cur, e, _, _, hnc, _⟩
 · cases e
 · cases e; exact hnc

theorem cells3_int : ∀ (p : List Stm) (i : Nat), i < 3 * p.length → ∃ z : Int, (cells3 p)[i]? = some (.int .i64 z)
 | [], i, h => by simp at h
 | s :: p, 0, _ => ⟨s.k, rfl⟩
 | s :: p, 1, _ => ⟨s.x, rfl⟩
 | s :: p, 2, _ => ⟨s.y, rfl⟩
 | s :: p, i + 3, h => by
  obtain ⟨z, hz⟩ := cells3_int p i (by simp at h; omega)
  exact ⟨z, by simpa [cells3] using hz⟩

theorem own_SlOk {w : World} {base : Nat} {x : Value} {p : List Stm} (h : w.ownsRow base 92 3 x p.length (cells3 p)) : SlOk w base x p.length := by
 rcases h.2 with ⟨rfl, hn⟩ | ⟨g, cap, cur, rfl, hbg, hg, hnc, _, hcs, htk⟩
 · exact .inl ⟨rfl, hn⟩
 · refine .inr ⟨g, 0, cap, p.length, rfl, hbg, ⟨cur, hg, by omega, fun i hi => ?_⟩, by omega⟩
   obtain ⟨z, hz⟩ := cells3_int p i hi
   refine ⟨z, ?_⟩
   rw [← htk, List.getElem?_take] at hz
   split at hz
   · simpa using hz
   · cases hz

theorem Rows2.prOk {w : World} {base : Nat} {u : Value} {ps : List (List Stm)} (h : Rows2 w base u ps) : PrOk w base u (ps.map List.length) := by
 obtain ⟨us, ho, hi⟩ := h
 have hl := ho.1
 simp only [Nat.mul_one] at hl
 rcases ho.2 with ⟨rfl, hn⟩ | ⟨g, cap, cur, rfl, hbg, _⟩
 · exact ⟨none, 0, by simp [hn], fun j n hj => by rw [List.eq_nil_of_length_eq_zero hn] at hj; simp at hj⟩
 · refine ⟨some ⟨g, 0, none⟩, cap, by simp, fun j n hj => ?_⟩
   rw [List.getElem?_map] at hj
   obtain ⟨p, hp, rfl⟩ := Option.map_eq_some_iff.1 hj
   have hjl : j < ps.length := (List.getElem?_eq_some_iff.1 hp).1
   have hju : j < us.length := by omega
   refine ⟨g, 0, us[j], rfl, hbg, ?_, own_SlOk (hi j us[j] p (by simp [hju]) hp)⟩
   rw [Nat.zero_add, ho.cellAt j (by omega)]
   simp [hju]

theorem SlOk.reads {w : World} {base : Nat} {x : Value} {n : Nat} (h : SlOk w base x n) : ∃ p : List Stm, Reads3 w x p ∧ p.length = n := by
 rcases h with ⟨rfl, rfl⟩ | ⟨g, o, cap, m, rfl, _, hs, hle⟩
 · exact ⟨[], ⟨none, 0, rfl, fun j s hj => by simp at hj⟩, rfl⟩
 · have each : ∀ i, i < n → ∃ s : Stm, w.cell? ⟨g, o * 3 + i * 3, none⟩ = some (.int .i64 s.k) ∧ w.cell? ⟨g, o * 3 + i * 3 + 1, none⟩ = some (.int .i64 s.x) ∧ w.cell? ⟨g, o * 3 + i * 3 + 2, none⟩ = some (.int .i64 s.y) := fun i hi => by
    obtain ⟨a, ha, _⟩ := hs.cell (i := o * 3 + i * 3) (by omega)
    obtain ⟨b, hb, _⟩ := hs.cell (i := o * 3 + i * 3 + 1) (by omega)
    obtain ⟨c, hc, _⟩ := hs.cell (i := o * 3 + i * 3 + 2) (by omega)
    exact ⟨⟨a, b, c⟩, ha, hb, hc⟩
   obtain ⟨p, hp, hq⟩ := list_of n each
   exact ⟨p, ⟨some ⟨g, o * 3, none⟩, cap, by rw [hp], fun j s hj => ⟨g, o * 3, rfl, hq j s hj⟩⟩, hp⟩

/-- What is there is a Program. -/
theorem PrOk.reads {w : World} {base : Nat} {u : Value} {L : List Nat} (h : PrOk w base u L) : ∃ ps : List (List Stm), ReadsP w u ps ∧ ps.map List.length = L := by
 obtain ⟨ao, cap, rfl, hc⟩ := h
 have each : ∀ i, i < L.length → ∃ p : List Stm, (∃ g off x, ao = some ⟨g, off, none⟩ ∧ w.cell? ⟨g, off + i, none⟩ = some x ∧ Reads3 w x p) ∧ L[i]? = some p.length := fun i hi => by
  obtain ⟨g, off, x, e, _, cx, hs⟩ := hc i L[i] (by simp [hi])
  obtain ⟨p, hp, hl⟩ := hs.reads
  exact ⟨p, ⟨g, off, x, e, cx, hp⟩, by simp [hi, hl]⟩
 obtain ⟨ps, hl, hq⟩ := list_of L.length each
 refine ⟨ps, ⟨ao, cap, by rw [hl], fun j p hj => (hq j p hj).1⟩, ?_⟩
 refine List.ext_getElem? (fun j => ?_)
 rw [List.getElem?_map]
 by_cases hj : j < ps.length
 · have := (hq j ps[j] (by simp [hj])).2
   rw [this]; simp [hj]
 · rw [List.getElem?_eq_none (by omega), List.getElem?_eq_none (by omega)]; rfl

/-- What l3DrawAny has in hand: the Program in its box, the box of what is answered, the cursor. -/
structure DA (w : World) (g : Nat) (bs : List Int) (P : Nat) (u : Value) (ps : List (List Stm)) (wr : World) : Prop where
 rows : Rows2 wr (w.heap.size + 1) u ps
 box : wr.heap[P]? = some (.cells #[u] 30 (0, 0))
 res : wr.heap[w.heap.size]? = some (.cells #[.slice none 0 0] 30 (0, 0))
 cur : Cur wr g bs
 gr : w.grownBy wr (some g)

theorem DA.draw {w : World} {g : Nat} {bs : List Int} {P : Nat} {u : Value} {ps : List (List Stm)} {wr wr' : World} (h : DA w g bs P u ps wr) (hgw : g < w.heap.size) (hP : w.heap.size < P) (hc : Cur wr' g bs) (hg : wr.grownBy wr' (some g)) : DA w g bs P u ps wr' :=
 ⟨rows2_grown h.rows hg (by omega), blockGrown h.box hg (by omega), blockGrown h.res hg hgw, hc, grown_trans h.gr hg⟩

/-- What is answered. -/
theorem DA.ends {w : World} {g : Nat} {bs : List Int} {wr : World} {u : Value} {L : List Nat} (hgw : g < w.heap.size) (hr : PrOk wr (w.heap.size + 1) u L) (hc : Cur wr g bs) (hg : w.grownBy wr (some g)) :
 PrOk (wr.setCell ⟨w.heap.size, 0, none⟩ u) w.heap.size u L ∧ Cur (wr.setCell ⟨w.heap.size, 0, none⟩ u) g bs ∧ w.grownBy (wr.setCell ⟨w.heap.size, 0, none⟩ u) (some g) := by
 have gs : wr.grownBy (wr.setCell ⟨w.heap.size, 0, none⟩ u) (some w.heap.size) := grown_setCell7 wr w.heap.size 0 u
 refine ⟨?_, curSet hc hgw _, grownSet hg (Nat.le_refl _) _⟩
 have h1 := hr.grown gs (fun k hk => by cases hk; omega)
 obtain ⟨ao, cap, e, hcc⟩ := h1
 refine ⟨ao, cap, e, fun j n hj => ?_⟩
 obtain ⟨q, off, x, e1, hb, cx, hs⟩ := hcc j n hj
 refine ⟨q, off, x, e1, by omega, cx, ?_⟩
 rcases hs with hs | ⟨g', o, c', m, e', hb', hsb, hle⟩
 · exact .inl hs
 · exact .inr ⟨g', o, c', m, e', by omega, hsb, hle⟩

/-- A slice of statements is stored into the list of procedures. -/
theorem PrOk.put {w : World} {base gu cap i n : Nat} {x : Value} {L : List Nat} {C : Array Value} (h : PrOk w base (.slice (some ⟨gu, 0, none⟩) L.length cap) L) (hT : w.heap[gu]? = some (.cells C 81 (0, 0))) (hx : SlOk w base x n) (hi : i < L.length) :
 PrOk (w.setCell ⟨gu, i, none⟩ x) base (.slice (some ⟨gu, 0, none⟩) L.length cap) (L.set i n) := by
 have keep : ∀ {y : Value} {m : Nat}, SlOk w base y m → SlOk (w.setCell ⟨gu, i, none⟩ x) base y m := by
  intro y m hy
  rcases hy with hs | ⟨g', o, c', m', e', hb', hsb, hle⟩
  · exact .inl hs
  · refine .inr ⟨g', o, c', m', e', hb', hsb.same ?_, hle⟩
    refine (grown_setCell7 w gu i x).block g' hsb.lt (fun e => ?_)
    have e := Option.some.inj e
    subst e
    obtain ⟨C', h1, _⟩ := hsb
    rw [hT] at h1
    injection h1 with h1
    injection h1 with _ h1
    revert h1
    decide
 obtain ⟨ao, cap', e, hc⟩ := h
 injection e with ea _ ec
 subst ea ec
 refine ⟨some ⟨gu, 0, none⟩, cap, by simp, fun j m hj => ?_⟩
 have hjl : j < L.length := by have := (List.getElem?_eq_some_iff.1 hj).1; simpa using this
 obtain ⟨q, off, y, eq, hq, cy, hs⟩ := hc j L[j] (by simp [hjl])
 cases eq
 by_cases eji : i = j
 · subst eji
   rw [List.getElem?_set_self hi] at hj
   cases hj
   refine ⟨gu, 0, x, rfl, hq, ?_, keep hx⟩
   have hz : w.cell? ⟨gu, 0 + i, none⟩ = C[0 + i]? := cell_of_row w gu (0 + i) C _ (0, 0) hT
   rw [cy] at hz
   have hlt : i < C.size := by have := (Array.getElem?_eq_some_iff.1 hz.symm).1; omega
   rw [cell_of_row _ gu (0 + i) _ _ (0, 0) (heap_setCell_same w gu i C _ x hT)]
   simp [hlt]
 · rw [List.getElem?_set_ne eji] at hj
   rw [List.getElem?_eq_getElem hjl] at hj
   cases hj
   refine ⟨gu, 0, y, rfl, hq, ?_, keep hs⟩
   have hz : w.cell? ⟨gu, 0 + j, none⟩ = C[0 + j]? := cell_of_row w gu (0 + j) C _ (0, 0) hT
   rw [cell_of_row _ gu (0 + j) _ _ (0, 0) (heap_setCell_same w gu i C _ x hT)]
   rw [Array.getElem?_setIfInBounds_ne (by omega), ← hz]
   exact cy

/-- A number is stored into statements. -/
theorem PrOk.putInt {w : World} {base gu off cap gi o n : Nat} {z : Int} {L : List Nat} (h : PrOk w base (.slice (some ⟨gu, off, none⟩) n cap) L) (hne : gu ≠ gi) (hlt : gu < w.heap.size) :
 PrOk (w.setCell ⟨gi, o, none⟩ (.int .i64 z)) base (.slice (some ⟨gu, off, none⟩) n cap) L := by
 obtain ⟨ao, cap', e, hc⟩ := h
 refine ⟨ao, cap', e, fun j m hj => ?_⟩
 obtain ⟨q, off', y, eq, hq, cy, hs⟩ := hc j m hj
 injection e with ea en ec
 have eqq : q = gu := by rw [eq] at ea; injection ea with ea; injection ea with ea; exact ea.symm
 subst eqq
 refine ⟨q, off', y, eq, hq, (grown_setCell7 w gi o _).cell cy (fun e => hne (by simpa using e)), ?_⟩
 rcases hs with hs | ⟨g', o', c', m', e', hb', hsb, hle⟩
 · exact .inl hs
 · refine .inr ⟨g', o', c', m', e', hb', ?_, hle⟩
   by_cases e : g' = gi
   · subst e; exact hsb.put o z
   · exact hsb.same ((grown_setCell7 w gi o _).block g' hsb.lt (fun e' => e (Option.some.inj e')))

/-- Without the first. -/
theorem PrOk.tail {w : World} {base gu off cap cap' : Nat} {L : List Nat} (h : PrOk w base (.slice (some ⟨gu, off, none⟩) L.length cap) L) : PrOk w base (.slice (some ⟨gu, off + 1, none⟩) (L.length - 1) cap') L.tail := by
 obtain ⟨ao, cap', e, hc⟩ := h
 injection e with ea en ec
 subst ea
 refine ⟨some ⟨gu, off + 1, none⟩, _, by rw [List.length_tail], fun j m hj => ?_⟩
 rw [List.getElem?_tail] at hj
 obtain ⟨q, off', y, eq, hq, cy, hs⟩ := hc (j + 1) m hj
 cases eq
 exact ⟨gu, off + 1, y, rfl, hq, by rw [← cy]; congr 2; omega, hs⟩

/-- Something is stored into the box of a Program. -/
theorem PrOk.putBox {w : World} {base gu off cap P o n : Nat} {v : Value} {L : List Nat} {C : Array Value} (h : PrOk w base (.slice (some ⟨gu, off, none⟩) n cap) L) (hT : w.heap[P]? = some (.cells C 30 (0, 0))) (hne : gu ≠ P) :
 PrOk (w.setCell ⟨P, o, none⟩ v) base (.slice (some ⟨gu, off, none⟩) n cap) L := by
 obtain ⟨ao, cap', e, hc⟩ := h
 refine ⟨ao, cap', e, fun j m hj => ?_⟩
 obtain ⟨q, off', y, eq, hq, cy, hs⟩ := hc j m hj
 injection e with ea en ec
 have eqq : q = gu := by rw [eq] at ea; injection ea with ea; injection ea with ea; exact ea.symm
 subst eqq
 refine ⟨q, off', y, eq, hq, (grown_setCell7 w P o _).cell cy (fun e => hne (by simpa using e)), ?_⟩
 rcases hs with hs | ⟨g', o', c', m', e', hb', hsb, hle⟩
 · exact .inl hs
 · refine .inr ⟨g', o', c', m', e', hb', hsb.same ?_, hle⟩
   refine (grown_setCell7 w P o v).block g' hsb.lt (fun e => ?_)
   have e := Option.some.inj e
   subst e
   obtain ⟨C', h1, _⟩ := hsb
   rw [hT] at h1
   injection h1 with h1
   injection h1 with _ h1
   revert h1
   decide

/-- What is answered, where the list of procedures is another. -/
theorem DA.endsBox {w : World} {g : Nat} {bs : List Int} {P gu off n cap : Nat} {u : Value} {ps : List (List Stm)} {w6 : World} {L : List Nat} (D : DA w g bs P u ps w6) (hgw : g < w.heap.size) (hPw : w.heap.size < P) (hne : gu ≠ P)
 (hp : PrOk w6 (w.heap.size + 1) (.slice (some ⟨gu, off, none⟩) n cap) L) {W : World} (hW : W = (w6.setCell ⟨P, 0, none⟩ (.slice (some ⟨gu, off, none⟩) n cap)).setCell ⟨w.heap.size, 0, none⟩ (.slice (some ⟨gu, off, none⟩) n cap)) :
 W.cell? ⟨w.heap.size, 0, none⟩ = some (.slice (some ⟨gu, off, none⟩) n cap) ∧ PrOk W w.heap.size (.slice (some ⟨gu, off, none⟩) n cap) L ∧ Cur W g bs ∧ w.grownBy W (some g) := by
 subst hW
 have g7 := grown_setCell7 w6 P 0 (.slice (some ⟨gu, off, none⟩) n cap)
 have hR7 := (g7.block w.heap.size (Array.getElem?_eq_some_iff.1 D.res).1 (fun e => by have e := Option.some.inj e; omega)).trans D.res
 have R10 := heap_setCell_same _ w.heap.size 0 _ 30 (.slice (some ⟨gu, off, none⟩) n cap) hR7
 simp at R10
 obtain ⟨d0, _⟩ := oneCell R10
 exact ⟨d0, DA.ends hgw (hp.putBox D.box hne) (curSet D.cur (by omega) _) (grownSet D.gr (by omega) _)⟩

theorem SlOk.sb {w : World} {base g n cap : Nat} (h : SlOk w base (.slice (some ⟨g, 0, none⟩) n cap) n) : SB w g n := by
 rcases h with ⟨e, _⟩ | ⟨q, o, cp, m, e, hb, ⟨C, h1, h2, h3⟩, hle⟩
 · cases e
 · injection e with e1 _ e3
   injection e1 with e1
   injection e1 with e1 e4
   subst e1
   exact ⟨C, h1, by omega, fun i hi => h3 i (by omega)⟩

theorem grown_set3 (w : World) (b o1 o2 o3 : Nat) (x y z : Value) : w.grownBy (((w.setCell ⟨b, o1, none⟩ x).setCell ⟨b, o2, none⟩ y).setCell ⟨b, o3, none⟩ z) (some b) :=
 grown_trans (grown_trans (grown_setCell7 w b o1 x) (grown_setCell7 _ b o2 y)) (grown_setCell7 _ b o3 z)

theorem _root_.Go.World.ownsRow.neBox {w : World} {base g n cap P : Nat} {xs : List Value} {C : Array Value} (h : w.ownsRow base 92 3 (.slice (some ⟨g, 0, none⟩) n cap) n xs) (hT : w.heap[P]? = some (.cells C 30 (0, 0))) : g ≠ P := by
 rintro rfl
 rcases h.2 with ⟨e, _⟩ | ⟨g', cap', cur, e, _, h1, _⟩
 · cases e
 · cases e
   rw [hT] at h1
   injection h1 with h1
   injection h1 with _ h1
   revert h1
   decide

theorem _root_.Go.World.ownsRow.neGu {w : World} {base g n cap gu m c : Nat} {xs : List Value} {ps : List (List Stm)} (h : w.ownsRow base 92 3 (.slice (some ⟨g, 0, none⟩) n cap) n xs) (hr : Rows2 w base (.slice (some ⟨gu, 0, none⟩) m c) ps) : gu ≠ g := by
 rintro rfl
 obtain ⟨us, ho, _⟩ := hr
 rcases ho.2 with ⟨e, _⟩ | ⟨g', cap', cur, e, _, hT, _⟩
 · cases e
 · cases e
   rcases h.2 with ⟨e, _⟩ | ⟨g', cap', cur, e, _, h1, _⟩
   · cases e
   · cases e
     rw [hT] at h1
     injection h1 with h1
     injection h1 with _ h1
     revert h1
     decide

/-- How many procedures are wanting. -/
def wantAt (w : World) (P : Nat) : Nat := match w.cell? ⟨P, 0, none⟩ with | some (.slice _ n _) => 5 - n | _ => 0

theorem rows2_form {w : World} {base : Nat} {u : Value} {ps : List (List Stm)} (h : Rows2 w base u ps) (hp : 1 ≤ ps.length) : ∃ gv vc, u = .slice (some ⟨gv, 0, none⟩) ps.length vc ∧ base ≤ gv ∧ ps.length ≤ vc ∧ ∃ C, w.heap[gv]? = some (.cells C 81 (0, 0)) := by
 obtain ⟨us, ho, _⟩ := h
 rcases ho.2 with ⟨_, hn⟩ | ⟨q, cp, cur, e, hb, hh, hc, _⟩
 · omega
 · exact ⟨q, cp, e, hb, hc, cur, hh⟩

/-- The box, the answer's box, the cursor behind an append to the list of procedures. -/
theorem DA.apps {w : World} {g : Nat} {bs : List Int} {P gv n cap : Nat} {u : Value} {ps : List (List Stm)} {w7 w8 : World} (D : DA w g bs P u ps w7) (hgw : g < w.heap.size) (hPw : w.heap.size < P) (hPv : P ≠ gv) (hgv : w.heap.size + 1 ≤ gv) (grow8 : w7.grownBy w8 (Value.slice (some ⟨gv, 0, none⟩) n cap).ownBlock) :
 w8.heap[P]? = some (.cells #[u] 30 (0, 0)) ∧ w8.heap[w.heap.size]? = some (.cells #[.slice none 0 0] 30 (0, 0)) ∧ Cur w8 g bs ∧ w.grownBy w8 (some g) := by
 have hb8 : ∀ k, k ≠ gv → k < w7.heap.size → w8.heap[k]? = w7.heap[k]? := fun k hk hz => grow8.block k hz (fun e => hk (Option.some.inj e))
 refine ⟨(hb8 P hPv (Array.getElem?_eq_some_iff.1 D.box).1).trans D.box, (hb8 _ (by omega) (Array.getElem?_eq_some_iff.1 D.res).1).trans D.res, cur_grown D.cur grow8 (fun q hq => by have hq := Option.some.inj hq; simp at hq; omega), ⟨grow8.os.trans D.gr.os, grow8.tape.trans D.gr.tape, grow8.output.trans D.gr.output, Nat.le_trans D.gr.size grow8.size, fun q hq1 hq2 => (hb8 q (by omega) (Nat.lt_of_lt_of_le hq1 D.gr.size)).trans (D.gr.block q hq1 hq2)⟩⟩

/-- A cell of an own row is stored. -/
theorem own_put1D {w : World} {base g n cap i : Nat} {e : TypeId} {x : Value} {xs : List Value} (h : w.ownsRow base e 1 (.slice (some ⟨g, 0, none⟩) n cap) n xs) (hi : i < n) :
 (w.setCell ⟨g, i, none⟩ x).ownsRow base e 1 (.slice (some ⟨g, 0, none⟩) n cap) n (xs.set i x) := by
 refine ⟨by simpa using h.1, ?_⟩
 rcases h.2 with ⟨e, _⟩ | ⟨g', cap', cur, e', hb, hh, h1, h2, h3, h4⟩
 · cases e
 · cases e'
   refine .inr ⟨g, cap, cur.setIfInBounds i x, rfl, hb, heap_setCell_same w g i cur _ x hh, h1, h2, by simpa using h3, ?_⟩
   rw [Array.toList_setIfInBounds, List.take_set, h4]

/-- One of the procedures is another. -/
theorem Rows2.put {w : World} {base gu cap i : Nat} {x : Value} {qs : List (List Stm)} {p : List Stm} (h : Rows2 w base (.slice (some ⟨gu, 0, none⟩) qs.length cap) qs) (hx : w.ownsRow base 92 3 x p.length (cells3 p)) (hi : i < qs.length) :
 Rows2 (w.setCell ⟨gu, i, none⟩ x) base (.slice (some ⟨gu, 0, none⟩) qs.length cap) (qs.set i p) := by
 obtain ⟨us, ho, hin⟩ := h
 have hul : us.length = qs.length := by simpa using ho.1
 have keep : ∀ {y : Value} {q : List Stm}, w.ownsRow base 92 3 y q.length (cells3 q) → (w.setCell ⟨gu, i, none⟩ x).ownsRow base 92 3 y q.length (cells3 q) := fun {y q} hy =>
  own_grown hy (grown_setCell7 w gu i x) (fun k hk e => rows_apart hy ho (by decide) k hk e)
 refine ⟨us.set i x, by rw [List.length_set]; exact own_put1D ho hi, fun j y q h1 h2 => ?_⟩
 by_cases e : i = j
 · subst e
   rw [List.getElem?_set_self (by omega)] at h1
   rw [List.getElem?_set_self hi] at h2
   cases h1; cases h2
   exact keep hx
 · rw [List.getElem?_set_ne e] at h1 h2
   exact keep (hin j y q h1 h2)

/-- Something is stored into the box of a Program: the rows stay. -/
theorem rows2_box {w : World} {base P o : Nat} {u v : Value} {ps : List (List Stm)} {C : Array Value} (h : Rows2 w base u ps) (hT : w.heap[P]? = some (.cells C 30 (0, 0))) : Rows2 (w.setCell ⟨P, o, none⟩ v) base u ps := by
 obtain ⟨us, ho, hi⟩ := h
 have ne : ∀ {e : TypeId} {s n : Nat} {x : Value} {xs : List Value}, e ≠ 30 → w.ownsRow base e s x n xs → ∀ k, x.ownBlock = some k → k ≠ P := by
  intro e s n x xs hne hx k hk ek
  subst ek
  rcases hx.2 with ⟨rfl, _⟩ | ⟨g', cap', cur, rfl, _, h1, _⟩
  · cases hk
  · cases hk
    rw [hT] at h1
    injection h1 with h1
    injection h1 with _ h1
    exact hne h1.symm
 exact ⟨us, own_grown ho (grown_setCell7 w P o v) (fun k hk e => ne (by decide) ho k hk (Option.some.inj e).symm), fun j x p h1 h2 => own_grown (hi j x p h1 h2) (grown_setCell7 w P o v) (fun k hk e => ne (by decide) (hi j x p h1 h2) k hk (Option.some.inj e).symm)⟩

/-- Another list of procedures is stored into the box. -/
theorem DA.stored {w : World} {g : Nat} {bs : List Int} {P : Nat} {u u' : Value} {qs : List (List Stm)} {w8 : World} (hgw : g < w.heap.size) (hPw : w.heap.size < P) (hr : Rows2 w8 (w.heap.size + 1) u' qs)
 (hE : w8.heap[P]? = some (.cells #[u] 30 (0, 0)) ∧ w8.heap[w.heap.size]? = some (.cells #[.slice none 0 0] 30 (0, 0)) ∧ Cur w8 g bs ∧ w.grownBy w8 (some g)) : DA w g bs P u' qs (w8.setCell ⟨P, 0, none⟩ u') := by
 obtain ⟨h1, h2, h3, h4⟩ := hE
 have hs := heap_setCell_same w8 P 0 _ 30 u' h1
 refine ⟨rows2_box hr h1, by rw [hs]; simp, ?_, curSet h3 (by omega) _, grownSet h4 (by omega) _⟩
 rw [heap_setCell_other w8 ⟨P, 0, none⟩ w.heap.size u' (by simp; omega)]
 exact h2

end Go.Proofs.Ytnjbihfceckpfaa

/-
 Towards spec.l3DrawAny, its loop that puts statements before those of one procedure.
-/
namespace Go.Proofs.Ytnjbihfceckpfaa
open Go.RowKit
set_option linter.unusedVariables false
set_option linter.unusedSimpArgs false

theorem cells3_oneD : ∀ (p : List Stm), ∀ u ∈ cells3 p, u.oneCell' = true
 | [], u, h => by simp [cells3] at h
 | s :: p, u, h => by
  have e : cells3 (s :: p) = cells3 [s] ++ cells3 p := by rw [← cells3_append]; rfl
  rw [e] at h
  rcases List.mem_append.1 h with h | h
  · exact stm_oneCell s u h
  · exact cells3_oneD p u h

theorem own_news {w : World} {base : Nat} {e : TypeId} {s g n cap : Nat} {xs : List Value} (h : w.ownsRow base e s (.slice (some ⟨g, 0, none⟩) n cap) n xs) : ∀ (j : Nat) (u : Value), xs[j]? = some u → w.cell? ((⟨g, 0, none⟩ : Addr).add j) = some u := by
 intro j u hj
 have hl := h.1
 have hlt : j < n * s := by have := (List.getElem?_eq_some_iff.1 hj).1; omega
 have := (h.cellAt j hlt).trans hj
 cases j with
 | zero => simpa [Addr.add] using this
 | succ j => simpa [Addr.add] using this

/-- A row of one statement that was just made. -/
theorem own_one {w : World} {base b : Nat} {s : Stm} (h : w.heap[b]? = some (stm3 s)) (hb : base ≤ b) : w.ownsRow base 92 3 (.slice (some ⟨b, 0, none⟩) 1 1) 1 (cells3 [s]) :=
 ⟨rfl, .inr ⟨b, 1, _, rfl, hb, h, Nat.le_refl _, by simp [maxLen], rfl, rfl⟩⟩

/-- An own row of one and more has a block. -/
theorem own_formD {w : World} {base : Nat} {e : TypeId} {s n : Nat} {v : Value} {xs : List Value} (h : w.ownsRow base e s v n xs) (hn : 1 ≤ n) : ∃ g cap, v = .slice (some ⟨g, 0, none⟩) n cap ∧ base ≤ g ∧ n ≤ cap := by
 rcases h.2 with ⟨_, h0⟩ | ⟨g, cap, cur, rfl, hb, _, hle, _⟩
 · omega
 · exact ⟨g, cap, rfl, hb, hle⟩

def roomAt (w : World) (gu i : Nat) : Nat := match w.cell? ⟨gu, i, none⟩ with | some (.slice _ n _) => 13 - n | _ => 0

/-- One of the procedures has become another in new memory. -/
theorem DA.pre {w : World} {g : Nat} {bs : List Int} {P gu uc i : Nat} {qs : List (List Stm)} {p : List Stm} {v : Value} {w1 w3 : World} (D : DA w g bs P (.slice (some ⟨gu, 0, none⟩) qs.length uc) qs w1) (hgw : g < w.heap.size) (hPw : w.heap.size < P)
 (hi : i < qs.length) (b3 : Below w1.heap.size w1 w3) (own3 : w3.ownsRow (w.heap.size + 1) 92 3 v p.length (cells3 p)) (hne : P ≠ gu) (hgu : w.heap.size + 1 ≤ gu) :
 DA w g bs P (.slice (some ⟨gu, 0, none⟩) qs.length uc) (qs.set i p) (w3.setCell ⟨gu, i, none⟩ v) := by
 have D3 := D.draw hgw hPw (cur_below D.cur b3) (grown_of_below b3 (some g))
 refine ⟨by simpa using D3.rows.put own3 hi, ?_, ?_, curSet D3.cur (by omega) _, grownSet D3.gr (by omega) _⟩
 · rw [heap_setCell_other w3 ⟨gu, i, none⟩ P v (by simpa using hne)]; exact D3.box
 · rw [heap_setCell_other w3 ⟨gu, i, none⟩ w.heap.size v (by simp; omega)]; exact D3.res

theorem DA.frozen {w : World} {g : Nat} {bs : List Int} {P gu uc : Nat} {qs : List (List Stm)} {w1 : World} (D : DA w g bs P (.slice (some ⟨gu, 0, none⟩) qs.length uc) qs w1) (i : Nat) : w1.frozen? ⟨gu, i, none⟩ = false := by
 obtain ⟨us, ho, _⟩ := D.rows
 exact ho.frozenAt i

theorem own_cons {w : World} {base : Nat} {e : TypeId} {v : Value} {t : Stm} {p : List Stm} (h : w.ownsRow base e 3 v (1 + p.length) (cells3 [t] ++ cells3 p)) : w.ownsRow base e 3 v (t :: p).length (cells3 (t :: p)) := by
 have e7 : cells3 (t :: p) = cells3 [t] ++ cells3 p := by rw [← cells3_append]; rfl
 rw [e7, List.length_cons, Nat.add_comm]
 exact h

theorem below_app3 {w w2 w3 : World} {b : Nat} (h : Below w.heap.size w w2) (hg : w2.grownBy w3 (some b)) (hb : w.heap.size ≤ b) : Below w.heap.size w w3 :=
 ⟨hg.os.trans h.os, hg.tape.trans h.tape, hg.output.trans h.output, Nat.le_trans h.size hg.size, fun k hk => (hg.block k (Nat.lt_of_lt_of_le hk h.size) (fun e => by have e := Option.some.inj e; omega)).trans (h.block k hk)⟩

end Go.Proofs.Ytnjbihfceckpfaa
