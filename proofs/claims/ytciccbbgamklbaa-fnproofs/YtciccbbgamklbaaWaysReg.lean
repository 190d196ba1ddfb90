/-
  spec.Ways: its region that lays one more way (three appends, in whatever order), by an invariant over what has run.
-/
import Derived.Test.YtciccbbgamklbaaWaysSt
import Derived.Test.YtciccbbgamklbaaG01FlowTop
namespace Go.Proofs.Ytciccbbgamklbaa
open Go.RowKit
set_option linter.unusedVariables false
set_option linter.unusedSimpArgs false
set_option maxHeartbeats 4000000
set_option maxRecDepth 20000

/-- What the region has, operation by operation. -/
def YFct (v : Value) (w : World) (ov : Value) (us : List Value) (oo : List (List Int)) (gn cn : Nat) (ns : List Value) (zs : List (List Int)) (gr rl cr : Nat) (vs : List Value) (rr : List (List Int)) (gx nl cx : Nat) (nxs way : List Int) (y : Int) (c k m gc cc hq : Nat) (l : Nat → Bool) (x10 x73 x74 x75 x76 x77 x78 x79 x80 x81 x82 x83 x84 x85 x86 x87 : Value) (wr : World) : Prop :=
  (hq ≤ wr.heap.size) ∧
  (OwnSS wr (w.heap.size + 1) (.slice (some ⟨gr, 0, none⟩) rl cr) vs rr) ∧
  (wr.ownsRow (w.heap.size + 1) 2 1 (.slice (some ⟨gx, 0, none⟩) nl cx) nl (ints nxs)) ∧
  (l 14 = false → WSt v w ov us oo (.slice (some ⟨gn, 0, none⟩) zs.length cn) ns zs (.slice (some ⟨gr, 0, none⟩) rl cr) vs rr wr) ∧
  (l 15 = false → x10 = .slice (some ⟨gn, 0, none⟩) zs.length cn) ∧
  (l 12 = true → l 6 = true) ∧
  (l 14 = true → l 12 = true) ∧
  (l 13 = true → l 12 = true) ∧
  (l 15 = true → l 14 = true) ∧
  (l 15 = true → l 0 = true) ∧
  (l 0 = true → x73 = .slice (some ⟨gn, 0, none⟩) zs.length cn) ∧
  (l 1 = true → ∃ b, x74 = .slice (some ⟨b, 0, none⟩) 0 0 ∧ hq ≤ b ∧ (l 6 = false → wr.heap[b]? = some (.cells #[] 2 (0, 0)))) ∧
  (l 2 = true → x75 = .slice (some ⟨gr, 0, none⟩) rl cr) ∧
  (l 3 = true → x76 = .int .i64 (c : Int)) ∧
  (l 4 = true → x77 = .pointer (some ⟨gr, c, none⟩)) ∧
  (l 5 = true → x78 = .slice (some ⟨gc, 0, none⟩) (m + 1) cc) ∧
  (l 6 = true → ∃ g1 c1, x79 = .slice (some ⟨g1, 0, none⟩) (m + 1) c1 ∧ hq ≤ g1 ∧ (l 12 = false → wr.ownsRow (w.heap.size + 1) 2 1 x79 (m + 1) (ints way))) ∧
  (l 7 = true → x80 = .slice (some ⟨gx, 0, none⟩) nl cx) ∧
  (l 8 = true → x81 = .int .i64 (k : Int)) ∧
  (l 9 = true → x82 = .pointer (some ⟨gx, k, none⟩)) ∧
  (l 10 = true → x83 = .int .i64 y) ∧
  (l 11 = true → ∃ b, x84 = .slice (some ⟨b, 0, none⟩) 1 1 ∧ (l 12 = false → wr.heap[b]? = some (.cells #[.int .i64 y] 2 (0, 0)))) ∧
  (l 12 = true → ∃ g2 c2, x85 = .slice (some ⟨g2, 0, none⟩) (m + 1 + 1) c2 ∧ hq ≤ g2 ∧ (l 14 = false → wr.ownsRow (w.heap.size + 1) 2 1 x85 (m + 1 + 1) (ints (way ++ [y])))) ∧
  (l 13 = true → ∃ b, x86 = .slice (some ⟨b, 0, none⟩) 1 1 ∧ (l 14 = false → wr.heap[b]? = some (.cells #[x85] 26 (0, 0)))) ∧
  (l 14 = true → ∃ g2 c2 g3 c3, x87 = .slice (some ⟨g3, 0, none⟩) (zs.length + 1) c3 ∧ WSt v w ov us oo (.slice (some ⟨g3, 0, none⟩) (zs.length + 1) c3) (ns ++ [.slice (some ⟨g2, 0, none⟩) (m + 1 + 1) c2]) (zs ++ [way ++ [y]]) (.slice (some ⟨gr, 0, none⟩) rl cr) vs rr wr) ∧
  (l 15 = true → x10 = x87)

/-- Its invariant. -/
def YInv (v : Value) (w : World) (ov : Value) (us : List Value) (oo : List (List Int)) (gn cn : Nat) (ns : List Value) (zs : List (List Int)) (gr rl cr : Nat) (vs : List Value) (rr : List (List Int)) (gx nl cx : Nat) (nxs way : List Int) (y : Int) (c k m gc cc hq : Nat) (y0 y1 y2 y3 y4 y5 y6 y7 y9 y12 y15 y16 y17 y18 y19 y20 y21 y22 y23 y24 y25 y26 y27 y28 y29 y30 y31 y32 y33 y34 y35 y36 y37 y38 y39 y40 y41 y42 y43 y44 y45 y46 y47 y48 y49 y50 y51 y52 y53 y54 y55 y56 y57 y58 y59 y60 y61 y62 y63 y64 y65 y66 y67 y68 y69 y70 y71 y72 y88 y89 : Value) (l : Nat → Bool) (a : Act) (wr : World) : Prop :=
  ∃ x10 x73 x74 x75 x76 x77 x78 x79 x80 x81 x82 x83 x84 x85 x86 x87 : Value, a = { tmps := List.toArray (y0 :: y1 :: y2 :: y3 :: y4 :: y5 :: y6 :: y7 :: (.slice (some ⟨gr, 0, none⟩) rl cr) :: y9 :: x10 :: (.int .i64 (c : Int)) :: y12 :: (.slice (some ⟨gx, 0, none⟩) nl cx) :: (.int .i64 (k : Int)) :: y15 :: y16 :: y17 :: y18 :: y19 :: y20 :: y21 :: y22 :: y23 :: y24 :: y25 :: y26 :: y27 :: y28 :: y29 :: y30 :: y31 :: y32 :: y33 :: y34 :: y35 :: y36 :: y37 :: y38 :: y39 :: y40 :: y41 :: y42 :: y43 :: y44 :: y45 :: y46 :: y47 :: y48 :: y49 :: y50 :: y51 :: y52 :: y53 :: y54 :: y55 :: y56 :: y57 :: y58 :: y59 :: y60 :: y61 :: y62 :: y63 :: y64 :: y65 :: y66 :: y67 :: y68 :: y69 :: y70 :: y71 :: y72 :: x73 :: x74 :: x75 :: x76 :: x77 :: x78 :: x79 :: x80 :: x81 :: x82 :: x83 :: x84 :: x85 :: x86 :: x87 :: y88 :: y89 :: []), defers := [] } ∧ YFct v w ov us oo gn cn ns zs gr rl cr vs rr gx nl cx nxs way y c k m gc cc hq l x10 x73 x74 x75 x76 x77 x78 x79 x80 x81 x82 x83 x84 x85 x86 x87 wr

theorem YFct.below {v : Value} {w : World} {ov : Value} {us : List Value} {oo : List (List Int)} {gn cn : Nat} {ns : List Value} {zs : List (List Int)} {gr rl cr : Nat} {vs : List Value} {rr : List (List Int)} {gx nl cx : Nat} {nxs way : List Int} {y : Int} {c k m gc cc hq : Nat} {l : Nat → Bool} {x10 x73 x74 x75 x76 x77 x78 x79 x80 x81 x82 x83 x84 x85 x86 x87 : Value} {wr wr' : World} (h : YFct v w ov us oo gn cn ns zs gr rl cr vs rr gx nl cx nxs way y c k m gc cc hq l x10 x73 x74 x75 x76 x77 x78 x79 x80 x81 x82 x83 x84 x85 x86 x87 wr) (hb : Below wr.heap.size wr wr') : YFct v w ov us oo gn cn ns zs gr rl cr vs rr gx nl cx nxs way y c k m gc cc hq l x10 x73 x74 x75 x76 x77 x78 x79 x80 x81 x82 x83 x84 x85 x86 x87 wr' := by
  obtain ⟨f0, fR, fN, fW, fx, e1, e2, e3, e4, e5, p0, p1, p2, p3, p4, p5, p6, p7, p8, p9, p10, p11, p12, p13, p14, p15⟩ := h
  have keep : ∀ {b : Nat} {o : Obj}, wr.heap[b]? = some o → wr'.heap[b]? = some o := fun h => (hb.block _ (Array.getElem?_eq_some_iff.1 h).1).trans h
  exact ⟨Nat.le_trans f0 hb.size, fR.below hb, own_kept fN hb, fun h => (fW h).below hb, fx, e1, e2, e3, e4, e5, p0, (fun h => by obtain ⟨b, h1, h2, h3⟩ := p1 h; exact ⟨b, h1, h2, fun h => keep (h3 h)⟩), p2, p3, p4, p5, (fun h => by obtain ⟨g, c, h1, h2, h3⟩ := p6 h; exact ⟨g, c, h1, h2, fun h => own_kept (h3 h) hb⟩), p7, p8, p9, p10, (fun h => by obtain ⟨b, h1, h3⟩ := p11 h; exact ⟨b, h1, fun h => keep (h3 h)⟩), (fun h => by obtain ⟨g, c, h1, h2, h3⟩ := p12 h; exact ⟨g, c, h1, h2, fun h => own_kept (h3 h) hb⟩), (fun h => by obtain ⟨b, h1, h3⟩ := p13 h; exact ⟨b, h1, fun h => keep (h3 h)⟩), (fun h => by obtain ⟨g, c, g', c', h1, h2⟩ := p14 h; exact ⟨g, c, g', c', h1, h2.below hb⟩), p15⟩

theorem waysRegion {Q : Exit → Act → World → Prop} (v : Value) (w : World) (ov : Value) (us : List Value) (oo : List (List Int)) (gn cn : Nat) (ns : List Value) (zs : List (List Int)) (gr rl cr : Nat) (vs : List Value) (rr : List (List Int)) (gx nl cx : Nat) (nxs way : List Int) (y : Int) (c k m gc cc hq : Nat) (y0 y1 y2 y3 y4 y5 y6 y7 y9 y12 y15 y16 y17 y18 y19 y20 y21 y22 y23 y24 y25 y26 y27 y28 y29 y30 y31 y32 y33 y34 y35 y36 y37 y38 y39 y40 y41 y42 y43 y44 y45 y46 y47 y48 y49 y50 y51 y52 y53 y54 y55 y56 y57 y58 y59 y60 y61 y62 y63 y64 y65 y66 y67 y68 y69 y70 y71 y72 y88 y89 x10 x73 x74 x75 x76 x77 x78 x79 x80 x81 x82 x83 x84 x85 x86 x87 : Value) (wq : World) {i0 i1 : TypeInfo}
    (hi : Try.prog.info? 2 = some i0) (hz0 : i0.zero = some (.int .i64 0)) (hz1 : i0.size = 1) (hz2 : i0.bytes = 8)
    (hjS : Try.prog.info? 26 = some i1) (hy0 : i1.zero = some (.slice none 0 0)) (hy1 : i1.size = 1) (hy2 : i1.bytes = 24)
    (hhq : hq = wq.heap.size) (hx10 : x10 = .slice (some ⟨gn, 0, none⟩) zs.length cn) (hwl : way.length = m + 1) (hm : m ≤ 1000) (hzs : zs.length ≤ 100000) (hcl : c < rl) (hkl : k < nl) (hnl : nl ≤ 1000000) (hrl : rl ≤ 1000000)
    (Sq : WSt v w ov us oo (.slice (some ⟨gn, 0, none⟩) zs.length cn) ns zs (.slice (some ⟨gr, 0, none⟩) rl cr) vs rr wq) (Nq : wq.ownsRow (w.heap.size + 1) 2 1 (.slice (some ⟨gx, 0, none⟩) nl cx) nl (ints nxs))
    (hcR : Hid (∀ W : World, OwnSS W (w.heap.size + 1) (.slice (some ⟨gr, 0, none⟩) rl cr) vs rr → W.cell? ⟨gr, c, none⟩ = some (.slice (some ⟨gc, 0, none⟩) (m + 1) cc) ∧ W.ownsRow (w.heap.size + 1) 2 1 (.slice (some ⟨gc, 0, none⟩) (m + 1) cc) (m + 1) (ints way)))
    (hcN : Hid (∀ W : World, W.ownsRow (w.heap.size + 1) 2 1 (.slice (some ⟨gx, 0, none⟩) nl cx) nl (ints nxs) → W.cell? ⟨gx, k, none⟩ = some (.int .i64 y)))
    (hend : Hid (∀ (x10 x73 x74 x75 x76 x77 x78 x79 x80 x81 x82 x83 x84 x85 x86 x87 : Value) (g2 c2 g3 c3 : Nat) (w3 : World), x10 = .slice (some ⟨g3, 0, none⟩) (zs.length + 1) c3 → WSt v w ov us oo (.slice (some ⟨g3, 0, none⟩) (zs.length + 1) c3) (ns ++ [.slice (some ⟨g2, 0, none⟩) (m + 1 + 1) c2]) (zs ++ [way ++ [y]]) (.slice (some ⟨gr, 0, none⟩) rl cr) vs rr w3 → w3.ownsRow (w.heap.size + 1) 2 1 (.slice (some ⟨gx, 0, none⟩) nl cx) nl (ints nxs) → Q .normal { tmps := List.toArray (y0 :: y1 :: y2 :: y3 :: y4 :: y5 :: y6 :: y7 :: (.slice (some ⟨gr, 0, none⟩) rl cr) :: y9 :: x10 :: (.int .i64 (c : Int)) :: y12 :: (.slice (some ⟨gx, 0, none⟩) nl cx) :: (.int .i64 (k : Int)) :: y15 :: y16 :: y17 :: y18 :: y19 :: y20 :: y21 :: y22 :: y23 :: y24 :: y25 :: y26 :: y27 :: y28 :: y29 :: y30 :: y31 :: y32 :: y33 :: y34 :: y35 :: y36 :: y37 :: y38 :: y39 :: y40 :: y41 :: y42 :: y43 :: y44 :: y45 :: y46 :: y47 :: y48 :: y49 :: y50 :: y51 :: y52 :: y53 :: y54 :: y55 :: y56 :: y57 :: y58 :: y59 :: y60 :: y61 :: y62 :: y63 :: y64 :: y65 :: y66 :: y67 :: y68 :: y69 :: y70 :: y71 :: y72 :: x73 :: x74 :: x75 :: x76 :: x77 :: x78 :: x79 :: x80 :: x81 :: x82 :: x83 :: x84 :: x85 :: x86 :: x87 :: y88 :: y89 :: []), defers := [] } w3)) :
    (Code.region 19 #[{ dst := some 73, op := Op.move (Operand.tmp 10), type := 45, pos := "l04_flow.go:93", after := #[], guard := none }, { dst := some 74, op := Op.buildSlice 26 0 #[], type := 26, pos := "l04_flow.go:93", after := #[], guard := none }, { dst := some 75, op := Op.move (Operand.tmp 8), type := 45, pos := "l04_flow.go:93", after := #[], guard := none }, { dst := some 76, op := Op.move (Operand.tmp 11), type := 3, pos := "l04_flow.go:93", after := #[], guard := none }, { dst := some 77, op := Op.indexAddr 45 (Operand.tmp 75) (Operand.tmp 76), type := 0, pos := "l04_flow.go:93", after := #[{ on := 2, ground := Ground.data }, { on := 3, ground := Ground.data }], guard := none }, { dst := some 78, op := Op.load 26 (Operand.tmp 77), type := 26, pos := "l04_flow.go:93", after := #[{ on := 4, ground := Ground.data }], guard := none }, { dst := some 79, op := Op.call { callee := Callee.builtin Builtin.append, args := #[Operand.tmp 74, Operand.tmp 78], argTypes := #[26, 26] }, type := 26, pos := "l04_flow.go:93", after := #[{ on := 1, ground := Ground.data }, { on := 5, ground := Ground.data }], guard := none }, { dst := some 80, op := Op.move (Operand.tmp 13), type := 26, pos := "l04_flow.go:93", after := #[], guard := none }, { dst := some 81, op := Op.move (Operand.tmp 14), type := 3, pos := "l04_flow.go:93", after := #[], guard := none }, { dst := some 82, op := Op.indexAddr 26 (Operand.tmp 80) (Operand.tmp 81), type := 0, pos := "l04_flow.go:93", after := #[{ on := 7, ground := Ground.data }, { on := 8, ground := Ground.data }], guard := none }, { dst := some 83, op := Op.load 2 (Operand.tmp 82), type := 2, pos := "l04_flow.go:93", after := #[{ on := 9, ground := Ground.data }], guard := none }, { dst := some 84, op := Op.buildSlice 26 1 #[(0, Operand.tmp 83)], type := 26, pos := "l04_flow.go:93", after := #[{ on := 10, ground := Ground.data }], guard := none }, { dst := some 85, op := Op.call { callee := Callee.builtin Builtin.append, args := #[Operand.tmp 79, Operand.tmp 84], argTypes := #[26, 26] }, type := 26, pos := "l04_flow.go:93", after := #[{ on := 6, ground := Ground.data }, { on := 11, ground := Ground.data }, { on := 6, ground := Ground.chain }], guard := none }, { dst := some 86, op := Op.buildSlice 45 1 #[(0, Operand.tmp 85)], type := 45, pos := "l04_flow.go:93", after := #[{ on := 12, ground := Ground.data }], guard := none }, { dst := some 87, op := Op.call { callee := Callee.builtin Builtin.append, args := #[Operand.tmp 73, Operand.tmp 86], argTypes := #[45, 45] }, type := 45, pos := "l04_flow.go:93", after := #[{ on := 0, ground := Ground.data }, { on := 13, ground := Ground.data }, { on := 12, ground := Ground.chain }], guard := none }, { dst := some 10, op := Op.assign (Operand.tmp 87), type := 45, pos := "l04_flow.go:93", after := #[{ on := 14, ground := Ground.data }, { on := 14, ground := Ground.chain }, { on := 0, ground := Ground.phase }, { on := 1, ground := Ground.phase }, { on := 2, ground := Ground.phase }, { on := 3, ground := Ground.phase }, { on := 4, ground := Ground.phase }, { on := 5, ground := Ground.phase }, { on := 6, ground := Ground.phase }, { on := 7, ground := Ground.phase }, { on := 8, ground := Ground.phase }, { on := 9, ground := Ground.phase }, { on := 10, ground := Ground.phase }, { on := 11, ground := Ground.phase }, { on := 12, ground := Ground.phase }, { on := 13, ground := Ground.phase }, { on := 14, ground := Ground.phase }], guard := none }] true).wp Try.prog Q { tmps := List.toArray (y0 :: y1 :: y2 :: y3 :: y4 :: y5 :: y6 :: y7 :: (.slice (some ⟨gr, 0, none⟩) rl cr) :: y9 :: x10 :: (.int .i64 (c : Int)) :: y12 :: (.slice (some ⟨gx, 0, none⟩) nl cx) :: (.int .i64 (k : Int)) :: y15 :: y16 :: y17 :: y18 :: y19 :: y20 :: y21 :: y22 :: y23 :: y24 :: y25 :: y26 :: y27 :: y28 :: y29 :: y30 :: y31 :: y32 :: y33 :: y34 :: y35 :: y36 :: y37 :: y38 :: y39 :: y40 :: y41 :: y42 :: y43 :: y44 :: y45 :: y46 :: y47 :: y48 :: y49 :: y50 :: y51 :: y52 :: y53 :: y54 :: y55 :: y56 :: y57 :: y58 :: y59 :: y60 :: y61 :: y62 :: y63 :: y64 :: y65 :: y66 :: y67 :: y68 :: y69 :: y70 :: y71 :: y72 :: x73 :: x74 :: x75 :: x76 :: x77 :: x78 :: x79 :: x80 :: x81 :: x82 :: x83 :: x84 :: x85 :: x86 :: x87 :: y88 :: y89 :: []), defers := [] } wq := by
  have hgx : gx < hq := by rw [hhq]; exact (Nq.lt gx rfl).2
  have hbs : w.heap.size + 1 ≤ hq := by rw [hhq]; exact Sq.plt
  have hfr : ∀ b, hq ≤ b → ov.ownBlock ≠ some b ∧ (Value.slice (some ⟨gn, 0, none⟩) zs.length cn).ownBlock ≠ some b ∧ (Value.slice (some ⟨gr, 0, none⟩) rl cr).ownBlock ≠ some b ∧ (∀ u ∈ us, u.ownBlock ≠ some b) ∧ (∀ u ∈ ns, u.ownBlock ≠ some b) ∧ (∀ u ∈ vs, u.ownBlock ≠ some b) ∧ w.heap.size < b := fun b h => Sq.fresh b (by omega)
  have HFR : Hid _ := hfr
  have HHQ : Hid _ := hhq
  have HX10 : Hid _ := hx10
  have HWL : Hid _ := hwl
  have HW1 : Hid ((ints way).length = (m + 1) * 1) := by
    show (ints way).length = (m + 1) * 1
    rw [ints_length]; omega
  have HSq : Hid _ := Sq
  have HNq : Hid _ := Nq
  clear hfr hhq hx10 hwl Sq Nq
  refine wp_region_inv (by kernel_rfl) (by kernel_rfl) (YInv v w ov us oo gn cn ns zs gr rl cr vs rr gx nl cx nxs way y c k m gc cc hq y0 y1 y2 y3 y4 y5 y6 y7 y9 y12 y15 y16 y17 y18 y19 y20 y21 y22 y23 y24 y25 y26 y27 y28 y29 y30 y31 y32 y33 y34 y35 y36 y37 y38 y39 y40 y41 y42 y43 y44 y45 y46 y47 y48 y49 y50 y51 y52 y53 y54 y55 y56 y57 y58 y59 y60 y61 y62 y63 y64 y65 y66 y67 y68 y69 y70 y71 y72 y88 y89) ?h0 ?hs ?he
  case h0 =>
    have hhq := HHQ.out
    have Sq := HSq.out
    have Nq := HNq.out
    have hx10 := HX10.out
    refine ⟨_, _, _, _, _, _, _, _, _, _, _, _, _, _, _, _, rfl, ?_⟩
    refine ⟨by rw [hhq]; exact Nat.le_refl _, Sq.r.below (by go_grown), own_kept Nq (by go_grown), fun _ => Sq.below (by go_grown), fun _ => hx10, by simp, by simp, by simp, by simp, by simp, by simp, by simp, by simp, by simp, by simp, by simp, by simp, by simp, by simp, by simp, by simp, by simp, by simp, by simp, by simp, by simp⟩
  case hs =>
    intro l i o a wr ho hI hli haf
    obtain ⟨x10, x73, x74, x75, x76, x77, x78, x79, x80, x81, x82, x83, x84, x85, x86, x87, rfl, pf⟩ := hI
    have HPF : Hid _ := pf
    obtain ⟨f0, fR, fN, fW, fx, e1, e2, e3, e4, e5, p0, p1, p2, p3, p4, p5, p6, p7, p8, p9, p10, p11, p12, p13, p14, p15⟩ := pf
    have hi16 : i < 16 := (Array.getElem?_eq_some_iff.1 ho).1
    have hcases : i = 0 ∨ i = 1 ∨ i = 2 ∨ i = 3 ∨ i = 4 ∨ i = 5 ∨ i = 6 ∨ i = 7 ∨ i = 8 ∨ i = 9 ∨ i = 10 ∨ i = 11 ∨ i = 12 ∨ i = 13 ∨ i = 14 ∨ i = 15 := by omega
    rcases hcases with rfl | rfl | rfl | rfl | rfl | rfl | rfl | rfl | rfl | rfl | rfl | rfl | rfl | rfl | rfl | rfl
    · simp only [List.getElem?_toArray, List.getElem?_cons_zero, Option.some.injEq] at ho
      subst ho
      have h15 : l 15 = false := by
        cases h : l 15 with
        | false => rfl
        | true => rw [e5 h] at hli; cases hli
      obtain rfl : x10 = _ := fx h15
      clear fR fN fW fx e1 e2 e3 e4 e5 p0 p1 p2 p3 p4 p5 p6 p7 p8 p9 p10 p11 p12 p13 p14 p15
      go_wp2_with fail
      obtain ⟨f0, fR, fN, fW, fx, e1, e2, e3, e4, e5, p0, p1, p2, p3, p4, p5, p6, p7, p8, p9, p10, p11, p12, p13, p14, p15⟩ := HPF.out
      exact ⟨_, _, _, _, _, _, _, _, _, _, _, _, _, _, _, _, rfl, f0, fR, fN, fW, fun _ => rfl, e1, e2, e3, e4, fun _ => rfl, fun _ => rfl, p1, p2, p3, p4, p5, p6, p7, p8, p9, p10, p11, p12, p13, p14, p15⟩
    · simp only [List.getElem?_toArray, List.getElem?_cons_zero, List.getElem?_cons_succ, Option.some.injEq] at ho
      subst ho
      clear fR fN fW fx e1 e2 e3 e4 e5 p0 p1 p2 p3 p4 p5 p6 p7 p8 p9 p10 p11 p12 p13 p14 p15
      have B : Below wr.heap.size wr (wr.alloc (.cells #[] 2)) := by go_grown
      have hf := YFct.below HPF.out B
      have HF : Hid _ := hf
      have f00 := HPF.out.1
      clear hf
      go_wp2_with fail
      obtain ⟨f0, fR, fN, fW, fx, e1, e2, e3, e4, e5, p0, p1, p2, p3, p4, p5, p6, p7, p8, p9, p10, p11, p12, p13, p14, p15⟩ := HF.out
      exact ⟨_, _, _, _, _, _, _, _, _, _, _, _, _, _, _, _, rfl, f0, fR, fN, fW, fx, e1, e2, e3, e4, e5, p0, fun _ => ⟨wr.heap.size, rfl, f00, fun _ => heap_alloc_new wr _⟩, p2, p3, p4, p5, p6, p7, p8, p9, p10, p11, p12, p13, p14, p15⟩
    · simp only [List.getElem?_toArray, List.getElem?_cons_zero, List.getElem?_cons_succ, Option.some.injEq] at ho
      subst ho
      clear fR fN fW fx e1 e2 e3 e4 e5 p0 p1 p2 p3 p4 p5 p6 p7 p8 p9 p10 p11 p12 p13 p14 p15
      go_wp2_with fail
      obtain ⟨f0, fR, fN, fW, fx, e1, e2, e3, e4, e5, p0, p1, p2, p3, p4, p5, p6, p7, p8, p9, p10, p11, p12, p13, p14, p15⟩ := HPF.out
      exact ⟨_, _, _, _, _, _, _, _, _, _, _, _, _, _, _, _, rfl, f0, fR, fN, fW, fx, e1, e2, e3, e4, e5, p0, p1, fun _ => rfl, p3, p4, p5, p6, p7, p8, p9, p10, p11, p12, p13, p14, p15⟩
    · simp only [List.getElem?_toArray, List.getElem?_cons_zero, List.getElem?_cons_succ, Option.some.injEq] at ho
      subst ho
      clear fR fN fW fx e1 e2 e3 e4 e5 p0 p1 p2 p3 p4 p5 p6 p7 p8 p9 p10 p11 p12 p13 p14 p15
      go_wp2_with fail
      obtain ⟨f0, fR, fN, fW, fx, e1, e2, e3, e4, e5, p0, p1, p2, p3, p4, p5, p6, p7, p8, p9, p10, p11, p12, p13, p14, p15⟩ := HPF.out
      exact ⟨_, _, _, _, _, _, _, _, _, _, _, _, _, _, _, _, rfl, f0, fR, fN, fW, fx, e1, e2, e3, e4, e5, p0, p1, p2, fun _ => rfl, p4, p5, p6, p7, p8, p9, p10, p11, p12, p13, p14, p15⟩
    · simp only [List.getElem?_toArray, List.getElem?_cons_zero, List.getElem?_cons_succ, Option.some.injEq] at ho
      subst ho
      simp [Region.binds] at haf
      obtain rfl : x75 = _ := p2 haf.1
      obtain rfl : x76 = _ := p3 haf.2
      clear fR fN fW fx e1 e2 e3 e4 e5 p0 p1 p2 p3 p4 p5 p6 p7 p8 p9 p10 p11 p12 p13 p14 p15
      have hlt1 : (c : Int) < (rl : Int) := by omega
      go_wp2_with fail
      obtain ⟨f0, fR, fN, fW, fx, e1, e2, e3, e4, e5, p0, p1, p2, p3, p4, p5, p6, p7, p8, p9, p10, p11, p12, p13, p14, p15⟩ := HPF.out
      exact ⟨_, _, _, _, _, _, _, _, _, _, _, _, _, _, _, _, rfl, f0, fR, fN, fW, fx, e1, e2, e3, e4, e5, p0, p1, fun _ => rfl, fun _ => rfl, fun _ => rfl, p5, p6, p7, p8, p9, p10, p11, p12, p13, p14, p15⟩
    · simp only [List.getElem?_toArray, List.getElem?_cons_zero, List.getElem?_cons_succ, Option.some.injEq] at ho
      subst ho
      simp [Region.binds] at haf
      obtain rfl : x77 = _ := p4 haf
      have cl := (hcR.out wr fR).1
      clear fR fN fW fx e1 e2 e3 e4 e5 p0 p1 p2 p3 p4 p5 p6 p7 p8 p9 p10 p11 p12 p13 p14 p15
      go_wp2_with fail
      obtain ⟨f0, fR, fN, fW, fx, e1, e2, e3, e4, e5, p0, p1, p2, p3, p4, p5, p6, p7, p8, p9, p10, p11, p12, p13, p14, p15⟩ := HPF.out
      exact ⟨_, _, _, _, _, _, _, _, _, _, _, _, _, _, _, _, rfl, f0, fR, fN, fW, fx, e1, e2, e3, e4, e5, p0, p1, p2, p3, fun _ => rfl, fun _ => rfl, p6, p7, p8, p9, p10, p11, p12, p13, p14, p15⟩
    · simp only [List.getElem?_toArray, List.getElem?_cons_zero, List.getElem?_cons_succ, Option.some.injEq] at ho
      subst ho
      simp [Region.binds] at haf
      obtain ⟨b, hx74, hb1, hb2⟩ := p1 haf.1
      have hb3 := hb2 hli
      have hx78 := p5 haf.2
      have h12 : l 12 = false := by
        cases h : l 12 with
        | false => rfl
        | true => rw [e1 h] at hli; cases hli
      have h14 : l 14 = false := by
        cases h : l 14 with
        | false => rfl
        | true => rw [e2 h] at h12; cases h12
      have h13 : l 13 = false := by
        cases h : l 13 with
        | false => rfl
        | true => rw [e3 h] at h12; cases h12
      have hW : Hid _ := fW h14
      have HN : Hid _ := fN
      have own0 : wr.ownsRow (w.heap.size + 1) 2 1 (.slice (some ⟨b, 0, none⟩) 0 0) 0 [] := ⟨rfl, .inr ⟨b, 0, #[], rfl, by omega, hb3, by omega, by unfold maxLen; omega, rfl, rfl⟩⟩
      have hcs : Hid _ := (hcR.out wr fR).2.cells rfl
      have HB3 : Hid _ := hb3
      have HH : Hid (l 12 = false ∧ l 13 = false ∧ l 14 = false) := ⟨h12, h13, h14⟩
      have hsz : w.heap.size + 1 ≤ wr.heap.size := Nat.le_trans hbs f0
      subst hx74 hx78
      clear hb2 hb3 h12 h13 h14 fR fN fW fx e1 e2 e3 e4 e5 p0 p1 p2 p3 p4 p5 p6 p7 p8 p9 p10 p11 p12 p13 p14 p15
      go_wp2_with ((at_builtin; refine wpList_append_lies _ rfl (.tmp 74) (.tmp 78) 26 rfl (w.heap.size + 1) 2 i0 (.int .i64 0) 1 8 Try.underlying26 hi hz0 hz1 hz2 rfl (by decide) (.slice (some ⟨b, 0, none⟩) 0 0) 0 [] rfl own0 ⟨gc, 0, none⟩ (m + 1) cc (ints way) rfl HW1.out hcs.out (ints_oneCell way) (by omega) (by unfold maxLen; omega) (by omega) hsz _ rfl ?_; intro g1 c1 w1 own1 gr1 hat1 hlt1; simp only [Nat.zero_add, List.nil_append] at own1 ⊢; have HO : Hid _ := own1; have HG : Hid _ := gr1; have HAT : Hid _ := hat1; clear own1 gr1 hat1))
      have hg1 : hq ≤ g1 := by
        rcases HAT.out with h | h
        · simp [Value.ownBlock] at h; omega
        · omega
      have S1 := WSt.inner (n := 0) (xs := []) hW.out HG.out (fun k e => by simp [Value.ownBlock] at e; subst e; exact HFR.out _ hb1)
      obtain ⟨f0, fR, fN, fW, fx, e1, e2, e3, e4, e5, p0, p1, p2, p3, p4, p5, p6, p7, p8, p9, p10, p11, p12, p13, p14, p15⟩ := HPF.out
      exact ⟨_, _, _, _, _, _, _, _, _, _, _, _, _, _, _, _, rfl, Nat.le_trans f0 HG.out.size, S1.r, own_grown HN.out HG.out (fun q hk e => by simp [Value.ownBlock] at hk e; omega), fun _ => S1, fx, fun _ => rfl, e2, e3, e4, e5, p0, (fun h => ⟨b, rfl, hb1, fun h => by simp at h⟩), p2, p3, p4, (fun _ => rfl), (fun _ => ⟨g1, c1, rfl, hg1, fun _ => HO.out⟩), p7, p8, p9, p10, (fun h => by obtain ⟨b2, h1, h3⟩ := p11 h; refine ⟨b2, h1, fun _ => ?_⟩; have h4 := h3 HH.out.1; have hne : b2 ≠ b := (fun e => by rw [e, HB3.out] at h4; simp at h4); exact (HG.out.block b2 (Array.getElem?_eq_some_iff.1 h4).1 (by simp [Value.ownBlock]; omega)).trans h4), (fun h => absurd (show l 12 = true from h) (by rw [HH.out.1]; simp)), (fun h => absurd (show l 13 = true from h) (by rw [HH.out.2.1]; simp)), (fun h => absurd (show l 14 = true from h) (by rw [HH.out.2.2]; simp)), p15⟩
    · simp only [List.getElem?_toArray, List.getElem?_cons_zero, List.getElem?_cons_succ, Option.some.injEq] at ho
      subst ho
      clear fR fN fW fx e1 e2 e3 e4 e5 p0 p1 p2 p3 p4 p5 p6 p7 p8 p9 p10 p11 p12 p13 p14 p15
      go_wp2_with fail
      obtain ⟨f0, fR, fN, fW, fx, e1, e2, e3, e4, e5, p0, p1, p2, p3, p4, p5, p6, p7, p8, p9, p10, p11, p12, p13, p14, p15⟩ := HPF.out
      exact ⟨_, _, _, _, _, _, _, _, _, _, _, _, _, _, _, _, rfl, f0, fR, fN, fW, fx, e1, e2, e3, e4, e5, p0, p1, p2, p3, p4, p5, p6, fun _ => rfl, p8, p9, p10, p11, p12, p13, p14, p15⟩
    · simp only [List.getElem?_toArray, List.getElem?_cons_zero, List.getElem?_cons_succ, Option.some.injEq] at ho
      subst ho
      clear fR fN fW fx e1 e2 e3 e4 e5 p0 p1 p2 p3 p4 p5 p6 p7 p8 p9 p10 p11 p12 p13 p14 p15
      go_wp2_with fail
      obtain ⟨f0, fR, fN, fW, fx, e1, e2, e3, e4, e5, p0, p1, p2, p3, p4, p5, p6, p7, p8, p9, p10, p11, p12, p13, p14, p15⟩ := HPF.out
      exact ⟨_, _, _, _, _, _, _, _, _, _, _, _, _, _, _, _, rfl, f0, fR, fN, fW, fx, e1, e2, e3, e4, e5, p0, p1, p2, p3, p4, p5, p6, p7, fun _ => rfl, p9, p10, p11, p12, p13, p14, p15⟩
    · simp only [List.getElem?_toArray, List.getElem?_cons_zero, List.getElem?_cons_succ, Option.some.injEq] at ho
      subst ho
      simp [Region.binds] at haf
      obtain rfl : x80 = _ := p7 haf.1
      obtain rfl : x81 = _ := p8 haf.2
      clear fR fN fW fx e1 e2 e3 e4 e5 p0 p1 p2 p3 p4 p5 p6 p7 p8 p9 p10 p11 p12 p13 p14 p15
      have hlt1 : (k : Int) < (nl : Int) := by omega
      go_wp2_with fail
      obtain ⟨f0, fR, fN, fW, fx, e1, e2, e3, e4, e5, p0, p1, p2, p3, p4, p5, p6, p7, p8, p9, p10, p11, p12, p13, p14, p15⟩ := HPF.out
      exact ⟨_, _, _, _, _, _, _, _, _, _, _, _, _, _, _, _, rfl, f0, fR, fN, fW, fx, e1, e2, e3, e4, e5, p0, p1, p2, p3, p4, p5, p6, fun _ => rfl, fun _ => rfl, fun _ => rfl, p10, p11, p12, p13, p14, p15⟩
    · simp only [List.getElem?_toArray, List.getElem?_cons_zero, List.getElem?_cons_succ, Option.some.injEq] at ho
      subst ho
      simp [Region.binds] at haf
      obtain rfl : x82 = _ := p9 haf
      have cl := hcN.out wr fN
      clear fR fN fW fx e1 e2 e3 e4 e5 p0 p1 p2 p3 p4 p5 p6 p7 p8 p9 p10 p11 p12 p13 p14 p15
      go_wp2_with fail
      obtain ⟨f0, fR, fN, fW, fx, e1, e2, e3, e4, e5, p0, p1, p2, p3, p4, p5, p6, p7, p8, p9, p10, p11, p12, p13, p14, p15⟩ := HPF.out
      exact ⟨_, _, _, _, _, _, _, _, _, _, _, _, _, _, _, _, rfl, f0, fR, fN, fW, fx, e1, e2, e3, e4, e5, p0, p1, p2, p3, p4, p5, p6, p7, p8, fun _ => rfl, fun _ => rfl, p11, p12, p13, p14, p15⟩
    · simp only [List.getElem?_toArray, List.getElem?_cons_zero, List.getElem?_cons_succ, Option.some.injEq] at ho
      subst ho
      simp [Region.binds] at haf
      obtain rfl : x83 = _ := p10 haf
      clear fR fN fW fx e1 e2 e3 e4 e5 p0 p1 p2 p3 p4 p5 p6 p7 p8 p9 p10 p11 p12 p13 p14 p15
      have B : Below wr.heap.size wr (wr.alloc (.cells #[.int .i64 y] 2)) := by go_grown
      have hf := YFct.below HPF.out B
      have HF : Hid _ := hf
      clear hf
      go_wp2_with fail
      obtain ⟨f0, fR, fN, fW, fx, e1, e2, e3, e4, e5, p0, p1, p2, p3, p4, p5, p6, p7, p8, p9, p10, p11, p12, p13, p14, p15⟩ := HF.out
      exact ⟨_, _, _, _, _, _, _, _, _, _, _, _, _, _, _, _, rfl, f0, fR, fN, fW, fx, e1, e2, e3, e4, e5, p0, p1, p2, p3, p4, p5, p6, p7, p8, p9, fun _ => rfl, fun _ => ⟨wr.heap.size, rfl, fun _ => heap_alloc_new wr _⟩, p12, p13, p14, p15⟩
    · simp only [List.getElem?_toArray, List.getElem?_cons_zero, List.getElem?_cons_succ, Option.some.injEq] at ho
      subst ho
      simp [Region.binds] at haf
      obtain ⟨g1, c1, hx79, hg1, h1⟩ := p6 haf.1
      have own1 := h1 hli
      obtain ⟨b2, hx84, h2⟩ := p11 haf.2.1
      have HB2 : Hid _ := h2 hli
      have h14 : l 14 = false := by
        cases h : l 14 with
        | false => rfl
        | true => rw [e2 h] at hli; cases hli
      have h13 : l 13 = false := by
        cases h : l 13 with
        | false => rfl
        | true => rw [e3 h] at hli; cases hli
      have hW : Hid _ := fW h14
      have HN : Hid _ := fN
      have HH : Hid (l 13 = false ∧ l 14 = false) := ⟨h13, h14⟩
      have hsz : w.heap.size + 1 ≤ wr.heap.size := Nat.le_trans hbs f0
      subst hx79 hx84
      have OW : Hid _ := own1
      have HA : Hid _ := haf
      clear own1 h1 h2 h13 h14 haf fR fN fW fx e1 e2 e3 e4 e5 p0 p1 p2 p3 p4 p5 p6 p7 p8 p9 p10 p11 p12 p13 p14 p15
      go_wp2_with ((at_builtin; refine wpList_append_lies _ rfl (.tmp 79) (.tmp 84) 26 rfl (w.heap.size + 1) 2 i0 (.int .i64 0) 1 8 Try.underlying26 hi hz0 hz1 hz2 rfl (by decide) (.slice (some ⟨g1, 0, none⟩) (m + 1) c1) (m + 1) (ints way) rfl OW.out ⟨b2, 0, none⟩ 1 1 [.int .i64 y] rfl rfl (World.news_of_block HB2.out) (ints_oneCell [y]) (by omega) (by unfold maxLen; omega) (by omega) hsz _ rfl ?_; intro g2 c2 w1 own2 gr2 hat2 hlt2; have HO : Hid _ := own2; have HG : Hid _ := gr2; have HAT : Hid _ := hat2; clear own2 gr2 hat2))
      have hg2 : hq ≤ g2 := by
        rcases HAT.out with h | h
        · simp [Value.ownBlock] at h; omega
        · omega
      have S1 := WSt.inner (n := 0) (xs := []) hW.out HG.out (fun k e => by simp [Value.ownBlock] at e; subst e; exact HFR.out _ hg1)
      have O2 : w1.ownsRow (w.heap.size + 1) 2 1 (.slice (some ⟨g2, 0, none⟩) (m + 1 + 1) c2) (m + 1 + 1) (ints (way ++ [y])) := by
        rw [show ints (way ++ [y]) = ints way ++ [.int .i64 y] from by simp [ints]]
        exact HO.out
      obtain ⟨f0, fR, fN, fW, fx, e1, e2, e3, e4, e5, p0, p1, p2, p3, p4, p5, p6, p7, p8, p9, p10, p11, p12, p13, p14, p15⟩ := HPF.out
      exact ⟨_, _, _, _, _, _, _, _, _, _, _, _, _, _, _, _, rfl, Nat.le_trans f0 HG.out.size, S1.r, own_grown HN.out HG.out (fun q hk e => by simp [Value.ownBlock] at hk e; omega), fun _ => S1, fx, fun _ => HA.out.1, fun _ => rfl, fun _ => rfl, e4, e5, p0, (fun h => by obtain ⟨b, h1, h2, h3⟩ := p1 h; exact ⟨b, h1, h2, fun h => absurd (show l 6 = false from h) (by rw [HA.out.1]; simp)⟩), p2, p3, p4, p5, (fun _ => ⟨g1, c1, rfl, hg1, fun h => by simp at h⟩), p7, p8, p9, p10, (fun _ => ⟨b2, rfl, fun h => by simp at h⟩), (fun _ => ⟨g2, c2, rfl, hg2, fun _ => O2⟩), (fun h => absurd (show l 13 = true from h) (by rw [HH.out.1]; simp)), (fun h => absurd (show l 14 = true from h) (by rw [HH.out.2]; simp)), p15⟩
    · simp only [List.getElem?_toArray, List.getElem?_cons_zero, List.getElem?_cons_succ, Option.some.injEq] at ho
      subst ho
      simp [Region.binds] at haf
      obtain ⟨g2, c2, hx85, _, _⟩ := p12 haf
      subst hx85
      clear fR fN fW fx e1 e2 e3 e4 e5 p0 p1 p2 p3 p4 p5 p6 p7 p8 p9 p10 p11 p12 p13 p14 p15
      have B : Below wr.heap.size wr (wr.alloc (.cells #[.slice (some ⟨g2, 0, none⟩) (m + 1 + 1) c2] 26)) := by go_grown
      have hf := YFct.below HPF.out B
      have HF : Hid _ := hf
      clear hf
      go_wp2_with fail
      obtain ⟨f0, fR, fN, fW, fx, e1, e2, e3, e4, e5, p0, p1, p2, p3, p4, p5, p6, p7, p8, p9, p10, p11, p12, p13, p14, p15⟩ := HF.out
      exact ⟨_, _, _, _, _, _, _, _, _, _, _, _, _, _, _, _, rfl, f0, fR, fN, fW, fx, e1, e2, fun _ => haf, e4, e5, p0, p1, p2, p3, p4, p5, p6, p7, p8, p9, p10, p11, p12, fun _ => ⟨wr.heap.size, rfl, fun _ => heap_alloc_new wr _⟩, p14, p15⟩
    · simp only [List.getElem?_toArray, List.getElem?_cons_zero, List.getElem?_cons_succ, Option.some.injEq] at ho
      subst ho
      simp [Region.binds] at haf
      have hx73 := p0 haf.1
      obtain ⟨b3, hx86, h3⟩ := p13 haf.2.1
      have HB3 : Hid _ := h3 hli
      have h12 := e3 haf.2.1
      have h6 := e1 h12
      obtain ⟨g2, c2, hx85, hg2, h2⟩ := p12 h12
      have OW : Hid _ := h2 hli
      have hW : Hid _ := fW hli
      have HN : Hid _ := fN
      have HH : Hid (l 6 = true ∧ l 12 = true) := ⟨h6, h12⟩
      have H15 : Hid (l 15 = false) := by
        show l 15 = false
        cases h : l 15 with
        | false => rfl
        | true => rw [e4 h] at hli; cases hli
      have hsz : w.heap.size + 1 ≤ wr.heap.size := Nat.le_trans hbs f0
      have hone2 : ∀ u ∈ [Value.slice (some ⟨g2, 0, none⟩) (m + 1 + 1) c2], u.oneCell' = true := (fun u hu => by simp at hu; subst hu; rfl)
      have hlz : zs.length + 1 ≤ maxLen := by unfold maxLen; omega
      subst hx73 hx86 hx85
      clear h2 h3 h6 h12 haf fR fN fW fx e1 e2 e3 e4 e5 p0 p1 p2 p3 p4 p5 p6 p7 p8 p9 p10 p11 p12 p13 p14 p15
      go_wp2_with ((at_builtin; refine wpList_append_lies _ rfl (.tmp 73) (.tmp 86) 45 rfl (w.heap.size + 1) 26 i1 (.slice none 0 0) 1 24 Try.underlying45 hjS hy0 hy1 hy2 rfl (by decide) (.slice (some ⟨gn, 0, none⟩) zs.length cn) zs.length ns rfl hW.out.n.row ⟨b3, 0, none⟩ 1 1 [.slice (some ⟨g2, 0, none⟩) (m + 1 + 1) c2] rfl rfl (World.news_of_block HB3.out) hone2 (by omega) hlz (by omega) hsz _ rfl ?_; intro g3 c3 w1 own3 gr3 hat3 hlt3; have HO : Hid _ := own3; have HG : Hid _ := gr3; have HAT : Hid _ := hat3; clear own3 gr3 hat3))
      have hwy : (way ++ [y]).length = m + 1 + 1 := by rw [List.length_append, HWL.out]; rfl
      have S3 := WSt.appN (xs := way ++ [y]) hW.out (by rw [hwy]; exact OW.out) HO.out HG.out HAT.out
      obtain ⟨f0, fR, fN, fW, fx, e1, e2, e3, e4, e5, p0, p1, p2, p3, p4, p5, p6, p7, p8, p9, p10, p11, p12, p13, p14, p15⟩ := HPF.out
      exact ⟨_, _, _, _, _, _, _, _, _, _, _, _, _, _, _, _, rfl, Nat.le_trans f0 HG.out.size, S3.r, row_kept HN.out hW.out.n.row HG.out, (fun h => by simp at h), fx, e1, fun _ => HH.out.2, e3, fun _ => rfl, e5, (fun _ => rfl), (fun h => by obtain ⟨b, h1, h2, h3⟩ := p1 h; exact ⟨b, h1, h2, fun h => absurd (show l 6 = false from h) (by rw [HH.out.1]; simp)⟩), p2, p3, p4, p5, (fun h => by obtain ⟨g1, c1, h1, h2, h3⟩ := p6 h; exact ⟨g1, c1, h1, h2, fun h => absurd (show l 12 = false from h) (by rw [HH.out.2]; simp)⟩), p7, p8, p9, p10, (fun h => by obtain ⟨b2, h1, h3⟩ := p11 h; exact ⟨b2, h1, fun h => absurd (show l 12 = false from h) (by rw [HH.out.2]; simp)⟩), (fun _ => ⟨g2, c2, rfl, hg2, fun h => by simp at h⟩), (fun _ => ⟨b3, rfl, fun h => by simp at h⟩), (fun _ => ⟨g2, c2, g3, c3, rfl, S3⟩), (fun h => absurd (show l 15 = true from h) (by rw [H15.out]; simp))⟩
    · simp only [List.getElem?_toArray, List.getElem?_cons_zero, List.getElem?_cons_succ, Option.some.injEq] at ho
      subst ho
      simp [Region.binds] at haf
      obtain ⟨g2, c2, g3, c3, rfl, hS⟩ := p14 haf.1
      clear fR fN fW fx e1 e2 e3 e4 e5 p0 p1 p2 p3 p4 p5 p6 p7 p8 p9 p10 p11 p12 p13 p14 p15
      have HS : Hid _ := hS
      clear hS
      go_wp2_with fail
      obtain ⟨f0, fR, fN, fW, fx, e1, e2, e3, e4, e5, p0, p1, p2, p3, p4, p5, p6, p7, p8, p9, p10, p11, p12, p13, p14, p15⟩ := HPF.out
      exact ⟨_, _, _, _, _, _, _, _, _, _, _, _, _, _, _, _, rfl, f0, fR, fN, fW, (fun h => by simp at h), e1, e2, e3, fun _ => haf.1, fun _ => haf.2.1, p0, p1, p2, p3, p4, p5, p6, p7, p8, p9, p10, p11, p12, p13, p14, fun _ => rfl⟩
  case he =>
    intro l a wr hI hall
    obtain ⟨x10, x73, x74, x75, x76, x77, x78, x79, x80, x81, x82, x83, x84, x85, x86, x87, rfl, pf⟩ := hI
    obtain ⟨f0, fR, fN, fW, fx, e1, e2, e3, e4, e5, p0, p1, p2, p3, p4, p5, p6, p7, p8, p9, p10, p11, p12, p13, p14, p15⟩ := pf
    obtain ⟨g2, c2, g3, c3, h1, h2⟩ := p14 (hall 14 (by simp))
    have h3 := p15 (hall 15 (by simp))
    exact hend.out x10 x73 x74 x75 x76 x77 x78 x79 x80 x81 x82 x83 x84 x85 x86 x87 g2 c2 g3 c3 wr (h3.trans h1) h2 fN

end Go.Proofs.Ytciccbbgamklbaa
