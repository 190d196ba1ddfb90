/-
  impl.Ways: the two regions of its loop's body that draw their orders.
-/
import Derived.Test.YtjlfmjoallnojabImplWays2
namespace Go.Proofs.Ytjlfmjoallnojab
open Go.RowKit Go.Shelf
set_option linter.unusedVariables false
set_option linter.unusedSimpArgs false
set_option maxHeartbeats 4000000
set_option maxRecDepth 20000
attribute [local go_sem] Oper.semAt_some

def B6 (u : Value) (gc off q : Nat) (z i : Int) (l : Nat → Bool) (x25 x26 x27 x28 x29 x30 x31 x32 : Value) : Prop :=
  (l 0 = true → x25 = u) ∧ (l 1 = true → x26 = u) ∧ (l 2 = true → x27 = .int .i64 ((q : Int) + 1)) ∧ (l 3 = true → x28 = .int .i64 (q : Int)) ∧ (l 4 = true → x29 = .pointer (some ⟨gc, off + q, none⟩)) ∧ (l 5 = true → x30 = .int .i64 z) ∧ (l 6 = true → x31 = .int .i64 i) ∧ (l 7 = true → x32 = .bool (decide (z = i)))

def I6 (Bt Bw : Nat) (u : Value) (gc off q : Nat) (z i : Int) (W6 : World) (l : Nat → Bool) (a : Act) (wr : World) : Prop :=
  ∃ y0 y1 y2 y3 y5 y6 y9 y10 y11 y12 y13 y14 y15 y16 y17 y18 y19 y20 y21 y22 y23 y24 y33 y34 y35 y36 y37 y38 x25 x26 x27 x28 x29 x30 x31 x32 : Value, a = { tmps := List.toArray (y0 :: y1 :: y2 :: y3 :: .pointer (some ⟨Bt, 0, none⟩) :: y5 :: y6 :: .pointer (some ⟨Bw, 0, none⟩) :: u :: y9 :: y10 :: y11 :: y12 :: y13 :: y14 :: y15 :: y16 :: y17 :: y18 :: y19 :: y20 :: y21 :: y22 :: y23 :: y24 :: x25 :: x26 :: x27 :: x28 :: x29 :: x30 :: x31 :: x32 :: y33 :: y34 :: y35 :: y36 :: y37 :: y38 :: []), defers := [] } ∧ wr = W6 ∧ B6 u gc off q z i l x25 x26 x27 x28 x29 x30 x31 x32

def B7 (Bw : Nat) (u ov : Value) (us : List Value) (xss : List (List Int)) (way : List Int) (q base : Nat) (Ws : World) (l : Nat → Bool) (x33 x34 x35 x36 x37 : Value) (wr : World) : Prop :=
  (Ws.heap.size ≤ wr.heap.size ∧ wr.os = Ws.os ∧ wr.tape = Ws.tape ∧ wr.output = Ws.output) ∧
  (l 4 = false → Below Ws.heap.size Ws wr) ∧
  (l 4 = true → ∀ r, r < Ws.heap.size → r ≠ Bw → ov.ownBlock ≠ some r → wr.heap[r]? = Ws.heap[r]?) ∧
  (l 5 = false → wr.heap[Bw]? = some (.cells #[ov] 29 (0, 0))) ∧
  (l 5 = true → l 4 = true) ∧
  (l 4 = true → l 2 = true) ∧
  (l 4 = true → l 3 = true) ∧
  (l 3 = true → l 2 = true) ∧
  (l 4 = true → l 0 = true) ∧
  (l 0 = true → x33 = ov) ∧
  (l 1 = true → x34 = u) ∧
  (l 2 = true → ∃ g1 c1, x35 = .slice (some ⟨g1, 0, none⟩) (q + 1) c1 ∧ Ws.heap.size ≤ g1 ∧ (l 4 = false → wr.ownsRow base 2 1 x35 (q + 1) (ints way))) ∧
  (l 3 = true → ∃ b, x36 = .slice (some ⟨b, 0, none⟩) 1 1 ∧ (l 4 = false → wr.heap[b]? = some (.cells #[x35] 31 (0, 0)))) ∧
  (l 4 = true → ∃ g1 c1 g3 c3, x37 = .slice (some ⟨g3, 0, none⟩) (xss.length + 1) c3 ∧ OwnSS wr base x37 (us ++ [.slice (some ⟨g1, 0, none⟩) (q + 1) c1]) (xss ++ [way]) ∧ Ws.heap.size ≤ g1 ∧ (ov.ownBlock = some g3 ∨ Ws.heap.size ≤ g3)) ∧
  (l 5 = true → wr.heap[Bw]? = some (.cells #[x37] 29 (0, 0)))

def I7 (Bt : Nat) (Bw : Nat) (u ov : Value) (us : List Value) (xss : List (List Int)) (way : List Int) (q base : Nat) (Ws : World) (l : Nat → Bool) (a : Act) (wr : World) : Prop :=
  ∃ y0 y1 y2 y3 y5 y6 y9 y10 y11 y12 y13 y14 y15 y16 y17 y18 y19 y20 y21 y22 y23 y24 y25 y26 y27 y28 y29 y30 y31 y32 y38 x33 x34 x35 x36 x37 : Value, a = { tmps := List.toArray (y0 :: y1 :: y2 :: y3 :: .pointer (some ⟨Bt, 0, none⟩) :: y5 :: y6 :: .pointer (some ⟨Bw, 0, none⟩) :: u :: y9 :: y10 :: y11 :: y12 :: y13 :: y14 :: y15 :: y16 :: y17 :: y18 :: y19 :: y20 :: y21 :: y22 :: y23 :: y24 :: y25 :: y26 :: y27 :: y28 :: y29 :: y30 :: y31 :: y32 :: x33 :: x34 :: x35 :: x36 :: x37 :: y38 :: []), defers := [] } ∧ B7 Bw u ov us xss way q base Ws l x33 x34 x35 x36 x37 wr

theorem grown_setCell8 (w : World) (b o : Nat) (v : Value) : w.grownBy (w.setCell ⟨b, o, none⟩ v) (some b) :=
  ⟨rfl, rfl, rfl, by simp [World.setCell], fun k _ hk => Below.heap_setCell w ⟨b, o, none⟩ v k (fun e => hk (by rw [e]))⟩

theorem apart_more {us : List Value} {u : Value} {B : Nat} (h : ApartSS us) (hb : ∀ a ∈ us, ∀ k, a.ownBlock = some k → k < B) (hu : ∀ k, u.ownBlock = some k → B ≤ k) : ApartSS (us ++ [u]) := by
  intro x y a b k hxy ha hb' hk hk'
  have cs : ∀ (j : Nat) (c : Value), (us ++ [u])[j]? = some c → us[j]? = some c ∨ (j = us.length ∧ c = u) := fun j c hc => by
    rcases Nat.lt_or_ge j us.length with hj | hj
    · rw [List.getElem?_append_left hj] at hc; exact .inl hc
    · rw [List.getElem?_append_right hj] at hc
      rcases Nat.eq_zero_or_pos (j - us.length) with h0 | h0
      · rw [h0] at hc; simp at hc; exact .inr ⟨by omega, hc.symm⟩
      · rw [List.getElem?_eq_none (by simp; omega)] at hc; cases hc
  rcases cs x a ha with h1 | ⟨h1, rfl⟩
  · rcases cs y b hb' with h2 | ⟨h2, rfl⟩
    · exact h x y a b k hxy h1 h2 hk hk'
    · have := hb a (List.mem_of_getElem? h1) k hk
      have := hu k hk'
      omega
  · rcases cs y b hb' with h2 | ⟨h2, rfl⟩
    · have := hb b (List.mem_of_getElem? h2) k hk'
      have := hu k hk
      omega
    · omega

theorem implWays (ss : List Stm) (i most : Int) (v : Value) (w : World) (hl : ss.length ≤ maxLen) (hv : Reads3 w v ss) :
    Calls Try.prog 6 #[.agg #[v], .int .i64 i, .int .i64 most] w fun e w' => ∃ u us, e = .returned u ∧ OwnSS w' w.heap.size u us (waysAns ss i most) ∧ ApartSS us ∧ Below w.heap.size w w' := by
  obtain ⟨i1, hjS, hy0, hy1, hy2⟩ := info_parts infoSlice
  obtain ⟨W0, hW0⟩ : ∃ W0, (w.alloc (.cells #[v] 26)).alloc (.cells #[.int .i64 i] 2) = W0 := ⟨_, rfl⟩
  have hb0 : Below w.heap.size w W0 := by rw [← hW0]; go_grown
  have s0 : W0.heap.size = w.heap.size + 1 + 1 := by rw [← hW0]; simp
  have P0 : W0.heap[w.heap.size]? = some (.cells #[v] 26 (0, 0)) := by rw [← hW0, old_block (by simp)]; exact heap_alloc_new w _
  have T0 : W0.heap[w.heap.size + 1]? = some (.cells #[.int .i64 i] 2 (0, 0)) := by
    rw [← hW0]
    have := heap_alloc_new (w.alloc (.cells #[v] 26)) (.cells #[.int .i64 i] 2)
    simpa using this
  have he := hasStmt ss i v W0 hl (reads3_below hv hb0)
  have hnil : OwnSS w w.heap.size (.slice none 0 0) [] [] := ⟨⟨rfl, .inl ⟨rfl, rfl⟩⟩, fun j u xs h => by simp at h⟩
  obtain ⟨c0, z0⟩ := one_cell P0
  obtain ⟨c1, z1⟩ := one_cell T0
  by_cases hgood : hasS ss i = true ∧ 1 ≤ most ∧ most ≤ 9
  · obtain ⟨hh, hm1, hm9⟩ := hgood
    obtain ⟨M, rfl⟩ : ∃ M : Nat, most = M := ⟨most.toNat, by omega⟩
    have hM : M ≤ 9 := by omega
    have hans : waysAns ss i M = waysTo ss i M := by
      unfold waysAns
      rw [if_pos (by simp [hh, inB]; omega)]
      rfl
    rw [hans]
    have hok : procOk ss = true := by
      cases h : procOk ss
      · simp [hasS, h] at hh
      · rfl
    rw [hh] at he
    refine (callsIn_wide (n := 5)).1 ?_
    refine callsIn_of_wp_marks Try.func6 rfl trivial ?_ rfl
    simp only [Try.ntmps6, List.size_toArray, List.length_cons, List.length_nil, Nat.reduceAdd, Nat.reduceSub, Array.replicate_succ, Array.replicate_zero, List.push_toArray, List.append_toArray, List.nil_append, List.cons_append]
    gi_wp2
    refine ⟨trivial, ?_⟩
    refine (callsIn_wide.2 he).mono ?_
    rintro e w2 ⟨rfl, b2⟩
    have s2 := b2.size
    have P2 := (b2.block w.heap.size (by omega)).trans P0
    have T2 := (b2.block (w.heap.size + 1) (by omega)).trans T0
    have L2 := hb0.trans (b2.mono hb0.size)
    have hlt2 : w.heap.size + 1 < w2.heap.size := by omega
    clear c0 z0 c1 z1 hW0 he P0 T0
    obtain ⟨c0, z0⟩ := one_cell P2
    have hm1' : decide ((M : Int) < 1) = false := by simp; omega
    have hm9' : decide ((9 : Int) < (M : Int)) = false := by simp; omega
    have hltA : w.heap.size < w2.heap.size := by omega
    gi_wp2
    refine ⟨trivial, ?_⟩
    refine (callsIn_wide.2 (waysUpTo v M _)).mono ?_
    rintro e w3 ⟨rfl, hw3⟩
    have hs3 : (w2.alloc (.cells #[.slice none 0 0] 29)).heap.size = w2.heap.size + 1 := by simp
    have hz3 : w3.heap.size = w2.heap.size + 1 + 1 + 1 := by rw [hw3]; simp
    have R3 : w3.heap[w2.heap.size]? = some (.cells #[.slice none 0 0] 29 (0, 0)) := by
      rw [hw3, old_block (by simp; omega), old_block (by simp)]; exact heap_alloc_new w2 _
    have N3 : w3.heap[w2.heap.size + 1]? = some (.cells #[v] 26 (0, 0)) := by
      have := heap_alloc_new (w2.alloc (.cells #[.slice none 0 0] 29)) (.cells #[v] 26)
      rw [hs3] at this
      rw [hw3, old_block (by simp)]; exact this
    have M3 : w3.heap[w2.heap.size + 1 + 1]? = some (.cells #[.int .i64 M] 2 (0, 0)) := by
      have := heap_alloc_new ((w2.alloc (.cells #[.slice none 0 0] 29)).alloc (.cells #[v] 26)) (.cells #[.int .i64 M] 2)
      rw [World.size_alloc, hs3] at this
      rw [hw3]; exact this
    have T3 : w3.heap[w.heap.size + 1]? = some (.cells #[.int .i64 i] 2 (0, 0)) := by
      rw [hw3, old_block (by simp; omega), old_block (by simp; omega), old_block (by omega)]; exact T2
    have L3 : Below w.heap.size w w3 := by rw [hw3]; exact ((L2.alloc L2.size _).alloc (by simp; omega) _).alloc (by simp; omega) _
    clear hw3 hs3 c0 z0 P2 T2
    have hst : ∀ f : Nat → Prop, f w2.heap.size → f (w.heap.size + 1) → VSt i w w2.heap.size (w.heap.size + 1) [] f w3 := fun f hf hft => ⟨⟨.slice none 0 0, [], R3, ⟨⟨rfl, .inl ⟨rfl, rfl⟩⟩, fun j u xs h => by simp at h⟩, fun a b x y k _ h => by simp at h, fun k h => by simp [Value.ownBlock] at h, fun u hu => by simp at hu⟩, T3, hf, hft, L3⟩
    gi_wp2
    refine wpIn_rangeFunc_footG (α := Value × List Int) rfl (by decide) (gf := 38) (lb := #[.pointer (some ⟨w2.heap.size + 1 + 1, 0, none⟩), .pointer (some ⟨w2.heap.size + 1, 0, none⟩)]) (by simp [go_sem]) trivial (enters_of Try.func38 (by kernel_rfl) rfl)
      (ways_foot _ (w2.heap.size + 1) (w2.heap.size + 1 + 1) M ss v w w3 hok hM hv L3 N3 (by omega) M3) (Below.refl _ _) (fun _ => rfl) wg_put
      (fun r => r = w2.heap.size ∨ r = w.heap.size + 1) (fun r hr => by rcases hr with h | h <;> omega) (fun r hr => by rcases hr with (h | h) | h | h <;> omega)
      (VSt i w w2.heap.size (w.heap.size + 1)) (fun _ _ _ _ => False) (vst_own i w w2.heap.size (w.heap.size + 1) w3.heap.size (by omega) (by omega) (by omega)) (fun _ _ _ _ _ _ hs _ _ => hs)
      (hst _ (.inl (.inl rfl)) (.inl (.inr rfl))) (fun x => { tmps := #[.agg #[v], .int .i64 i, .int .i64 M, .pointer (some ⟨w.heap.size, 0, none⟩), .pointer (some ⟨w.heap.size + 1, 0, none⟩), undef, .slice none 0 0, .pointer (some ⟨w2.heap.size, 0, none⟩), x.1, .agg #[v], .int .i64 i, .bool true, .bool false, .bool false, .int .i64 M, .bool false, .bool false, .bool false, .int .i64 M, .bool false, .bool false, .agg #[v], .int .i64 M, .func (.func 38) #[] #[.pointer (some ⟨w2.heap.size + 1 + 1, 0, none⟩), .pointer (some ⟨w2.heap.size + 1, 0, none⟩)], x.1, undef, undef, undef, undef, undef, undef, undef, undef, undef, undef, undef, undef, undef, undef], defers := [] }) ?assign ?body ?done ?stop
    case assign =>
      intro l x W K hK
      gi_wp2
      exact hK
    case stop =>
      rintro D c pre f W _ _ h _
      exact h.elim
    case done =>
      rintro D xs f W hD hS ⟨⟨ov, us, h1, h2, h3, h4, h5⟩, ha, hf, hft, hbl⟩ hK
      have hfl : wfl i xs = waysTo ss i M := by
        unfold wfl
        rw [hS]
        exact allTo_filter ss i M
      rw [hfl] at h2
      obtain ⟨cw, fw⟩ := one_cell h1
      gi_wp2
      refine ⟨by simp, .inl ⟨_, _, rfl, run_takeDeferred hK, ?_⟩⟩
      have hne : ∀ {e : TypeId} {vv : Value} {nn : Nat} {cs : List Value}, W.ownsRow w.heap.size e 1 vv nn cs → ∀ kk, vv.ownBlock = some kk → kk ≠ D := fun ho kk hk e => by
        obtain ⟨cur, hc⟩ := own_cells ho hk
        rw [e, hK] at hc
        simp at hc
      refine ⟨_, results_tmp rfl _ _ _, _, us, rfl, h2.same (fun k hk => World.putObj_heap_other (hne h2.row k hk)) (fun u hu k hk => ?_), h3, hbl.trans (belowK_b (w := w) (Nat.le_refl _) W D _ _ (by omega) hK rfl rfl)⟩
      obtain ⟨ys, _, ho⟩ := h2.inner hu
      exact World.putObj_heap_other (hne ho k hk)
    case body =>
      rintro l pre ⟨u, way⟩ f W ⟨⟨ov, us, h1, h2, h3, h4, h5⟩, ha, hf, hft, hbl⟩ hG hflt hfD hlen
      obtain ⟨hrd, hnf, hw0, hw10⟩ := hG
      simp only at hrd hnf hw0 hw10 ⊢
      obtain ⟨q, hwl⟩ : ∃ q, way.length = q + 1 := ⟨way.length - 1, by omega⟩
      obtain ⟨ao, cu, hu, hcells⟩ := id hrd
      rw [ints_length, hwl] at hu
      obtain ⟨z, hz⟩ : ∃ z, lastI way = z := ⟨_, rfl⟩
      have hql : q < way.length := by omega
      have hwq : way[q] = z := by
        rw [← hz]
        unfold lastI
        rw [hwl]
        simp [List.getD, hql]
      obtain ⟨gc, off, hao, hcell⟩ := hcells q (.int .i64 z) (by simp [ints, hql, hwq])
      subst hao
      subst hu
      have cl : W.drew.cell? ⟨gc, off + q, none⟩ = some (.int .i64 z) := hcell
      have ct : W.drew.cell? ⟨w.heap.size + 1, 0, none⟩ = some (.int .i64 i) := (one_cell ha).1
      have HLAST : Hid (lastI way = z) := hz
      have HBW : Hid (W.heap[w2.heap.size]? = some (.cells #[ov] 29 (0, 0))) := h1
      have HBT : Hid (W.heap[w.heap.size + 1]? = some (.cells #[.int .i64 i] 2 (0, 0))) := ha
      have HOS : Hid (OwnSS W w.heap.size ov us (wfl i pre)) := h2
      have HAP : Hid (ApartSS us) := h3
      have HOF : Hid ((∀ k, ov.ownBlock = some k → f k) ∧ (∀ uu ∈ us, ∀ k, uu.ownBlock = some k → f k)) := ⟨h4, h5⟩
      have HF : Hid (f w2.heap.size ∧ f (w.heap.size + 1)) := ⟨hf, hft⟩
      have HBL : Hid (Below w.heap.size w W) := hbl
      have hxl0 : (wfl i pre).length ≤ 100000 := by
        unfold wfl
        refine Nat.le_trans (List.length_filter_le _ _) ?_
        rw [List.length_map]
        omega
      have hxl : Hid ((wfl i pre).length ≤ 100000) := hxl0
      have hWbase : Hid (w.heap.size ≤ W.drew.drew.heap.size) := hbl.size
      have hbd : Below W.heap.size W W.drew.drew := by go_grown
      have hrdD : Hid (Reads W.drew.drew (.slice (some ⟨gc, off, none⟩) (q + 1) cu) (ints way)) := reads_below hrd hbd
      have hOS : Hid (OwnSS W.drew.drew w.heap.size ov us (wfl i pre)) := h2.below hbd
      have hBwH : Hid (W.drew.drew.heap[w2.heap.size]? = some (.cells #[ov] 29 (0, 0))) := h1
      clear hcell hcells hrd hz hwq h1 h2 h3 h4 h5 ha hbd hxl0 hbl
      generalize hxe : wfl i pre = xss at hxl hOS HOS
      have HXE : Hid (wfl i pre = xss) := hxe
      clear hxe
      gi_wp2
      refine wpIn_region_inv (by kernel_rfl) (by kernel_rfl) (I6 (w.heap.size + 1) w2.heap.size (.slice (some ⟨gc, off, none⟩) (q + 1) cu) gc off q z i W.drew) ?h60 ?h6s ?h6e
      case h60 => exact ⟨_, _, _, _, _, _, _, _, _, _, _, _, _, _, _, _, _, _, _, _, _, _, _, _, _, _, _, _, _, _, _, _, _, _, _, _, rfl, rfl, by simp, by simp, by simp, by simp, by simp, by simp, by simp, by simp⟩
      case h6s =>
        intro l' k o a wr ho hI hli haf
        obtain ⟨y0, y1, y2, y3, y5, y6, y9, y10, y11, y12, y13, y14, y15, y16, y17, y18, y19, y20, y21, y22, y23, y24, y33, y34, y35, y36, y37, y38, x25, x26, x27, x28, x29, x30, x31, x32, rfl, rfl, pf⟩ := hI
        obtain ⟨p0, p1, p2, p3, p4, p5, p6, p7⟩ := pf
        have hk8 : k < 8 := (Array.getElem?_eq_some_iff.1 ho).1
        have hcases : k = 0 ∨ k = 1 ∨ k = 2 ∨ k = 3 ∨ k = 4 ∨ k = 5 ∨ k = 6 ∨ k = 7 := by omega
        rcases hcases with rfl | rfl | rfl | rfl | rfl | rfl | rfl | rfl
        · simp only [List.getElem?_toArray, List.getElem?_cons_zero, Option.some.injEq] at ho
          subst ho
          have HPF : Hid _ := And.intro p0 (And.intro p1 (And.intro p2 (And.intro p3 (And.intro p4 (And.intro p5 (And.intro p6 p7))))))
          clear p0 p1 p2 p3 p4 p5 p6 p7
          gi_wp2
          obtain ⟨p0, p1, p2, p3, p4, p5, p6, p7⟩ := HPF.out
          exact ⟨_, _, _, _, _, _, _, _, _, _, _, _, _, _, _, _, _, _, _, _, _, _, _, _, _, _, _, _, _, _, _, _, _, _, _, _, rfl, rfl, fun _ => rfl, p1, p2, p3, p4, p5, p6, p7⟩
        · simp only [List.getElem?_toArray, List.getElem?_cons_zero, List.getElem?_cons_succ, Option.some.injEq] at ho
          subst ho
          have HPF : Hid _ := And.intro p0 (And.intro p1 (And.intro p2 (And.intro p3 (And.intro p4 (And.intro p5 (And.intro p6 p7))))))
          clear p0 p1 p2 p3 p4 p5 p6 p7
          gi_wp2
          obtain ⟨p0, p1, p2, p3, p4, p5, p6, p7⟩ := HPF.out
          exact ⟨_, _, _, _, _, _, _, _, _, _, _, _, _, _, _, _, _, _, _, _, _, _, _, _, _, _, _, _, _, _, _, _, _, _, _, _, rfl, rfl, p0, fun _ => rfl, p2, p3, p4, p5, p6, p7⟩
        · simp only [List.getElem?_toArray, List.getElem?_cons_zero, List.getElem?_cons_succ, Option.some.injEq] at ho
          subst ho
          simp [Region.binds] at haf
          have hx26 := p1 haf
          subst x26
          have HPF : Hid _ := And.intro p0 (And.intro p1 (And.intro p2 (And.intro p3 (And.intro p4 (And.intro p5 (And.intro p6 p7))))))
          clear p0 p1 p2 p3 p4 p5 p6 p7
          gi_wp2
          obtain ⟨p0, p1, p2, p3, p4, p5, p6, p7⟩ := HPF.out
          exact ⟨_, _, _, _, _, _, _, _, _, _, _, _, _, _, _, _, _, _, _, _, _, _, _, _, _, _, _, _, _, _, _, _, _, _, _, _, rfl, rfl, p0, fun _ => rfl, fun _ => rfl, p3, p4, p5, p6, p7⟩
        · simp only [List.getElem?_toArray, List.getElem?_cons_zero, List.getElem?_cons_succ, Option.some.injEq] at ho
          subst ho
          simp [Region.binds] at haf
          have hx27 := p2 haf
          subst x27
          have HPF : Hid _ := And.intro p0 (And.intro p1 (And.intro p2 (And.intro p3 (And.intro p4 (And.intro p5 (And.intro p6 p7))))))
          clear p0 p1 p2 p3 p4 p5 p6 p7
          gi_wp2
          obtain ⟨p0, p1, p2, p3, p4, p5, p6, p7⟩ := HPF.out
          exact ⟨_, _, _, _, _, _, _, _, _, _, _, _, _, _, _, _, _, _, _, _, _, _, _, _, _, _, _, _, _, _, _, _, _, _, _, _, rfl, rfl, p0, p1, fun _ => rfl, fun _ => rfl, p4, p5, p6, p7⟩
        · simp only [List.getElem?_toArray, List.getElem?_cons_zero, List.getElem?_cons_succ, Option.some.injEq] at ho
          subst ho
          simp [Region.binds] at haf
          have hx25 := p0 haf.1
          subst x25
          have hx28 := p3 haf.2
          subst x28
          have HPF : Hid _ := And.intro p0 (And.intro p1 (And.intro p2 (And.intro p3 (And.intro p4 (And.intro p5 (And.intro p6 p7))))))
          clear p0 p1 p2 p3 p4 p5 p6 p7
          gi_wp2
          obtain ⟨p0, p1, p2, p3, p4, p5, p6, p7⟩ := HPF.out
          exact ⟨_, _, _, _, _, _, _, _, _, _, _, _, _, _, _, _, _, _, _, _, _, _, _, _, _, _, _, _, _, _, _, _, _, _, _, _, rfl, rfl, fun _ => rfl, p1, p2, fun _ => rfl, fun _ => rfl, p5, p6, p7⟩
        · simp only [List.getElem?_toArray, List.getElem?_cons_zero, List.getElem?_cons_succ, Option.some.injEq] at ho
          subst ho
          simp [Region.binds] at haf
          have hx29 := p4 haf
          subst x29
          have HPF : Hid _ := And.intro p0 (And.intro p1 (And.intro p2 (And.intro p3 (And.intro p4 (And.intro p5 (And.intro p6 p7))))))
          clear p0 p1 p2 p3 p4 p5 p6 p7
          gi_wp2
          obtain ⟨p0, p1, p2, p3, p4, p5, p6, p7⟩ := HPF.out
          exact ⟨_, _, _, _, _, _, _, _, _, _, _, _, _, _, _, _, _, _, _, _, _, _, _, _, _, _, _, _, _, _, _, _, _, _, _, _, rfl, rfl, p0, p1, p2, p3, fun _ => rfl, fun _ => rfl, p6, p7⟩
        · simp only [List.getElem?_toArray, List.getElem?_cons_zero, List.getElem?_cons_succ, Option.some.injEq] at ho
          subst ho
          have HPF : Hid _ := And.intro p0 (And.intro p1 (And.intro p2 (And.intro p3 (And.intro p4 (And.intro p5 (And.intro p6 p7))))))
          clear p0 p1 p2 p3 p4 p5 p6 p7
          gi_wp2
          obtain ⟨p0, p1, p2, p3, p4, p5, p6, p7⟩ := HPF.out
          exact ⟨_, _, _, _, _, _, _, _, _, _, _, _, _, _, _, _, _, _, _, _, _, _, _, _, _, _, _, _, _, _, _, _, _, _, _, _, rfl, rfl, p0, p1, p2, p3, p4, p5, fun _ => rfl, p7⟩
        · simp only [List.getElem?_toArray, List.getElem?_cons_zero, List.getElem?_cons_succ, Option.some.injEq] at ho
          subst ho
          simp [Region.binds] at haf
          have hx30 := p5 haf.1
          subst x30
          have hx31 := p6 haf.2
          subst x31
          have HPF : Hid _ := And.intro p0 (And.intro p1 (And.intro p2 (And.intro p3 (And.intro p4 (And.intro p5 (And.intro p6 p7))))))
          clear p0 p1 p2 p3 p4 p5 p6 p7
          gi_wp2
          obtain ⟨p0, p1, p2, p3, p4, p5, p6, p7⟩ := HPF.out
          exact ⟨_, _, _, _, _, _, _, _, _, _, _, _, _, _, _, _, _, _, _, _, _, _, _, _, _, _, _, _, _, _, _, _, _, _, _, _, rfl, rfl, p0, p1, p2, p3, p4, fun _ => rfl, fun _ => rfl, fun _ => rfl⟩
      case h6e =>
        intro l' a wr hI hall
        obtain ⟨y0, y1, y2, y3, y5, y6, y9, y10, y11, y12, y13, y14, y15, y16, y17, y18, y19, y20, y21, y22, y23, y24, y33, y34, y35, y36, y37, y38, x25, x26, x27, x28, x29, x30, x31, x32, rfl, rfl, pf⟩ := hI
        have hx32 := pf.2.2.2.2.2.2.2 (hall 7 (by simp))
        subst x32
        clear pf hall
        by_cases hzi : z = i
        · have hdz : decide (z = i) = true := by simpa using hzi
          have hbz : (z == i) = true := by simpa using hzi
          rw [hdz]
          gi_wp2
          refine wpIn_region_inv (by kernel_rfl) (by kernel_rfl) (I7 (w.heap.size + 1) w2.heap.size (.slice (some ⟨gc, off, none⟩) (q + 1) cu) ov us xss way q w.heap.size W.drew.drew) ?h70 ?h7s ?h7e
          case h70 => exact ⟨_, _, _, _, _, _, _, _, _, _, _, _, _, _, _, _, _, _, _, _, _, _, _, _, _, _, _, _, _, _, _, _, _, _, _, _, rfl, ⟨Nat.le_refl _, rfl, rfl, rfl⟩, fun _ => Below.refl _ _, by simp, fun _ => hBwH.out, by simp, by simp, by simp, by simp, by simp, by simp, by simp, by simp, by simp, by simp, by simp⟩
          case h7s =>
            intro l' k o a wr ho hI hli haf
            obtain ⟨y0, y1, y2, y3, y5, y6, y9, y10, y11, y12, y13, y14, y15, y16, y17, y18, y19, y20, y21, y22, y23, y24, y25, y26, y27, y28, y29, y30, y31, y32, y38, x33, x34, x35, x36, x37, rfl, pf⟩ := hI
            obtain ⟨g0, gB, gK, gW, e1, e2, e3, e4, e5, p0, p1, p2, p3, p4, p5⟩ := pf
            have hk6 : k < 6 := (Array.getElem?_eq_some_iff.1 ho).1
            have hcases : k = 0 ∨ k = 1 ∨ k = 2 ∨ k = 3 ∨ k = 4 ∨ k = 5 := by omega
            rcases hcases with rfl | rfl | rfl | rfl | rfl | rfl
            · simp only [List.getElem?_toArray, List.getElem?_cons_zero, Option.some.injEq] at ho
              subst ho
              have h4 : l' 4 = false := by
                cases h : l' 4 with
                | false => rfl
                | true => rw [e5 h] at hli; cases hli
              have h5 : l' 5 = false := by
                cases h : l' 5 with
                | false => rfl
                | true => rw [e1 h] at h4; cases h4
              obtain ⟨cw, fw⟩ := one_cell (gW h5)
              have HPF : Hid (B7 w2.heap.size (.slice (some ⟨gc, off, none⟩) (q + 1) cu) ov us xss way q w.heap.size W.drew.drew l' _ _ _ _ _ wr) := ⟨g0, gB, gK, gW, e1, e2, e3, e4, e5, p0, p1, p2, p3, p4, p5⟩
              clear gB gK gW e1 e2 e3 e4 e5 p0 p1 p2 p3 p4 p5
              gi_wp2
              obtain ⟨g0, gB, gK, gW, e1, e2, e3, e4, e5, p0, p1, p2, p3, p4, p5⟩ := HPF.out
              exact ⟨_, _, _, _, _, _, _, _, _, _, _, _, _, _, _, _, _, _, _, _, _, _, _, _, _, _, _, _, _, _, _, _, _, _, _, _, rfl, g0, gB, gK, gW, e1, e2, e3, e4, fun _ => rfl, fun _ => rfl, p1, p2, p3, p4, p5⟩
            · simp only [List.getElem?_toArray, List.getElem?_cons_zero, List.getElem?_cons_succ, Option.some.injEq] at ho
              subst ho
              have HPF : Hid (B7 w2.heap.size (.slice (some ⟨gc, off, none⟩) (q + 1) cu) ov us xss way q w.heap.size W.drew.drew l' _ _ _ _ _ wr) := ⟨g0, gB, gK, gW, e1, e2, e3, e4, e5, p0, p1, p2, p3, p4, p5⟩
              clear gB gK gW e1 e2 e3 e4 e5 p0 p1 p2 p3 p4 p5
              gi_wp2
              obtain ⟨g0, gB, gK, gW, e1, e2, e3, e4, e5, p0, p1, p2, p3, p4, p5⟩ := HPF.out
              exact ⟨_, _, _, _, _, _, _, _, _, _, _, _, _, _, _, _, _, _, _, _, _, _, _, _, _, _, _, _, _, _, _, _, _, _, _, _, rfl, g0, gB, gK, gW, e1, e2, e3, e4, e5, p0, fun _ => rfl, p2, p3, p4, p5⟩
            · simp only [List.getElem?_toArray, List.getElem?_cons_zero, List.getElem?_cons_succ, Option.some.injEq] at ho
              subst ho
              simp [Region.binds] at haf
              have hx34 := p1 haf
              subst x34
              have h4 : l' 4 = false := by
                cases h : l' 4 with
                | false => rfl
                | true => rw [e2 h] at hli; cases hli
              have h3 : l' 3 = false := by
                cases h : l' 3 with
                | false => rfl
                | true => rw [e4 h] at hli; cases hli
              have hb := gB h4
              have hcl := sliceClone way (.slice (some ⟨gc, off, none⟩) (q + 1) cu) wr (by omega) (by omega) (reads_below hrdD.out hb)
              rw [hwl] at hcl
              have HPF : Hid (B7 w2.heap.size (.slice (some ⟨gc, off, none⟩) (q + 1) cu) ov us xss way q w.heap.size W.drew.drew l' _ _ _ _ _ wr) := ⟨g0, gB, gK, gW, e1, e2, e3, e4, e5, p0, p1, p2, p3, p4, p5⟩
              clear gB gK gW e1 e2 e3 e4 e5 p0 p1 p2 p3 p4 p5
              gi_wp2
              refine ⟨trivial, ?_⟩
              refine ((callsIn_wide.2 hcl).inRound l).mono ?_
              rintro e w5 ⟨g1, c1, rfl, own5, b5⟩
              have hs5 := b5.size
              obtain ⟨g0, gB, gK, gW, e1, e2, e3, e4, e5, p0, p1, p2, p3, p4, p5⟩ := HPF.out
              have gW5 : ∀ h : l' 5 = false, w5.heap[w2.heap.size]? = some (.cells #[ov] 29 (0, 0)) := fun h => (b5.block w2.heap.size (Array.getElem?_eq_some_iff.1 (gW h)).1).trans (gW h)
              gi_wp2
              exact ⟨_, _, _, _, _, _, _, _, _, _, _, _, _, _, _, _, _, _, _, _, _, _, _, _, _, _, _, _, _, _, _, _, _, _, _, _, rfl, ⟨Nat.le_trans g0.1 hs5, b5.os.trans g0.2.1, b5.tape.trans g0.2.2.1, b5.output.trans g0.2.2.2⟩, fun h => hb.trans (b5.mono hb.size), (fun h => absurd (show l' 4 = true from h) (by rw [h4]; simp)), gW5, e1, fun _ => rfl, e3, fun _ => rfl, e5, p0, fun _ => rfl, (fun _ => ⟨g1, c1, rfl, by have := (own5.lt g1 rfl).1; have := g0.1; omega, fun _ => own_mono own5 (Nat.le_trans hWbase.out g0.1)⟩), (fun h => absurd (show l' 3 = true from h) (by rw [h3]; simp)), (fun h => absurd (show l' 4 = true from h) (by rw [h4]; simp)), (fun h => absurd (e1 h) (by rw [h4]; simp))⟩
            · simp only [List.getElem?_toArray, List.getElem?_cons_zero, List.getElem?_cons_succ, Option.some.injEq] at ho
              subst ho
              simp [Region.binds] at haf
              obtain ⟨g1, c1, hx35, hg1, hown1⟩ := p2 haf
              subst x35
              have h4 : l' 4 = false := by
                cases h : l' 4 with
                | false => rfl
                | true => rw [e3 h] at hli; cases hli
              have hown := hown1 h4
              have hb := gB h4
              have HPF : Hid (B7 w2.heap.size (.slice (some ⟨gc, off, none⟩) (q + 1) cu) ov us xss way q w.heap.size W.drew.drew l' _ _ _ _ _ wr) := ⟨g0, gB, gK, gW, e1, e2, e3, e4, e5, p0, p1, p2, p3, p4, p5⟩
              clear gB gK gW e1 e2 e3 e4 e5 p0 p1 p2 p3 p4 p5
              have B : Below wr.heap.size wr (wr.alloc (.cells #[.slice (some ⟨g1, 0, none⟩) (q + 1) c1] 31)) := by go_grown
              gi_wp2
              obtain ⟨g0, gB, gK, gW, e1, e2, e3, e4, e5, p0, p1, p2, p3, p4, p5⟩ := HPF.out
              exact ⟨_, _, _, _, _, _, _, _, _, _, _, _, _, _, _, _, _, _, _, _, _, _, _, _, _, _, _, _, _, _, _, _, _, _, _, _, rfl, ⟨Nat.le_trans g0.1 B.size, g0.2⟩, fun _ => hb.trans (B.mono hb.size), (fun h => absurd (show l' 4 = true from h) (by rw [h4]; simp)), (fun h => (B.block w2.heap.size (Array.getElem?_eq_some_iff.1 (gW h)).1).trans (gW h)), e1, e2, fun _ => rfl, fun _ => haf, e5, p0, p1, (fun _ => ⟨g1, c1, rfl, hg1, fun _ => hown.alloc _⟩), (fun _ => ⟨wr.heap.size, rfl, fun _ => heap_alloc_new wr _⟩), (fun h => absurd (show l' 4 = true from h) (by rw [h4]; simp)), (fun h => absurd (e1 h) (by rw [h4]; simp))⟩
            · simp only [List.getElem?_toArray, List.getElem?_cons_zero, List.getElem?_cons_succ, Option.some.injEq] at ho
              subst ho
              simp [Region.binds] at haf
              have hx33 := p0 haf.1
              obtain ⟨b, hx36, hb3⟩ := p3 haf.2.1
              have h2 := e4 haf.2.1
              obtain ⟨g1, c1, hx35, hg1, hown1⟩ := p2 h2
              subst x33 x36 x35
              have hown : Hid _ := hown1 hli
              have HB3 : Hid _ := hb3 hli
              have hb := gB hli
              have hOw := hOS.out.below hb
              have HOW : Hid _ := hOw
              have h5 : l' 5 = false := by
                cases h : l' 5 with
                | false => rfl
                | true => rw [e1 h] at hli; cases hli
              have HH : Hid (l' 0 = true ∧ l' 2 = true ∧ l' 3 = true ∧ l' 5 = false) := ⟨haf.1, h2, haf.2.1, h5⟩
              have HGW : Hid _ := gW h5
              have hsz : w.heap.size ≤ wr.heap.size := Nat.le_trans hWbase.out g0.1
              have hlz : xss.length + 1 ≤ maxLen := by have := hxl.out; unfold maxLen; omega
              have hlz2 : (xss.length + 1) * 24 ≤ 140737488355328 := by have := hxl.out; omega
              clear hown1 hb3 hOw h2 h5 haf
              have HPF : Hid (B7 w2.heap.size (.slice (some ⟨gc, off, none⟩) (q + 1) cu) ov us xss way q w.heap.size W.drew.drew l' _ _ _ _ _ wr) := ⟨g0, gB, gK, gW, e1, e2, e3, e4, e5, p0, p1, p2, p3, p4, p5⟩
              clear gB gK gW e1 e2 e3 e4 e5 p0 p1 p2 p3 p4 p5
              gi_wp2_with (first
                | (gi_at_builtin; refine wpListIn_append_lies _ rfl (.tmp 33) (.tmp 36) 29 rfl w.heap.size 31 i1 (.slice none 0 0) 1 24 Try.underlying29 hjS hy0 hy1 hy2 rfl (by decide) ov xss.length us rfl HOW.out.row ⟨b, 0, none⟩ 1 1 [.slice (some ⟨g1, 0, none⟩) (q + 1) c1] rfl rfl (World.news_of_block HB3.out) (fun u hu => by simp at hu; subst hu; rfl) (by omega) hlz hlz2 hsz ?_; intro g3 c3 w7 own7 grow7 hat7 hlt7; have HO7 : Hid _ := own7; have HG7 : Hid _ := grow7; have HAT7 : Hid _ := hat7; clear own7 grow7 hat7)
                | gi_in)
              have hs7 := HG7.out.size
              have hOA := HOW.out.appended (xs := way) (u := .slice (some ⟨g1, 0, none⟩) (q + 1) c1) (by rw [hwl]; exact hown.out) HO7.out HG7.out
              have hat8 : ov.ownBlock = some g3 ∨ W.drew.drew.heap.size ≤ g3 := by
                rcases HAT7.out with h | h
                · exact .inl h
                · exact .inr (by have := g0.1; omega)
              have hBne : ov.ownBlock ≠ some w2.heap.size := fun e => by
                obtain ⟨cur, hc⟩ := own_cells HOW.out.row e
                rw [HGW.out] at hc
                simp at hc
              obtain ⟨g0, gB, gK, gW, e1, e2, e3, e4, e5, p0, p1, p2, p3, p4, p5⟩ := HPF.out
              exact ⟨_, _, _, _, _, _, _, _, _, _, _, _, _, _, _, _, _, _, _, _, _, _, _, _, _, _, _, _, _, _, _, _, _, _, _, _, rfl, ⟨Nat.le_trans g0.1 hs7, HG7.out.os.trans g0.2.1, HG7.out.tape.trans g0.2.2.1, HG7.out.output.trans g0.2.2.2⟩, (fun h => by simp at h), (fun _ r hr _ hne => (HG7.out.block r (Nat.lt_of_lt_of_le hr g0.1) (fun e => hne e.symm)).trans (hb.block r hr)), (fun _ => (HG7.out.block w2.heap.size (Array.getElem?_eq_some_iff.1 HGW.out).1 (fun e => hBne e.symm)).trans HGW.out), fun _ => rfl, fun _ => HH.out.2.1, fun _ => HH.out.2.2.1, e4, fun _ => HH.out.1, (fun _ => rfl), p1, (fun _ => ⟨g1, c1, rfl, hg1, fun h => by simp at h⟩), (fun _ => ⟨b, rfl, fun h => by simp at h⟩), (fun _ => ⟨g1, c1, g3, c3, rfl, hOA, hg1, hat8⟩), (fun h => absurd (show l' 5 = true from h) (by rw [HH.out.2.2.2]; simp))⟩
            · simp only [List.getElem?_toArray, List.getElem?_cons_zero, List.getElem?_cons_succ, Option.some.injEq] at ho
              subst ho
              simp [Region.binds] at haf
              obtain ⟨g1, c1, g3, c3, hx37, hOA, hg1, hat⟩ := p4 haf.1
              subst x37
              have hGW := gW hli
              obtain ⟨cw, fw⟩ := one_cell hGW
              have HOA : Hid _ := hOA
              have HGW : Hid _ := hGW
              have HA : Hid _ := haf.1
              clear hOA hGW haf
              have HPF : Hid (B7 w2.heap.size (.slice (some ⟨gc, off, none⟩) (q + 1) cu) ov us xss way q w.heap.size W.drew.drew l' _ _ _ _ _ wr) := ⟨g0, gB, gK, gW, e1, e2, e3, e4, e5, p0, p1, p2, p3, p4, p5⟩
              clear gB gK gW e1 e2 e3 e4 e5 p0 p1 p2 p3 p4 p5
              gi_wp2
              have gs := grown_setCell8 wr w2.heap.size 0 (.slice (some ⟨g3, 0, none⟩) (xss.length + 1) c3)
              have hne : ∀ {e : TypeId} {vv : Value} {nn : Nat} {cs : List Value}, wr.ownsRow w.heap.size e 1 vv nn cs → e ≠ 29 → ∀ kk, vv.ownBlock = some kk → (wr.setCell ⟨w2.heap.size, 0, none⟩ (.slice (some ⟨g3, 0, none⟩) (xss.length + 1) c3)).heap[kk]? = wr.heap[kk]? := fun ho hee kk hk => gs.block kk (ho.lt kk hk).2 (fun e => by
                obtain ⟨cur, hc⟩ := own_cells ho hk
                simp at e
                rw [e, HGW.out] at hc
                simp at hc
                exact hee hc.2.symm)
              have hOB : OwnSS (wr.setCell ⟨w2.heap.size, 0, none⟩ (.slice (some ⟨g3, 0, none⟩) (xss.length + 1) c3)) w.heap.size (.slice (some ⟨g3, 0, none⟩) (xss.length + 1) c3) (us ++ [.slice (some ⟨g1, 0, none⟩) (q + 1) c1]) (xss ++ [way]) := HOA.out.same (hne HOA.out.row (by decide)) (fun uu huu => by
                obtain ⟨ys, _, ho⟩ := HOA.out.inner huu
                exact hne ho (by decide))
              have hset : (wr.setCell ⟨w2.heap.size, 0, none⟩ (.slice (some ⟨g3, 0, none⟩) (xss.length + 1) c3)).heap[w2.heap.size]? = some (.cells #[.slice (some ⟨g3, 0, none⟩) (xss.length + 1) c3] 29 (0, 0)) := by
                have := heap_setCell_same wr w2.heap.size 0 _ 29 (.slice (some ⟨g3, 0, none⟩) (xss.length + 1) c3) HGW.out
                simpa using this
              obtain ⟨g0, gB, gK, gW, e1, e2, e3, e4, e5, p0, p1, p2, p3, p4, p5⟩ := HPF.out
              exact ⟨_, _, _, _, _, _, _, _, _, _, _, _, _, _, _, _, _, _, _, _, _, _, _, _, _, _, _, _, _, _, _, _, _, _, _, _, rfl, ⟨Nat.le_trans g0.1 gs.size, g0.2⟩, (fun h => absurd (show l' 4 = false from h) (by rw [HA.out]; simp)), (fun h r hr hnb hne => (gs.block r (Nat.lt_of_lt_of_le hr g0.1) (by simp; omega)).trans (gK h r hr hnb hne)), (fun h => by simp at h), fun _ => HA.out, e2, e3, e4, e5, p0, p1, (fun h => by obtain ⟨a1, a2, a3, a4, a5⟩ := p2 h; exact ⟨a1, a2, a3, a4, fun h => absurd (show l' 4 = false from h) (by rw [HA.out]; simp)⟩), (fun h => by obtain ⟨a1, a2, a3⟩ := p3 h; exact ⟨a1, a2, fun h => absurd (show l' 4 = false from h) (by rw [HA.out]; simp)⟩), (fun _ => ⟨g1, c1, g3, c3, rfl, hOB, hg1, hat⟩), (fun _ => hset)⟩
          case h7e =>
            intro l' a wr hI hall
            obtain ⟨y0, y1, y2, y3, y5, y6, y9, y10, y11, y12, y13, y14, y15, y16, y17, y18, y19, y20, y21, y22, y23, y24, y25, y26, y27, y28, y29, y30, y31, y32, y38, x33, x34, x35, x36, x37, rfl, pf⟩ := hI
            obtain ⟨g0, gB, gK, gW, e1, e2, e3, e4, e5, p0, p1, p2, p3, p4, p5⟩ := pf
            obtain ⟨g1, c1, g3, c3, hx37, hOA, hg1, hat⟩ := p4 (hall 4 (by simp))
            have hset := p5 (hall 5 (by simp))
            have hkeep := gK (hall 4 (by simp))
            subst x37
            gi_wp2
            have hsz := g0.1
            have hovf : ∀ k, ov.ownBlock = some k → f k := HOF.out.1
            have husf : ∀ uu ∈ us, ∀ k, uu.ownBlock = some k → f k := HOF.out.2
            have hkeep' : ∀ r, r < W.heap.size → r ≠ w2.heap.size → ov.ownBlock ≠ some r → wr.heap[r]? = W.heap[r]? := hkeep
            have hovt : ∀ r o, W.heap[r]? = some o → o.isCells = false → r ≠ w2.heap.size ∧ ov.ownBlock ≠ some r := fun r o ho hc => ⟨fun e => by
                subst e
                rw [HBW.out] at ho
                simp at ho
                rw [← ho] at hc
                simp [Obj.isCells] at hc, fun e => by
                obtain ⟨cur, hcc⟩ := own_cells HOS.out.row e
                rw [hcc] at ho
                simp at ho
                rw [← ho] at hc
                simp [Obj.isCells] at hc⟩
            have hltG := hOA.row.lt g3 rfl
            have hltI := fun uu (huu : uu ∈ us ++ [Value.slice (some ⟨g1, 0, none⟩) (q + 1) c1]) kk hk => hOA.ltI huu (k := kk) hk
            have hsz' : W.heap.size ≤ wr.heap.size := hsz
            have hless : ∀ r, r < W.heap.size → (f r ∨ (W.heap.size ≤ r ∧ r < wr.heap.size)) → f r := by
              intro r hr h
              rcases h with h | h
              · exact h
              · omega
            have hltf : ∀ r, (f r ∨ (W.heap.size ≤ r ∧ r < wr.heap.size)) → r < wr.heap.size := by
              intro r h
              rcases h with h | h
              · have := hflt r h; omega
              · exact h.2
            refine ⟨⟨hsz', fun k o ho hc => (hkeep' k (Array.getElem?_eq_some_iff.1 ho).1 (hovt k o ho hc).1 (hovt k o ho hc).2).trans ho⟩, fun r => f r ∨ (W.heap.size ≤ r ∧ r < wr.heap.size), ⟨g0.2.1, g0.2.2.1, g0.2.2.2, hsz', fun r hr hnf => hkeep' r hr (fun e => hnf (e ▸ HF.out.1)) (fun e => hnf (hovf r e)), fun r h => .inl h, hless, hltf⟩, ⟨⟨_, us ++ [.slice (some ⟨g1, 0, none⟩) (q + 1) c1], hset, ?_, ?_, fun k hk => ?_, fun uu huu k hk => ?_⟩, ?_, .inl HF.out.1, .inl HF.out.2, ?_⟩⟩
            · rw [wfl_snoc, if_pos (show lastI way = i from HLAST.out.trans hzi), HXE.out]
              exact hOA
            · exact apart_more HAP.out (fun a ha k hk => (HOS.out.ltI ha hk).2) (fun k hk => by simp [Value.ownBlock] at hk; subst hk; exact hg1)
            · simp [Value.ownBlock] at hk
              subst hk
              rcases hat with h | h
              · exact .inl (hovf _ h)
              · exact .inr ⟨h, hltG.2⟩
            · rcases List.mem_append.1 huu with h | h
              · exact .inl (husf uu h k hk)
              · have h2 := hltI uu huu k hk
                simp at h
                subst h
                simp [Value.ownBlock] at hk
                subst hk
                exact .inr ⟨hg1, h2.2⟩
            · refine (hkeep' (w.heap.size + 1) (Array.getElem?_eq_some_iff.1 HBT.out).1 (by omega) (fun e => ?_)).trans HBT.out
              obtain ⟨cur, hcc⟩ := own_cells HOS.out.row e
              rw [HBT.out] at hcc
              simp at hcc
            · exact ⟨g0.2.1.trans HBL.out.os, g0.2.2.1.trans HBL.out.tape, g0.2.2.2.trans HBL.out.output, Nat.le_trans HBL.out.size hsz', fun r hr => (hkeep' r (Nat.lt_of_lt_of_le hr HBL.out.size) (by omega) (fun e => by have := (HOS.out.row.lt r e).1; omega)).trans (HBL.out.block r hr)⟩
        · have hdz : decide (z = i) = false := by simpa using hzi
          rw [hdz]
          gi_wp2
          have hbd : Below W.heap.size W W.drew := by go_grown
          refine ⟨KeepsOthers.drew W, f, ⟨rfl, rfl, rfl, Nat.le_refl _, fun _ _ _ => rfl, fun _ h => h, fun _ _ h => h, hflt⟩, ⟨⟨ov, us, HBW.out, ?_, HAP.out, HOF.out.1, HOF.out.2⟩, HBT.out, HF.out.1, HF.out.2, HBL.out.trans (hbd.mono HBL.out.size)⟩⟩
          rw [wfl_snoc, if_neg (by show ¬ lastI way = i; rw [HLAST.out]; exact hzi), List.append_nil, HXE.out]
          exact HOS.out.below hbd
  · have hans : waysAns ss i most = [] := by
      unfold waysAns
      rw [if_neg]
      intro h
      simp [inB] at h
      exact hgood ⟨h.1, h.2.1, h.2.2⟩
    rw [hans]
    have fin : ∀ W, Below W0.heap.size W0 W → ∃ u us, Ending.returned (.slice none 0 0) = .returned u ∧ OwnSS W w.heap.size u us [] ∧ ApartSS us ∧ Below w.heap.size w W := fun W hW => ⟨_, [], rfl, ⟨⟨rfl, .inl ⟨rfl, rfl⟩⟩, fun j u xs h => by simp at h⟩, fun a b x y k _ h => by simp at h, hb0.trans (hW.mono hb0.size)⟩
    have FIN : Hid _ := fin
    clear fin
    cases hh : hasS ss i
    · rw [hh] at he
      go_enter Try.func6, Try.ntmps6
      go_wp2_with (go_at_call 19; refine he.mono ?_; rintro e w2 ⟨rfl, b2⟩)
      go_ret
      exact FIN.out w2 b2
    · rw [hh] at he
      by_cases hm1 : most < 1
      · go_enter Try.func6, Try.ntmps6
        go_wp2_with (go_at_call 19; refine he.mono ?_; rintro e w2 ⟨rfl, b2⟩)
        go_ret
        exact FIN.out w2 b2
      · have hm9 : 9 < most := by
          rcases Int.lt_or_le 9 most with h | h
          · exact h
          · exact absurd ⟨hh, by omega, h⟩ hgood
        go_enter Try.func6, Try.ntmps6
        go_wp2_with (go_at_call 19; refine he.mono ?_; rintro e w2 ⟨rfl, b2⟩)
        go_ret
        exact FIN.out w2 b2

end Go.Proofs.Ytjlfmjoallnojab
