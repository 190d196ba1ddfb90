/-
  Chapter 17, the laws' helpers: szQueue, toQueue, eqQueue; a Queue that came in.
-/
import Derived.Test.YtceialfhonkceaaQueOk
import Derived.Test.YtceialfhonkceaaToLists
import Derived.Test.YtceialfhonkceaaOpenProc
import Derived.Deep.RegionHeld
namespace Go.Proofs.Ytceialfhonkceaa
open Go.ChangeShapes Go.WideShapes Go.ChangeAt Go.RowKit
set_option linter.unusedVariables false
set_option maxHeartbeats 4000000
set_option maxRecDepth 20000

theorem apartSS_nil : ApartSS [] := fun i j a b k _ h => by simp at h

theorem apartSS_snoc {us : List Value} {u : Value} {N : Nat} (h : ApartSS us) (ho : ∀ x ∈ us, ∀ k, x.ownBlock = some k → k < N) (hn : ∀ k, u.ownBlock = some k → N ≤ k) : ApartSS (us ++ [u]) := by
  intro i j a b k hij ha hb hka hkb
  by_cases hi : i < us.length
  · rw [List.getElem?_append_left hi] at ha
    by_cases hj : j < us.length
    · rw [List.getElem?_append_left hj] at hb
      exact h i j a b k hij ha hb hka hkb
    · have hj' : b = u := by
        rw [List.getElem?_append_right (by omega)] at hb
        have := (List.getElem?_eq_some_iff.1 hb).1
        simp at this
        have h0 : j - us.length = 0 := by omega
        rw [h0] at hb
        simpa using hb.symm
      subst hj'
      have := ho a (List.mem_of_getElem? ha) k hka
      have := hn k hkb
      omega
  · have hi' : a = u ∧ i = us.length := by
      rw [List.getElem?_append_right (by omega)] at ha
      have := (List.getElem?_eq_some_iff.1 ha).1
      simp at this
      have h0 : i - us.length = 0 := by omega
      rw [h0] at ha
      exact ⟨by simpa using ha.symm, by omega⟩
    obtain ⟨rfl, rfl⟩ := hi'
    by_cases hj : j < us.length
    · rw [List.getElem?_append_left hj] at hb
      have := ho b (List.mem_of_getElem? hb) k hkb
      have := hn k hka
      omega
    · rw [List.getElem?_append_right (by omega)] at hb
      have := (List.getElem?_eq_some_iff.1 hb).1
      simp at this
      omega

theorem szQueue (t : Int) (X : List (List Int)) (v : Value) (r0 : Int) (w : World) (h00 : 0 ≤ r0) (h01 : r0 ≤ 1048576) (hl : X.length ≤ maxLen) (hp : ∀ p ∈ X, p.length ≤ maxLen) (hv : ReadsSS w v X) :
    Calls Try.prog 8 #[.agg #[.int .i64 t, v], .int .i64 r0] w fun e w' => ∃ r : Int, e = .returned (.int .i64 r) ∧ (0 ≤ r → X.length ≤ 1048576 ∧ ∀ p ∈ X, p.length ≤ 1048576) ∧ Below w.heap.size w w' := by
  obtain ⟨W0, hW0⟩ : ∃ W0, w.alloc (.cells #[.int .i64 t, v] 24) = W0 := ⟨_, rfl⟩
  have hb0 : Below w.heap.size w W0 := by rw [← hW0]; go_grown
  have s0 : W0.heap.size = w.heap.size + 1 := by rw [← hW0]; simp
  have B0 : W0.heap[w.heap.size]? = some (.cells #[.int .i64 t, v] 24 (0, 0)) := by rw [← hW0]; exact heap_alloc_new w _
  obtain ⟨c0, c1, _, _⟩ := two_cellsQ B0
  have hs := szInt64SS X v r0 W0 h00 h01 hl hp (readsSS_below hv hb0)
  obtain ⟨ao, cap, rfl, hc⟩ := hv
  clear hc B0
  go_enter Try.func8, Try.ntmps8
  go_wp2_with fail
  go_at_call 23
  refine hs.mono ?_
  rintro e w1 ⟨r, rfl, hr, b1⟩
  have L1 : Below w.heap.size w w1 := hb0.trans (b1.mono (by omega))
  by_cases h : r < 0
  · have h' : decide (r < 0) = true := by simpa using h
    clear hr
    go_wp2
    go_ret
    exact ⟨-1, rfl, fun h => by omega, L1⟩
  · have h' : decide (r < 0) = false := by simpa using h
    have HR : Hid _ := hr
    clear hr
    go_wp2
    go_ret
    exact ⟨r, rfl, HR.out, L1⟩

/-- As toInt64SS, and the rows are apart. -/
theorem toInt64SSA (X : List (List Int)) (v : Value) (w : World) (hl : X.length ≤ 1048576) (hp : ∀ p ∈ X, p.length ≤ 1048576) (hv : ReadsSS w v X) :
    Calls Try.prog 25 #[v] w fun e w' => ∃ u us, e = .returned u ∧ OwnSS w' w.heap.size u us X ∧ ApartSS us ∧ Below w.heap.size w w' := by
  obtain ⟨i0, hi, hz0, hz1, hz2⟩ := info_parts infoSlice
  obtain ⟨ao, cap, rfl, hc⟩ := hv
  go_enter Try.func25, Try.ntmps25
  go_wp2_with (refine wpList_make_full _ rfl (.tmp 6) (.tmp 6) 22 rfl w.heap.size 42 i0 (.slice none 0 0) 1 Try.underlying22 hi hz0 hz1 .i64 .i64 _ _ X.length rfl rfl rfl rfl (by rw [hz2]; omega) (by unfold maxLen; omega) (Nat.le_refl _) ?_; intro w1 own1 grow1)
  have zl : (madeCells (Value.slice none 0 0).cells (X.length * 1)).toList.length = X.length := by simpa using own1.1
  generalize (madeCells (Value.slice none 0 0).cells (X.length * 1)).toList = zs at own1 zl
  have hb1 : Below w.heap.size w w1 := (Below.refl _ _).grown grow1 (Nat.le_refl _) (by simp)
  go_loopw [4] (fun i wr => ∃ (k : Nat) (us : List Value), k ≤ X.length ∧ us.length = k ∧ i = .int .i64 k ∧ wr.ownsRow w.heap.size 42 1 (.slice (some ⟨w.heap.size, 0, none⟩) X.length X.length) X.length (us ++ zs.drop k) ∧ Below w.heap.size w wr ∧ ApartSS us ∧
      ∀ (j : Nat) (u : Value) (p : List Int), us[j]? = some u → X[j]? = some p → wr.ownsRow w.heap.size 2 1 u p.length (ints p)) (fun i _ => X.length - (intOf i).toNat)
  case atStart => exact ⟨0, [], Nat.zero_le _, rfl, rfl, by simpa using own1, hb1, apartSS_nil, fun j u p h => by simp at h⟩
  case round =>
    obtain ⟨k, us, hk, hus, rfl, hown, hb, hap, hin⟩ := hrel
    by_cases hlt : k < X.length
    · have hpk : X[k]? = some X[k] := by simp [hlt]
      obtain ⟨g, off, u0, rfl, p0, r0⟩ := hc k X[k] hpk
      have pl := hp X[k] (List.getElem_mem hlt)
      have p0 := (hb.cell (World.block_lt_of_cell? w _ p0)).trans p0
      have r0 := reads_below r0 hb
      have hlt' : (k : Int) < (X.length : Int) := by omega
      have hset := set_snoc us zs
      have ht := toInt64S X[k] u0 wr pl r0
      have HOL : Hid (∀ x ∈ us, ∀ b, x.ownBlock = some b → b < wr.heap.size) := by
        show ∀ x ∈ us, ∀ b, x.ownBlock = some b → b < wr.heap.size
        intro x hx b hxb
        obtain ⟨j, hj⟩ := List.getElem?_of_mem hx
        have hj1 := (List.getElem?_eq_some_iff.1 hj).1
        have hj2 : j < X.length := by omega
        exact ((hin j x X[j] hj (by simp [hj2])).lt b hxb).2
      have HAP : Hid _ := hap
      clear hc r0 hap
      have HP : Hid _ := hpk
      clear hpk
      generalize X[k] = q at *
      go_wp2_with fail
      go_at_call 39
      refine ht.mono ?_
      rintro e w2 ⟨gu, rfl, ou, b2⟩
      have own2 := own_kept hown b2
      have hb2 := hb.trans (b2.mono hb.size)
      have f0 := own2.frozenAt k
      obtain ⟨y0, c0⟩ := own_cell own2 k (by omega)
      have hst := own2.stored k (.slice (some ⟨gu, 0, none⟩) q.length q.length)
      have hst1 := hst.1
      rw [hset _ k hus (by omega)] at hst1
      have HS : Hid ((w2.setCell ⟨w.heap.size, k, none⟩ (.slice (some ⟨gu, 0, none⟩) q.length q.length)).ownsRow w.heap.size 42 1 (.slice (some ⟨w.heap.size, 0, none⟩) X.length X.length) X.length ((us ++ [.slice (some ⟨gu, 0, none⟩) q.length q.length]) ++ zs.drop (k + 1))) := hst1
      have HAN : Hid (ApartSS (us ++ [Value.slice (some ⟨gu, 0, none⟩) q.length q.length])) := apartSS_snoc HAP.out HOL.out (fun b hb' => (ou.lt b hb').1)
      have hin2 : ∀ (j : Nat) (v : Value) (p : List Int), (us ++ [Value.slice (some ⟨gu, 0, none⟩) q.length q.length])[j]? = some v → X[j]? = some p → (w2.setCell ⟨w.heap.size, k, none⟩ (.slice (some ⟨gu, 0, none⟩) q.length q.length)).ownsRow w.heap.size 2 1 v p.length (ints p) := by
        intro j v p h1 h2
        have keep : w2.ownsRow w.heap.size 2 1 v p.length (ints p) → _ := fun ho => own_same (w' := w2.setCell ⟨w.heap.size, k, none⟩ (.slice (some ⟨gu, 0, none⟩) q.length q.length)) ho (fun x hx => hst.2.block x (ho.lt x hx).2 (fun e => row_kind ho own2 (by decide) hx e.symm))
        apply keep
        by_cases hj : j < us.length
        · rw [List.getElem?_append_left hj] at h1
          exact own_kept (hin j v p h1 h2) b2
        · have hj' : j = k := by
            have := (List.getElem?_eq_some_iff.1 h1).1
            simp at this
            omega
          subst hj'
          rw [HP.out] at h2
          simp [← hus] at h1
          obtain rfl := Option.some.inj h2
          subst h1
          exact own_mono ou (by have := hb.size; omega)
      have HI : Hid _ := hin2
      clear hst hst1 hset hin hin2 ht
      go_wp2
      go_roundw
      case rel => exact ⟨k + 1, us ++ [.slice (some ⟨gu, 0, none⟩) q.length q.length], by omega, by simp [hus], by go_num, HS.out, hb2.setCell (Nat.le_refl _) _, HAN.out, HI.out⟩
      case measure => simp [intOf]; omega
    · have hkk : k = X.length := by omega
      have HA : Hid _ := hap
      clear hap
      go_wp2
      go_ret
      rw [List.drop_of_length_le (by omega), List.append_nil] at hown
      exact ⟨_, us, rfl, ⟨hown, hin⟩, HA.out, hb⟩

theorem two_setQ {w : World} {b : Nat} {p q : Value} {t : TypeId} (h : w.heap[b]? = some (.cells #[p, q] t (0, 0))) (x y : Value) :
    ((w.setCell ⟨b, 0, none⟩ x).setCell ⟨b, 1, none⟩ y).heap[b]? = some (.cells #[x, y] t (0, 0)) := by
  have h1 := heap_setCell_same w b 0 _ t x h
  have h2 := heap_setCell_same _ b 1 _ t y h1
  simpa using h2

theorem OwnSS.set {w : World} {base b o : Nat} {x v : Value} {us : List Value} {X : List (List Int)} (h : OwnSS w base v us X) (hb : b < base) : OwnSS (w.setCell ⟨b, o, none⟩ x) base v us X :=
  h.same (fun k hk => Below.heap_setCell _ _ _ _ (by have := (h.row.lt k hk).1; simp; omega)) (fun u hu k hk => Below.heap_setCell _ _ _ _ (by have := (h.ltI hu hk).1; simp; omega))

theorem own_sliceQ {w : World} {base n : Nat} {e : TypeId} {s : Nat} {v : Value} {xs : List Value} (h : w.ownsRow base e s v n xs) : ∃ a m c, v = .slice a m c := by
  rcases h.2 with ⟨rfl, _⟩ | ⟨g, cap, cur, rfl, _⟩
  · exact ⟨_, _, _, rfl⟩
  · exact ⟨_, _, _, rfl⟩

theorem toQueue (t : Int) (X : List (List Int)) (v : Value) (w : World) (hl : X.length ≤ 1048576) (hp : ∀ p ∈ X, p.length ≤ 1048576) (hv : ReadsSS w v X) :
    Calls Try.prog 10 #[.agg #[.int .i64 t, v]] w fun e w' => ∃ u us, e = .returned (.agg #[.int .i64 t, u]) ∧ OwnSS w' w.heap.size u us X ∧ ApartSS us ∧ Below w.heap.size w w' := by
  obtain ⟨va, vm, vc, hvv⟩ : ∃ a m c, v = .slice a m c := by obtain ⟨a, c, e, _⟩ := hv; exact ⟨_, _, _, e⟩
  subst hvv
  go_enter Try.func10, Try.ntmps10
  go_wp2_with fail
  obtain ⟨W0, hW0⟩ : ∃ W0, ((w.alloc (.cells #[.int .i64 t, .slice va vm vc] 24)).alloc (.cells #[.int .i64 0, .slice none 0 0] 27)).alloc (.cells #[.int .i64 t, .slice none 0 0] 27) = W0 := ⟨_, rfl⟩
  have b0 : Below w.heap.size w W0 := by rw [← hW0]; go_grown
  have s0 : W0.heap.size = w.heap.size + 1 + 1 + 1 := by rw [← hW0]; simp
  have H1 : W0.heap[w.heap.size + 1]? = some (.cells #[.int .i64 0, .slice none 0 0] 27 (0, 0)) := by
    rw [← hW0, old_block (by simp)]
    have := heap_alloc_new (w.alloc (.cells #[.int .i64 t, .slice va vm vc] 24)) (.cells #[.int .i64 0, .slice none 0 0] 27)
    simpa using this
  have H2 : W0.heap[w.heap.size + 1 + 1]? = some (.cells #[.int .i64 t, .slice none 0 0] 27 (0, 0)) := by
    rw [← hW0]
    have := heap_alloc_new ((w.alloc (.cells #[.int .i64 t, .slice va vm vc] 24)).alloc (.cells #[.int .i64 0, .slice none 0 0] 27)) (.cells #[.int .i64 t, .slice none 0 0] 27)
    simpa using this
  rw [hW0]
  clear hW0
  refine (toInt64SSA X _ W0 hl hp (readsSS_below hv b0)).mono ?_
  rintro e w1 ⟨u, us, rfl, ou, ha, b1⟩
  have B1 : Below w.heap.size w w1 := b0.trans (b1.mono b0.size)
  have R1 := (b1.block _ (by omega)).trans H1
  have O1 := (b1.block _ (by omega)).trans H2
  obtain ⟨ua, um, uc, rfl⟩ := own_sliceQ ou.row
  have s1 := b1.size
  obtain ⟨o0, o1, g0, g1⟩ := two_cellsQ O1
  have O2 : (w1.setCell ⟨w.heap.size + 1 + 1, 1, none⟩ (.slice ua um uc)).heap[w.heap.size + 1 + 1]? = some (.cells #[.int .i64 t, .slice ua um uc] 27 (0, 0)) := by
    have := heap_setCell_same w1 (w.heap.size + 1 + 1) 1 _ _ (.slice ua um uc) O1
    simpa using this
  have R2 : (w1.setCell ⟨w.heap.size + 1 + 1, 1, none⟩ (.slice ua um uc)).heap[w.heap.size + 1]? = _ := (Below.heap_setCell _ _ _ _ (by simp)).trans R1
  have HB2 : Hid (Below w.heap.size w (w1.setCell ⟨w.heap.size + 1 + 1, 1, none⟩ (.slice ua um uc))) := B1.setCell (by simp; omega) _
  have HO2 : Hid (OwnSS (w1.setCell ⟨w.heap.size + 1 + 1, 1, none⟩ (.slice ua um uc)) W0.heap.size (.slice ua um uc) us X) := ou.set (by omega)
  obtain ⟨p0, p1, _, _⟩ := two_cellsQ O2
  obtain ⟨r0, r1, x0, x1⟩ := two_cellsQ R2
  have HR2 : Hid _ := R2
  have HA : Hid _ := ha
  clear ha
  clear R1 O1 O2 R2 H1 H2 b0 b1 B1 ou
  generalize hw2 : w1.setCell ⟨w.heap.size + 1 + 1, 1, none⟩ (.slice ua um uc) = w2 at *
  go_wp2
  have R3 := two_setQ HR2.out (.int .i64 t) (.slice ua um uc)
  obtain ⟨y0, y1, _, _⟩ := two_cellsQ R3
  refine bodyPost_ret (v := .agg #[.int .i64 t, .slice ua um uc]) (by simp [results, Try.results10, go_sem, y0, y1]) rfl ?_
  exact ⟨_, us, rfl, ((HO2.out.set (by omega)).set (by omega)).mono (by omega), HA.out, (HB2.out.setCell (by simp) _).setCell (by simp) _⟩

theorem eqQueue (t : Int) (X : List (List Int)) (v u : Value) (w : World) (hl : X.length ≤ maxLen) (hx : ∀ xs ∈ X, xs.length ≤ maxLen) (hv : ReadsSS w v X) (hu : ReadsSS w u X) :
    Calls Try.prog 12 #[.agg #[.int .i64 t, v], .agg #[.int .i64 t, u]] w fun e w' => e = .returned (.bool true) ∧ Below w.heap.size w w' := by
  obtain ⟨va, vm, vc, hvv⟩ : ∃ a m c, v = .slice a m c := by obtain ⟨a, c, e, _⟩ := hv; exact ⟨_, _, _, e⟩
  obtain ⟨ua, um, uc, huu⟩ : ∃ a m c, u = .slice a m c := by obtain ⟨a, c, e, _⟩ := hu; exact ⟨_, _, _, e⟩
  subst hvv
  subst huu
  obtain ⟨W0, hW0⟩ : ∃ W0, (w.alloc (.cells #[.int .i64 t, .slice va vm vc] 27)).alloc (.cells #[.int .i64 t, .slice ua um uc] 27) = W0 := ⟨_, rfl⟩
  have b0 : Below w.heap.size w W0 := by rw [← hW0]; go_grown
  have he := eqInt64SS X (.slice va vm vc) (.slice ua um uc) W0 hl hx (readsSS_below hv b0) (readsSS_below hu b0)
  have H1 : W0.heap[w.heap.size]? = some (.cells #[.int .i64 t, .slice va vm vc] 27 (0, 0)) := by
    rw [← hW0, old_block (by simp)]
    exact heap_alloc_new w _
  have H2 : W0.heap[w.heap.size + 1]? = some (.cells #[.int .i64 t, .slice ua um uc] 27 (0, 0)) := by
    rw [← hW0]
    have := heap_alloc_new (w.alloc (.cells #[.int .i64 t, .slice va vm vc] 27)) (.cells #[.int .i64 t, .slice ua um uc] 27)
    simpa using this
  obtain ⟨o0, o1, _, _⟩ := two_cellsQ H1
  obtain ⟨p0, p1, _, _⟩ := two_cellsQ H2
  clear hv hu H1 H2
  go_enter Try.func12, Try.ntmps12
  go_wp2_with fail
  go_at_call 29
  refine he.mono ?_
  rintro e w1 ⟨rfl, b1⟩
  go_wp2
  go_ret
  exact ⟨rfl, b0.trans (b1.mono b0.size)⟩

theorem cellsQueue : Try.prog.cellsOf 24 = 2 := by kernel_rfl
theorem cellsLines : Try.prog.cellsOf 22 = 1 := by kernel_rfl

/-- A Queue that came in. -/
theorem open_queue {H : Type} {enc : TypeId × Value → H} {W : World} {base : Nat} {held : Bool} {r : Reach} {b0 : Nat} {v0 : Value} {d : DataW H} {p : List MemPlace}
    (hv : Value.okWide Try.prog W r b0 24 v0) (h : DataW.Trod enc Try.prog W base (fun _ => true) held 24 v0 d p) :
    ∃ t v X, v0 = .agg #[.int .i64 t, v] ∧ ReadsSS W v X ∧ X.length ≤ maxLen ∧ ∀ p ∈ X, p.length ≤ maxLen := by
  obtain ⟨cs, rfl, hsz⟩ := okWide_struct Try.underlying24 hv
  rw [cellsQueue] at hsz
  obtain ⟨c0, c1, rfl⟩ : ∃ c0 c1, cs = #[c0, c1] := by
    obtain ⟨l⟩ := cs
    match l, hsz with
    | [c0, c1], _ => exact ⟨c0, c1, rfl⟩
  obtain ⟨fuel, hf⟩ := h
  obtain ⟨xs, n, _, _, _, hlen, hfs⟩ := DataW.trod_struct Try.underlying24 hf
  match xs, hlen with
  | [x0, x1], _ =>
    have t0 := hfs 0 _ rfl
    have t1 := hfs 1 _ rfl
    simp [Value.cells, cellsInt, cellsLines] at t0 t1
    obtain ⟨t, e0, _, _⟩ := DataW.trod_int Try.underlying2 t0
    obtain ⟨u, X, e1, hr, hl, hx⟩ := open_lists (e := 42) (ti := 2) Try.underlying22 Try.underlying42 (by kernel_rfl) Try.underlying2 cellsInt t1
    simp at e0 e1
    subst e0
    subst e1
    exact ⟨t, _, X, rfl, hr, hl, hx⟩

end Go.Proofs.Ytceialfhonkceaa
