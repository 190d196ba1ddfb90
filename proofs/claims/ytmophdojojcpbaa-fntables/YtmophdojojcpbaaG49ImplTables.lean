/-
  Put together out of: ImplTop, ImplTables.
-/
import Derived.Test.YtmophdojojcpbaaG48MarkSS
/-
  Chapter 10, the program's side: tablesOf, canSum, listsOf.
-/
namespace Go.Proofs.Ytmophdojojcpbaa
open Go.RowKit
set_option linter.unusedVariables false
set_option linter.unusedSimpArgs false
set_option maxHeartbeats 4000000
set_option maxRecDepth 20000

theorem tablesOf (ps : List (List Stm)) (c : Int) (v : Value) (w : World) (hc : c = 1 ∨ c = 2) (hp : CanP ps) (h4 : ps.length ≤ 4) (hv : ReadsP w v ps) :
    Calls Try.prog 37 #[.agg #[v], .int .i64 c] w fun e w' => ∃ R, e = .returned (tabR R) ∧ Rows7 4 R ∧ IsTables c ps R ∧ Below w.heap.size w w' := by
  have hz : ∀ w, (zeroValue 61).run Try.prog w = .ok (.agg (ints (List.replicate 4 zero7).flatten).toArray) w := isTab4.zero
  obtain ⟨zs, hzs⟩ : ∃ zs, ints (List.replicate 4 zero7).flatten = zs := ⟨_, rfl⟩
  rw [hzs] at hz
  obtain ⟨cl, hcl⟩ : ∃ cl, Value.func (.func 76) #[] #[.pointer (some ⟨w.heap.size, 0, none⟩), .pointer (some ⟨w.heap.size + 1, 0, none⟩)] = cl := ⟨_, rfl⟩
  obtain ⟨W, hW⟩ : ∃ W, (((w.alloc (.cells #[v] 26)).alloc (.cells #[.int .i64 c] 2)).alloc (.cells zs.toArray 61)).alloc (.cells #[cl] 102) = W := ⟨_, rfl⟩
  have a1 : (w.alloc (.cells #[v] 26)).heap.size = w.heap.size + 1 := by simp
  have a2 : ((w.alloc (.cells #[v] 26)).alloc (.cells #[.int .i64 c] 2)).heap.size = w.heap.size + 1 + 1 := by simp
  have a3 : (((w.alloc (.cells #[v] 26)).alloc (.cells #[.int .i64 c] 2)).alloc (.cells zs.toArray 61)).heap.size = w.heap.size + 1 + 1 + 1 := by simp
  have bW : Below w.heap.size w W := by rw [← hW]; go_grown
  have hP : W.heap[w.heap.size]? = some (.cells #[v] 26 (0, 0)) := by
    rw [← hW, old_block (by omega), old_block (by omega), old_block (by omega)]; exact heap_alloc_new w _
  have hC : W.heap[w.heap.size + 1]? = some (.cells #[.int .i64 c] 2 (0, 0)) := by
    rw [← hW, old_block (by omega), old_block (by omega)]
    have := heap_alloc_new (w.alloc (.cells #[v] 26)) (.cells #[.int .i64 c] 2)
    rwa [a1] at this
  have hZ : TabR W (w.heap.size + 1 + 1) 61 (List.replicate 4 zero7) := by
    unfold TabR
    rw [← hW, old_block (by omega), hzs]
    have := heap_alloc_new ((w.alloc (.cells #[v] 26)).alloc (.cells #[.int .i64 c] 2)) (.cells zs.toArray 61)
    rwa [a2] at this
  have hfix := fix4 ps c v w.heap.size (w.heap.size + 1) W hc hp h4 (readsP_below hv bW) hP hC
  have HW : Hid _ := hW
  have HCL : Hid _ := hcl
  have HZ : Hid (TabR W (w.heap.size + 1 + 1) 61 (List.replicate 4 zero7)) := hZ
  clear hW hcl hP hC hZ hzs a1 a2 a3
  go_enter Try.func37, Try.ntmps37
  go_wp2_with fail
  rw [← HCL.out] at HW
  rw [HW.out]
  go_at_call 77
  refine hfix.mono ?_
  rintro e w2 ⟨R, rfl, hRR, hI, b2⟩
  have HRR : Hid (Rows7 4 R) := hRR
  have HZ2 : Hid (TabR w2 (w.heap.size + 1 + 1) 61 (List.replicate 4 zero7)) := TabR.below HZ.out b2
  have HI : Hid _ := hI
  have L2 : Hid _ := bW.trans (b2.mono bW.size)
  clear hRR hI b2 hfix HW HCL
  go_wp2_with (first
    | ((with_reducible refine wpList_storeTabL (x := .tmp 4) (y := .tmp 9) isTab4 (w.heap.size + 1 + 1) (List.replicate 4 zero7) R ?hx ?hy (Rows7.zero 4) HRR.out HZ2.out ?_); (case hx => rfl); (case hy => rfl); intro w5 T5 g5; have HT5 : Hid (TabR w5 (w.heap.size + 1 + 1) 61 R) := T5; have G5 : Hid _ := g5; clear T5 g5; refine stop_of ?_))
  unfold Stop
  go_wp2
  refine bodyPost_tabR isTab4 rfl (w.heap.size + 1 + 1) R rfl HRR.out HT5.out rfl ⟨R, rfl, HRR.out, HI.out, ?_⟩
  exact L2.out.grown G5.out L2.out.size (fun k hk => by cases hk; omega)

/-- What listsOf has made: k lists, and room for n. -/
structure LO (w : World) (X : List (List Int)) (n k : Nat) (lv : Value) (vs : List Value) (wr : World) : Prop where
  row : wr.ownsRow w.heap.size 36 1 lv n (vs ++ List.replicate (n - k) (.slice none 0 0))
  len : vs.length = k
  each : ∀ j u, vs[j]? = some u → wr.ownsRow w.heap.size 2 1 u 7 (ints (X.getD j []))
  ap : ApartSS vs
  bl : Below w.heap.size w wr

theorem LO.below {w : World} {X : List (List Int)} {n k : Nat} {lv : Value} {vs : List Value} {wr wr' : World} (h : LO w X n k lv vs wr) (hb : Below wr.heap.size wr wr') : LO w X n k lv vs wr' :=
  ⟨own_kept h.row hb, h.len, fun j u hu => own_kept (h.each j u hu) hb, h.ap, h.bl.trans (hb.mono h.bl.size)⟩

theorem set_room (vs : List Value) (u z : Value) (m : Nat) (hm : 0 < m) : (vs ++ List.replicate m z).set vs.length u = (vs ++ [u]) ++ List.replicate (m - 1) z := by
  obtain ⟨m, rfl⟩ : ∃ q, m = q + 1 := ⟨m - 1, by omega⟩
  rw [List.replicate_succ, List.set_append_right _ _ (Nat.le_refl _)]
  simp

theorem LO.put {w : World} {X : List (List Int)} {n k g cap : Nat} {u : Value} {vs : List Value} {wr wa : World} (h : LO w X n k (.slice (some ⟨g, 0, none⟩) n cap) vs wr) (hk : k < n) (hb : Below wa.heap.size wa wr) (ha : LO w X n k (.slice (some ⟨g, 0, none⟩) n cap) vs wa)
    (hu : wr.ownsRow wa.heap.size 2 1 u 7 (ints (X.getD k []))) : LO w X n (k + 1) (.slice (some ⟨g, 0, none⟩) n cap) (vs ++ [u]) (wr.setCell ⟨g, k, none⟩ u) := by
  have hst := h.row.stored k u
  have hw : w.heap.size ≤ wa.heap.size := ha.bl.size
  have keep : ∀ (x : Value) (b : Nat) (ys : List Value), wr.ownsRow b 2 1 x 7 ys → (wr.setCell ⟨g, k, none⟩ u).ownsRow b 2 1 x 7 ys := fun x b ys ho =>
    own_same ho (fun q hq => hst.2.block q (ho.lt q hq).2 (fun e => row_kind ho h.row (by decide) hq e.symm))
  refine ⟨?_, by simp [h.len], fun j x hj => ?_, ?_, h.bl.grown hst.2 h.bl.size (fun q hq => by cases hq; exact (h.row.lt g rfl).1)⟩
  · have e := set_room vs u (.slice none 0 0) (n - k) (by omega)
    rw [h.len] at e
    have h1 := hst.1
    rw [e] at h1
    have e2 : n - k - 1 = n - (k + 1) := by omega
    rw [e2] at h1
    exact h1
  · by_cases hjl : j < vs.length
    · rw [List.getElem?_append_left hjl] at hj
      exact keep x _ _ (h.each j x hj)
    · rw [List.getElem?_append_right (by omega)] at hj
      have : j - vs.length = 0 := by
        have := (List.getElem?_eq_some_iff.1 hj).1
        simp at this; omega
      rw [this] at hj
      simp at hj
      subst hj
      have e : j = k := by have := h.len; omega
      rw [e]
      exact own_mono (keep u _ _ hu) hw
  · intro a b x y q hab hx hy hxq hyq
    have old : ∀ (m : Nat) (z : Value), m < vs.length → (vs ++ [u])[m]? = some z → vs[m]? = some z := fun m z hm hz => by rwa [List.getElem?_append_left hm] at hz
    have new : ∀ (m : Nat) (z : Value), ¬ m < vs.length → (vs ++ [u])[m]? = some z → z = u ∧ m = vs.length := fun m z hm hz => by
      rw [List.getElem?_append_right (by omega)] at hz
      have h0 : m - vs.length = 0 := by
        have := (List.getElem?_eq_some_iff.1 hz).1
        simp at this; omega
      rw [h0] at hz
      simp at hz
      exact ⟨hz.symm, by omega⟩
    by_cases h1 : a < vs.length
    · by_cases h2 : b < vs.length
      · exact h.ap a b x y q hab (old a x h1 hx) (old b y h2 hy) hxq hyq
      · obtain ⟨rfl, _⟩ := new b y h2 hy
        have := (hu.lt q hyq).1
        have := ((ha.each a x (old a x h1 hx)).lt q hxq).2
        omega
    · obtain ⟨rfl, e1⟩ := new a x h1 hx
      by_cases h2 : b < vs.length
      · have := (hu.lt q hxq).1
        have := ((ha.each b y (old b y h2 hy)).lt q hyq).2
        omega
      · obtain ⟨rfl, e2⟩ := new b y h2 hy
        omega

theorem LO.last {w : World} {X : List (List Int)} {n : Nat} {lv : Value} {vs : List Value} {wr : World} (h : LO w X n n lv vs wr) (hl : n ≤ X.length) (h7 : ∀ j, j < n → (X.getD j []).length = 7) : OwnSS wr w.heap.size lv vs (X.take n) := by
  have e : (X.take n).length = n := by simp; omega
  refine ⟨?_, fun j u xs hj hx => ?_⟩
  · rw [e]
    have := h.row
    simpa using this
  · have hjn : j < n := by have := (List.getElem?_eq_some_iff.1 hj).1; rw [h.len] at this; exact this
    have e2 : X.getD j [] = xs := by
      rw [List.getElem?_take, if_pos hjn] at hx
      rw [List.getD_eq_getElem?_getD, hx]; rfl
    have := h.each j u hj
    have h9 := h7 j hjn
    rw [e2] at this h9
    rw [h9]
    exact this

theorem listsOf (X : List (List Int)) (G off n cap : Nat) (w : World) (hn : 1 ≤ n) (hn12 : n ≤ 12) (hX : ∀ j, j < n → (X.getD j []).length = 7 ∧ w.rangeAt G (off + j * 7) (ints (X.getD j []))) (hl : n ≤ X.length) :
    Calls Try.prog 38 #[.slice (some ⟨G, off, none⟩) n cap] w fun e w' => ∃ u us, e = .returned u ∧ OwnSS w' w.heap.size u us (X.take n) ∧ ApartSS us ∧ Below w.heap.size w w' := by
  obtain ⟨i0, hi0, hz0, hz1, hz2⟩ := info_parts infoInt
  obtain ⟨i1, hj, hy0, hy1, hy2⟩ := info_parts infoSlice
  go_enter Try.func38, Try.ntmps38
  have hb8 : i1.bytes * n ≤ 281474976710656 := by rw [hy2]; omega
  have hmx : n ≤ maxLen := by unfold maxLen; omega
  go_wp2_with (at_make; refine wpList_make_full _ rfl _ _ 29 rfl w.heap.size 36 i1 (.slice none 0 0) 1 Try.underlying29 hj hy0 hy1 .i64 .i64 (n : Int) (n : Int) n rfl rfl rfl rfl hb8 hmx (Nat.le_refl _) ?_; intro w6 own6 grow6)
  have e6 : (madeCells (Value.slice none 0 0).cells (n * 1)).toList = List.replicate n (.slice none 0 0) := by
    have := toList_madeCells_one (.slice none 0 0) n
    rw [Nat.mul_one]
    exact this
  rw [e6] at own6
  have S0 : LO w X n 0 (.slice (some ⟨w.heap.size, 0, none⟩) n n) [] w6 := ⟨by simpa using own6, rfl, fun j u hu => by simp at hu, fun a b x y q _ hx => by simp at hx, (Below.refl _ _).grown grow6 (Nat.le_refl _) (by simp)⟩
  have hBX : Hid (∀ W, Below w.heap.size w W → ∀ j, j < n → (X.getD j []).length = 7 ∧ W.rangeAt G (off + j * 7) (ints (X.getD j []))) := fun W hW j hjn => ⟨(hX j hjn).1, range_below (hX j hjn).2 hW⟩
  clear own6 grow6 e6
  go_loopw [11] (fun kv wr => ∃ (k : Nat) (vs : List Value), k ≤ n ∧ kv = .int .i64 k ∧ LO w X n k (.slice (some ⟨w.heap.size, 0, none⟩) n n) vs wr) (fun kv _ => n - (intOf kv).toNat)
  case atStart => exact ⟨0, [], Nat.zero_le _, rfl, S0⟩
  case round =>
    obtain ⟨k, vs, hk, rfl, S⟩ := hrel
    clear S0
    have HS : Hid _ := S
    clear S
    by_cases hlt : k < n
    · have hlt' : (k : Int) < (n : Int) := by omega
      have hr := hBX.out wr HS.out.bl k hlt
      obtain ⟨r, hre⟩ : ∃ r, X.getD k [] = r := ⟨_, rfl⟩
      rw [hre] at hr
      have Hre : Hid (X.getD k [] = r) := hre
      have hr7 : Hid (r.length = 7) := hr.1
      have hrR : Hid (wr.rangeAt G (off + k * 7) (ints r)) := hr.2
      obtain ⟨w1, hw1⟩ : ∃ z, wr.alloc (.cells (ints (List.replicate 7 0)).toArray 59) = z := ⟨_, rfl⟩
      have R1 : RelAt w1 wr.heap.size (List.replicate 7 0) := by rw [← hw1]; exact heap_alloc_new wr _
      have B1 : Below wr.heap.size wr w1 := by rw [← hw1]; go_grown
      have HR1 : Hid (RelAt w1 wr.heap.size (List.replicate 7 0)) := R1
      have HW1 : Hid _ := hw1
      have HB1 : Hid _ := B1
      clear hr hre hw1 R1 B1 hX
      go_wp2_with (first
        | ((with_reducible refine wpList_loadRelL (x := .tmp 14) G (off + k * 7) r ?hx hr7.out hrR.out ?_); (case hx => rfl))
        | (rw [zeros7, HW1.out]; (with_reducible refine wpList_storeRelL (x := .tmp 5) (y := .tmp 15) wr.heap.size (List.replicate 7 0) r ?hx ?hy hr7.out ?hz HR1.out ?_); (case hx => rfl); (case hy => rfl); (case hz => rfl); intro w2 R2 g2; have HR2 : Hid (RelAt w2 wr.heap.size r) := R2; have HB2 : Hid (Below wr.heap.size wr w2) := HB1.out.grown g2 HB1.out.size (fun q hq => by cases hq; exact Nat.le_refl _); clear R2 g2; refine stop_of ?_))
      unfold Stop
      have S2 := HS.out.below HB2.out
      have hcl := sliceClone r (.slice (some ⟨wr.heap.size, 0, none⟩) 7 7) w2 (by rw [hr7.out]; omega) (by rw [hr7.out]; omega) (reads_own (HR2.out.own (Nat.le_refl _) hr7.out))
      rw [hr7.out] at hcl
      have HS2 : Hid _ := S2
      clear S2 HR1 HW1 HB1 hrR
      go_wp2_with fail
      go_at_call 78
      refine hcl.mono ?_
      rintro e w3 ⟨g3, c3, rfl, o3, b3⟩
      have S3 := HS2.out.below b3
      have hcell : ∃ u, w3.cell? ⟨w.heap.size, k, none⟩ = some u ∧ w3.frozen? ⟨w.heap.size, k, none⟩ = false := by
        refine ⟨_, (S3.row.cellAt k (by omega)).trans (List.getElem?_eq_getElem (by simp [S3.len]; omega)), S3.row.frozenAt k⟩
      obtain ⟨u0, cu, fu⟩ := hcell
      have HS4 : Hid _ := LO.put S3 hlt b3 HS2.out (by rw [Hre.out]; exact o3)
      clear S3 hcl o3 b3
      go_wp2
      go_roundw
      case rel => exact ⟨k + 1, _, by omega, by go_num, HS4.out⟩
      case measure => simp [intOf]; omega
    · have hkk : k = n := by omega
      subst hkk
      go_wp2
      go_ret
      exact ⟨_, vs, rfl, HS.out.last hl (fun j hjn => (hX j hjn).1), HS.out.ap, HS.out.bl⟩

end Go.Proofs.Ytmophdojojcpbaa

/-
  Chapter 10, the program's side: Tables, Inner, Effect.
-/
namespace Go.Proofs.Ytmophdojojcpbaa
open Go.RowKit
set_option linter.unusedVariables false
set_option linter.unusedSimpArgs false
set_option maxHeartbeats 4000000
set_option maxRecDepth 20000

theorem tab_rows {w : World} {G n m : Nat} {t : TypeId} {gs : List (List Int)} (h : TabR w G t gs) (hr : Rows7 n gs) (hm : m ≤ n) : ∀ j, j < m → (gs.getD j []).length = 7 ∧ w.rangeAt G (0 + j * 7) (ints (gs.getD j [])) := fun j hj =>
  ⟨hr.row (by omega), by rw [Nat.zero_add]; exact h.row hr (by omega)⟩

theorem take_tables {c : Int} {ps : List (List Stm)} {A R : List (List Int)} (hA : IsTables c ps A) (hR : IsTables c ps R) (hl : A.length = ps.length) (hr : Rows7 4 R) (h4 : ps.length ≤ 4) : R.take ps.length = A := by
  refine list_getD (by simp [hr.1, hl]; omega) (fun i hi => ?_)
  have hi' : i < ps.length := by simp at hi; omega
  rw [← hR.uniq hA hi', List.getD_eq_getElem?_getD, List.getElem?_take, if_pos hi', ← List.getD_eq_getElem?_getD]

theorem implTables (ps : List (List Stm)) (c : Int) (A : List (List Int)) (hA : TabA ps c A) (v : Value) (w : World) (hl : ps.length ≤ maxLen) (hp : ∀ p ∈ ps, p.length ≤ maxLen) (hv : ReadsP w v ps) :
    Calls Try.prog 9 #[.agg #[v], .int .i64 c] w fun e w' => ∃ u us, e = .returned u ∧ OwnSS w' w.heap.size u us A ∧ ApartSS us ∧ Below w.heap.size w w' := by
  have b0 : Below w.heap.size w (w.alloc (.cells #[v] 26)) := by go_grown
  have H0 := heap_alloc_new w (.cells #[v] 26)
  have hcs := canSum ps c v _ hl hp (readsP_below hv b0)
  cases hok : okB ps c
  · rw [hok] at hcs
    rw [hA.2 hok]
    go_enter Try.func9, Try.ntmps9
    go_wp2_with (go_at_call 36; refine hcs.mono ?_; rintro e w2 ⟨rfl, b2⟩)
    go_ret
    exact ⟨_, [], rfl, nilS _ _, fun i j a b k _ h => by simp at h, b0.trans (b2.mono b0.size)⟩
  · rw [hok] at hcs
    obtain ⟨hAl, hAT⟩ := hA.1 hok
    obtain ⟨hpo, hc, hcp, h4⟩ := okB_parts hok
    have h1 : 1 ≤ ps.length := by
      unfold programOk at hpo
      simp only [Bool.and_eq_true, decide_eq_true_eq] at hpo
      omega
    have hz : ∀ w, (zeroValue 61).run Try.prog w = .ok (.agg (ints (List.replicate 4 zero7).flatten).toArray) w := isTab4.zero
    obtain ⟨zs, hzs⟩ : ∃ zs, ints (List.replicate 4 zero7).flatten = zs := ⟨_, rfl⟩
    rw [hzs] at hz
    have HZS : Hid _ := hzs
    obtain ⟨ao, cap, rfl, hcell⟩ := id hv
    have h4' : (ps.length : Int) ≤ 4 := by omega
    clear hzs hcell
    go_enter Try.func9, Try.ntmps9
    go_wp2_with fail
    go_at_call 36
    refine hcs.mono ?_
    rintro e w2 ⟨rfl, b2⟩
    have L2 := b0.trans (b2.mono b0.size)
    have P2 := (b2.block w.heap.size (by simp)).trans H0
    obtain ⟨c2, f2⟩ := one_cell P2
    have HP2 : Hid (w2.heap[w.heap.size]? = some (.cells #[.slice ao ps.length cap] 26 (0, 0))) := P2
    have hto := tablesOf ps c (.slice ao ps.length cap) w2 hc hcp h4 (readsP_below hv L2)
    clear hcs H0 P2
    go_wp2_with fail
    go_at_call 37
    refine hto.mono ?_
    rintro e w3 ⟨R, rfl, hRR, hRI, b3⟩
    have L3 := L2.trans (b3.mono L2.size)
    have HRR : Hid (Rows7 4 R) := hRR
    have HRI : Hid _ := hRI
    have HP3 : Hid (w3.heap[w.heap.size]? = some (.cells #[.slice ao ps.length cap] 26 (0, 0))) := (b3.block _ (Array.getElem?_eq_some_iff.1 HP2.out).1).trans HP2.out
    obtain ⟨w4, hw4⟩ : ∃ z, w3.alloc (.cells zs.toArray 61) = z := ⟨_, rfl⟩
    have T4 : Hid (TabR w4 w3.heap.size 61 (List.replicate 4 zero7)) := by
      show TabR _ _ _ _
      rw [← hw4, ← HZS.out]; exact tabR_new w3 _ _
    have B4 : Below w3.heap.size w3 w4 := by rw [← hw4]; go_grown
    have HW4 : Hid _ := hw4
    have L4 : Hid _ := L3.trans (B4.mono L3.size)
    have HP4 : Hid (w4.heap[w.heap.size]? = some (.cells #[.slice ao ps.length cap] 26 (0, 0))) := (B4.block _ (Array.getElem?_eq_some_iff.1 HP3.out).1).trans HP3.out
    have z3 : w.heap.size < w3.heap.size := (Array.getElem?_eq_some_iff.1 HP3.out).1
    clear hto hRR hRI b3 hw4 B4 c2 f2 HP2 HP3
    go_wp2_with (first
      | (rw [HW4.out]; (with_reducible refine wpList_storeTabL (x := .tmp 5) (y := .tmp 12) isTab4 w3.heap.size (List.replicate 4 zero7) R ?hx ?hy (Rows7.zero 4) HRR.out T4.out ?_); (case hx => rfl); (case hy => rfl); intro w5 T5 g5; have HT5 : Hid (TabR w5 w3.heap.size 61 R) := T5; have G5 : Hid _ := g5; clear T5 g5; refine stop_of ?_))
    unfold Stop
    have P5 := (G5.out.block _ (Array.getElem?_eq_some_iff.1 HP4.out).1 (fun e => by have := Option.some.inj e; omega)).trans HP4.out
    obtain ⟨c5, f5⟩ := one_cell P5
    have L5 : Hid (Below w.heap.size w w5) := L4.out.grown G5.out L4.out.size (fun q hq => by cases hq; omega)
    have hlo := listsOf R w3.heap.size 0 ps.length 4 w5 h1 (by omega) (tab_rows HT5.out HRR.out h4) (by rw [HRR.out.1]; exact h4)
    have HAT : Hid _ := take_tables hAT HRI.out hAl HRR.out h4
    clear HP4 P5 G5 L4 T4 HW4 hz
    go_wp2_with fail

    go_at_call 38
    refine hlo.mono ?_
    rintro e w6 ⟨u, us, rfl, o6, a6, b6⟩
    rw [HAT.out] at o6
    have HO6 : Hid _ := o6
    clear hlo o6
    go_wp2
    go_ret
    exact ⟨u, us, rfl, HO6.out.mono L5.out.size, a6, L5.out.trans (b6.mono L5.out.size)⟩

end Go.Proofs.Ytmophdojojcpbaa
