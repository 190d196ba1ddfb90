/-
  Chapter 10, the program's side: tablesOf, canSum, listsOf.
-/
import Derived.Test.YtnjbihfceckpfaaImplFix4
import Derived.Test.YtnjbihfceckpfaaG43MarkSS
namespace Go.Proofs.Ytnjbihfceckpfaa
open Go.RowKit
set_option linter.unusedVariables false
set_option linter.unusedSimpArgs false
set_option maxHeartbeats 4000000
set_option maxRecDepth 20000

theorem tablesOf (ps : List (List Stm)) (c : Int) (v : Value) (w : World) (hc : c = 1 ∨ c = 2) (hp : CanP ps) (h4 : ps.length ≤ 4) (hv : ReadsP w v ps) :
    Calls Try.prog 53 #[.agg #[v], .int .i64 c] w fun e w' => ∃ R, e = .returned (tabR R) ∧ Rows7 4 R ∧ IsTables c ps R ∧ Below w.heap.size w w' := by
  have hz : ∀ w, (zeroValue 88).run Try.prog w = .ok (.agg (ints (List.replicate 4 zero7).flatten).toArray) w := isTab4.zero
  obtain ⟨zs, hzs⟩ : ∃ zs, ints (List.replicate 4 zero7).flatten = zs := ⟨_, rfl⟩
  rw [hzs] at hz
  obtain ⟨cl, hcl⟩ : ∃ cl, Value.func (.func 81) #[] #[.pointer (some ⟨w.heap.size, 0, none⟩), .pointer (some ⟨w.heap.size + 1, 0, none⟩)] = cl := ⟨_, rfl⟩
  obtain ⟨W, hW⟩ : ∃ W, (((w.alloc (.cells #[v] 30)).alloc (.cells #[.int .i64 c] 2)).alloc (.cells zs.toArray 88)).alloc (.cells #[cl] 135) = W := ⟨_, rfl⟩
  have a1 : (w.alloc (.cells #[v] 30)).heap.size = w.heap.size + 1 := by simp
  have a2 : ((w.alloc (.cells #[v] 30)).alloc (.cells #[.int .i64 c] 2)).heap.size = w.heap.size + 1 + 1 := by simp
  have a3 : (((w.alloc (.cells #[v] 30)).alloc (.cells #[.int .i64 c] 2)).alloc (.cells zs.toArray 88)).heap.size = w.heap.size + 1 + 1 + 1 := by simp
  have bW : Below w.heap.size w W := by rw [← hW]; go_grown
  have hP : W.heap[w.heap.size]? = some (.cells #[v] 30 (0, 0)) := by
    rw [← hW, old_block (by omega), old_block (by omega), old_block (by omega)]; exact heap_alloc_new w _
  have hC : W.heap[w.heap.size + 1]? = some (.cells #[.int .i64 c] 2 (0, 0)) := by
    rw [← hW, old_block (by omega), old_block (by omega)]
    have := heap_alloc_new (w.alloc (.cells #[v] 30)) (.cells #[.int .i64 c] 2)
    rwa [a1] at this
  have hZ : TabR W (w.heap.size + 1 + 1) 88 (List.replicate 4 zero7) := by
    unfold TabR
    rw [← hW, old_block (by omega), hzs]
    have := heap_alloc_new ((w.alloc (.cells #[v] 30)).alloc (.cells #[.int .i64 c] 2)) (.cells zs.toArray 88)
    rwa [a2] at this
  have hfix := fix4 ps c v w.heap.size (w.heap.size + 1) W hc hp h4 (readsP_below hv bW) hP hC
  have HW : Hid _ := hW
  have HCL : Hid _ := hcl
  have HZ : Hid (TabR W (w.heap.size + 1 + 1) 88 (List.replicate 4 zero7)) := hZ
  clear hW hcl hP hC hZ hzs a1 a2 a3
  go_enter Try.func53, Try.ntmps53
  go_wp2_with fail
  rw [← HCL.out] at HW
  rw [HW.out]
  go_at_call 83
  refine hfix.mono ?_
  rintro e w2 ⟨R, rfl, hRR, hI, b2⟩
  have HRR : Hid (Rows7 4 R) := hRR
  have HZ2 : Hid (TabR w2 (w.heap.size + 1 + 1) 88 (List.replicate 4 zero7)) := TabR.below HZ.out b2
  have HI : Hid _ := hI
  have L2 : Hid _ := bW.trans (b2.mono bW.size)
  clear hRR hI b2 hfix HW HCL
  go_wp2_with (first
    | ((with_reducible refine wpList_storeTabL (x := .tmp 4) (y := .tmp 9) isTab4 (w.heap.size + 1 + 1) (List.replicate 4 zero7) R ?hx ?hy (Rows7.zero 4) HRR.out HZ2.out ?_); (case hx => rfl); (case hy => rfl); intro w5 T5 g5; have HT5 : Hid (TabR w5 (w.heap.size + 1 + 1) 88 R) := T5; have G5 : Hid _ := g5; clear T5 g5; refine stop_of ?_))
  unfold Stop
  go_wp2
  refine bodyPost_tabR isTab4 rfl (w.heap.size + 1 + 1) R rfl HRR.out HT5.out rfl ⟨R, rfl, HRR.out, HI.out, ?_⟩
  exact L2.out.grown G5.out L2.out.size (fun k hk => by cases hk; omega)

/-- What listsOf has made: k lists, and room for n. -/
structure LO (w : World) (X : List (List Int)) (n k : Nat) (lv : Value) (vs : List Value) (wr : World) : Prop where
  row : wr.ownsRow w.heap.size 26 1 lv n (vs ++ List.replicate (n - k) (.slice none 0 0))
  len : vs.length = k
  each : ∀ j u, vs[j]? = some u → wr.ownsRow w.heap.size 2 1 u 7 (ints (X.getD j []))
  ap : ApartSS vs
  bl : Below w.heap.size w wr

theorem LO.below {w : World} {X : List (List Int)} {n k : Nat} {lv : Value} {vs : List Value} {wr wr' : World} (h : LO w X n k lv vs wr) (hb : Below wr.heap.size wr wr') : LO w X n k lv vs wr' :=
  ⟨own_kept h.row hb, h.len, fun j u hu => own_kept (h.each j u hu) hb, h.ap, h.bl.trans (hb.mono h.bl.size)⟩

theorem set_room (vs : List Value) (u z : Value) (m : Nat) (hm : 0 < m) : (vs ++ List.replicate m z).set vs.length u = (vs ++ [u]) ++ List.replicate (m - 1) z := by
  obtain ⟨m, rfl⟩ : ∃ q, m = q + 1 := ⟨m - 1, by omega⟩
  rw [List.replicate_succ, List.set_append_right _ _ (Nat.le_refl _)]
  simp

theorem LO.put {w : World} {X : List (List Int)} {n k g cap : Nat} {u : Value} {vs : List Value} {wr wa : World} (h : LO w X n k (.slice (some ⟨g, 0, none⟩) n cap) vs wr) (hk : k < n) (hb : Below wa.heap.size wa wr) (ha : LO w X n k (.slice (some ⟨g, 0, none⟩) n cap) vs wa)
    (hu : wr.ownsRow wa.heap.size 2 1 u 7 (ints (X.getD k []))) : LO w X n (k + 1) (.slice (some ⟨g, 0, none⟩) n cap) (vs ++ [u]) (wr.setCell ⟨g, k, none⟩ u) := by
  have hst := h.row.stored k u
  have hw : w.heap.size ≤ wa.heap.size := ha.bl.size
  have keep : ∀ (x : Value) (b : Nat) (ys : List Value), wr.ownsRow b 2 1 x 7 ys → (wr.setCell ⟨g, k, none⟩ u).ownsRow b 2 1 x 7 ys := fun x b ys ho =>
    own_same ho (fun q hq => hst.2.block q (ho.lt q hq).2 (fun e => row_kind ho h.row (by decide) hq e.symm))
  refine ⟨?_, by simp [h.len], fun j x hj => ?_, ?_, h.bl.grown hst.2 h.bl.size (fun q hq => by cases hq; exact (h.row.lt g rfl).1)⟩
  · have e := set_room vs u (.slice none 0 0) (n - k) (by omega)
    rw [h.len] at e
    have h1 := hst.1
    rw [e] at h1
    have e2 : n - k - 1 = n - (k + 1) := by omega
    rw [e2] at h1
    exact h1
  · by_cases hjl : j < vs.length
    · rw [List.getElem?_append_left hjl] at hj
      exact keep x _ _ (h.each j x hj)
    · rw [List.getElem?_append_right (by omega)] at hj
      have : j - vs.length = 0 := by
        have := (List.getElem?_eq_some_iff.1 hj).1
        simp at this; omega
      rw [this] at hj
      simp at hj
      subst hj
      have e : j = k := by have := h.len; omega
      rw [e]
      exact own_mono (keep u _ _ hu) hw
  · intro a b x y q hab hx hy hxq hyq
    have old : ∀ (m : Nat) (z : Value), m < vs.length → (vs ++ [u])[m]? = some z → vs[m]? = some z := fun m z hm hz => by rwa [List.getElem?_append_left hm] at hz
    have new : ∀ (m : Nat) (z : Value), ¬ m < vs.length → (vs ++ [u])[m]? = some z → z = u ∧ m = vs.length := fun m z hm hz => by
      rw [List.getElem?_append_right (by omega)] at hz
      have h0 : m - vs.length = 0 := by
        have := (List.getElem?_eq_some_iff.1 hz).1
        simp at this; omega
      rw [h0] at hz
      simp at hz
      exact ⟨hz.symm, by omega⟩
    by_cases h1 : a < vs.length
    · by_cases h2 : b < vs.length
      · exact h.ap a b x y q hab (old a x h1 hx) (old b y h2 hy) hxq hyq
      · obtain ⟨rfl, _⟩ := new b y h2 hy
        have := (hu.lt q hyq).1
        have := ((ha.each a x (old a x h1 hx)).lt q hxq).2
        omega
    · obtain ⟨rfl, e1⟩ := new a x h1 hx
      by_cases h2 : b < vs.length
      · have := (hu.lt q hxq).1
        have := ((ha.each b y (old b y h2 hy)).lt q hyq).2
        omega
      · obtain ⟨rfl, e2⟩ := new b y h2 hy
        omega

theorem LO.last {w : World} {X : List (List Int)} {n : Nat} {lv : Value} {vs : List Value} {wr : World} (h : LO w X n n lv vs wr) (hl : n ≤ X.length) (h7 : ∀ j, j < n → (X.getD j []).length = 7) : OwnSS wr w.heap.size lv vs (X.take n) := by
  have e : (X.take n).length = n := by simp; omega
  refine ⟨?_, fun j u xs hj hx => ?_⟩
  · rw [e]
    have := h.row
    simpa using this
  · have hjn : j < n := by have := (List.getElem?_eq_some_iff.1 hj).1; rw [h.len] at this; exact this
    have e2 : X.getD j [] = xs := by
      rw [List.getElem?_take, if_pos hjn] at hx
      rw [List.getD_eq_getElem?_getD, hx]; rfl
    have := h.each j u hj
    have h9 := h7 j hjn
    rw [e2] at this h9
    rw [h9]
    exact this

end Go.Proofs.Ytnjbihfceckpfaa
