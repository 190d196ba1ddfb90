/-
 Put together out of: ImplTop, ImplTables, ImplReach9, LikePl, OpenCode.
-/
import Derived.Test.YtldagpfeaabcdaaGreatDoorG49MarkSS
import Derived.Test.YtldagpfeaabcdaaGreatDoorReach9M
import Derived.Laws.EntriesVeiled
import Derived.Test.YtldagpfeaabcdaaGreatDoorG40Alike14
import Derived.BigRegion
import Derived.WalkLawsBesides
namespace Go.Proofs.YtldagpfeaabcdaaGreatDoor
open Go.RowKit
set_option linter.unusedVariables false
set_option linter.unusedSimpArgs false
set_option maxHeartbeats 4000000
set_option maxRecDepth 20000
theorem tablesOf (ps : List (List Stm)) (c : Int) (v : Value) (w : World) (hc : c = 1 ∨ c = 2) (hp : CanP ps) (h4 : ps.length ≤ 4) (hv : jb5 w v ps) :
 Calls Tryz.prog 38 #[.agg #[v], .int .i64 c] w fun e w' => ∃ R, e = .returned (tabR R) ∧ Rows7 4 R ∧ IsTables c ps R ∧ Below w.heap.size w w' := by
 have hz : ∀ w, (zeroValue 69).run Tryz.prog w = .ok (.agg (ints (List.replicate 4 zero7).flatten).toArray) w := isTab4.zero
 obtain ⟨zs, hzs⟩ : ∃ zs, ints (List.replicate 4 zero7).flatten = zs := ⟨_, rfl⟩
 rw [hzs] at hz
 obtain ⟨cl, hcl⟩ : ∃ cl, Value.func (.func 66) #[] #[.pointer (some ⟨w.heap.size, 0, none⟩), .pointer (some ⟨w.heap.size + 1, 0, none⟩)] = cl := ⟨_, rfl⟩
 obtain ⟨W, hW⟩ : ∃ W, (((w.alloc (.cells #[v] 26)).alloc (.cells #[.int .i64 c] 2)).alloc (.cells zs.toArray 69)).alloc (.cells #[cl] 107) = W := ⟨_, rfl⟩
 have a1 : (w.alloc (.cells #[v] 26)).heap.size = w.heap.size + 1 := by simp
 have a2 : ((w.alloc (.cells #[v] 26)).alloc (.cells #[.int .i64 c] 2)).heap.size = w.heap.size + 1 + 1 := by simp
 have a3 : (((w.alloc (.cells #[v] 26)).alloc (.cells #[.int .i64 c] 2)).alloc (.cells zs.toArray 69)).heap.size = w.heap.size + 1 + 1 + 1 := by simp
 have bW : Below w.heap.size w W := by rw [← hW]; go_grown
 have hP : W.heap[w.heap.size]? = some (.cells #[v] 26 (0, 0)) := by
  rw [← hW, ja2 (by omega), ja2 (by omega), ja2 (by omega)]; exact heap_alloc_new w _
 have hC : W.heap[w.heap.size + 1]? = some (.cells #[.int .i64 c] 2 (0, 0)) := by
  rw [← hW, ja2 (by omega), ja2 (by omega)]
  have := heap_alloc_new (w.alloc (.cells #[v] 26)) (.cells #[.int .i64 c] 2)
  rwa [a1] at this
 have hZ : TabR W (w.heap.size + 1 + 1) 69 (List.replicate 4 zero7) := by
  unfold TabR
  rw [← hW, ja2 (by omega), hzs]
  have := heap_alloc_new ((w.alloc (.cells #[v] 26)).alloc (.cells #[.int .i64 c] 2)) (.cells zs.toArray 69)
  rwa [a2] at this
 have hfix := fix4 ps c v w.heap.size (w.heap.size + 1) W hc hp h4 (ja0 hv bW) hP hC
 have HW : Hid _ := hW
 have HCL : Hid _ := hcl
 have HZ : Hid (TabR W (w.heap.size + 1 + 1) 69 (List.replicate 4 zero7)) := hZ
 clear hW hcl hP hC hZ hzs a1 a2 a3
 go_enter Tryz.func38, Tryz.ntmps38
 go_wp2_with fail
 rw [← HCL.out] at HW
 rw [HW.out]
 go_at_call 68
 refine hfix.mono ?_
 rintro e w2 ⟨R, rfl, hRR, hI, b2⟩
 have HRR : Hid (Rows7 4 R) := hRR
 have HZ2 : Hid (TabR w2 (w.heap.size + 1 + 1) 69 (List.replicate 4 zero7)) := TabR.below HZ.out b2
 have HI : Hid _ := hI
 have L2 : Hid _ := bW.trans (b2.mono bW.size)
 clear hRR hI b2 hfix HW HCL
 go_wp2_with (first
  | ((with_reducible refine jd3 (x := .tmp 4) (y := .tmp 9) isTab4 (w.heap.size + 1 + 1) (List.replicate 4 zero7) R ?hx ?hy (Rows7.zero 4) HRR.out HZ2.out ?_); (case hx => rfl); (case hy => rfl); intro w5 T5 g5; have HT5 : Hid (TabR w5 (w.heap.size + 1 + 1) 69 R) := T5; have G5 : Hid _ := g5; clear T5 g5; refine jl5 ?_))
 unfold Stop
 go_wp2
 refine jh5 isTab4 rfl (w.heap.size + 1 + 1) R rfl HRR.out HT5.out rfl ⟨R, rfl, HRR.out, HI.out, ?_⟩
 exact L2.out.grown G5.out L2.out.size (fun k hk => by cases hk; omega)
structure LO (w : World) (X : List (List Int)) (n k : Nat) (lv : Value) (vs : List Value) (wr : World) : Prop where
 row : wr.ownsRow w.heap.size 38 1 lv n (vs ++ List.replicate (n - k) (.slice none 0 0))
 len : vs.length = k
 each : ∀ j u, vs[j]? = some u → wr.ownsRow w.heap.size 2 1 u 7 (ints (X.getD j []))
 ap : ApartSS vs
 bl : Below w.heap.size w wr
theorem LO.below {w : World} {X : List (List Int)} {n k : Nat} {lv : Value} {vs : List Value} {wr wr' : World} (h : LO w X n k lv vs wr) (hb : Below wr.heap.size wr wr') : LO w X n k lv vs wr' :=
 ⟨jc0 h.row hb, h.len, fun j u hu => jc0 (h.each j u hu) hb, h.ap, h.bl.trans (hb.mono h.bl.size)⟩
theorem set_room (vs : List Value) (u z : Value) (m : Nat) (hm : 0 < m) : (vs ++ List.replicate m z).set vs.length u = (vs ++ [u]) ++ List.replicate (m - 1) z := by
 obtain ⟨m, rfl⟩ : ∃ q, m = q + 1 := ⟨m - 1, by omega⟩
 rw [List.replicate_succ, List.set_append_right _ _ (Nat.le_refl _)]
 simp
theorem LO.put {w : World} {X : List (List Int)} {n k g cap : Nat} {u : Value} {vs : List Value} {wr wa : World} (h : LO w X n k (.slice (some ⟨g, 0, none⟩) n cap) vs wr) (hk : k < n) (hb : Below wa.heap.size wa wr) (ha : LO w X n k (.slice (some ⟨g, 0, none⟩) n cap) vs wa)
 (hu : wr.ownsRow wa.heap.size 2 1 u 7 (ints (X.getD k []))) : LO w X n (k + 1) (.slice (some ⟨g, 0, none⟩) n cap) (vs ++ [u]) (wr.setCell ⟨g, k, none⟩ u) := by
 have hst := h.row.stored k u
 have hw : w.heap.size ≤ wa.heap.size := ha.bl.size
 have keep : ∀ (x : Value) (b : Nat) (ys : List Value), wr.ownsRow b 2 1 x 7 ys → (wr.setCell ⟨g, k, none⟩ u).ownsRow b 2 1 x 7 ys := fun x b ys ho =>
  qa8 ho (fun q hq => hst.2.block q (ho.lt q hq).2 (fun e => row_kind ho h.row (by decide) hq e.symm))
 refine ⟨?_, by simp [h.len], fun j x hj => ?_, ?_, h.bl.grown hst.2 h.bl.size (fun q hq => by cases hq; exact (h.row.lt g rfl).1)⟩
 · have e := set_room vs u (.slice none 0 0) (n - k) (by omega)
   rw [h.len] at e
   have h1 := hst.1
   rw [e] at h1
   have e2 : n - k - 1 = n - (k + 1) := by omega
   rw [e2] at h1
   exact h1
 · by_cases hjl : j < vs.length
   · rw [List.getElem?_append_left hjl] at hj
     exact keep x _ _ (h.each j x hj)
   · rw [List.getElem?_append_right (by omega)] at hj
     have : j - vs.length = 0 := by
      have := (List.getElem?_eq_some_iff.1 hj).1
      simp at this; omega
     rw [this] at hj
     simp at hj
     subst hj
     have e : j = k := by have := h.len; omega
     rw [e]
     exact jc4 (keep u _ _ hu) hw
 · intro a b x y q hab hx hy hxq hyq
   have old : ∀ (m : Nat) (z : Value), m < vs.length → (vs ++ [u])[m]? = some z → vs[m]? = some z := fun m z hm hz => by rwa [List.getElem?_append_left hm] at hz
   have new : ∀ (m : Nat) (z : Value), ¬ m < vs.length → (vs ++ [u])[m]? = some z → z = u ∧ m = vs.length := fun m z hm hz => by
    rw [List.getElem?_append_right (by omega)] at hz
    have h0 : m - vs.length = 0 := by
     have := (List.getElem?_eq_some_iff.1 hz).1
     simp at this; omega
    rw [h0] at hz
    simp at hz
    exact ⟨hz.symm, by omega⟩
   by_cases h1 : a < vs.length
   · by_cases h2 : b < vs.length
     · exact h.ap a b x y q hab (old a x h1 hx) (old b y h2 hy) hxq hyq
     · obtain ⟨rfl, _⟩ := new b y h2 hy
       have := (hu.lt q hyq).1
       have := ((ha.each a x (old a x h1 hx)).lt q hxq).2
       omega
   · obtain ⟨rfl, e1⟩ := new a x h1 hx
     by_cases h2 : b < vs.length
     · have := (hu.lt q hxq).1
       have := ((ha.each b y (old b y h2 hy)).lt q hyq).2
       omega
     · obtain ⟨rfl, e2⟩ := new b y h2 hy
       omega
theorem LO.last {w : World} {X : List (List Int)} {n : Nat} {lv : Value} {vs : List Value} {wr : World} (h : LO w X n n lv vs wr) (hl : n ≤ X.length) (h7 : ∀ j, j < n → (X.getD j []).length = 7) : OwnSS wr w.heap.size lv vs (X.take n) := by
 have e : (X.take n).length = n := by simp; omega
 refine ⟨?_, fun j u xs hj hx => ?_⟩
 · rw [e]
   have := h.row
   simpa using this
 · have hjn : j < n := by have := (List.getElem?_eq_some_iff.1 hj).1; rw [h.len] at this; exact this
   have e2 : X.getD j [] = xs := by
    rw [List.getElem?_take, if_pos hjn] at hx
    rw [List.getD_eq_getElem?_getD, hx]; rfl
   have := h.each j u hj
   have h9 := h7 j hjn
   rw [e2] at this h9
   rw [h9]
   exact this
theorem listsOf (X : List (List Int)) (G off n cap : Nat) (w : World) (hn : 1 ≤ n) (hn12 : n ≤ 12) (hX : ∀ j, j < n → (X.getD j []).length = 7 ∧ w.rangeAt G (off + j * 7) (ints (X.getD j []))) (hl : n ≤ X.length) :
 Calls Tryz.prog 39 #[.slice (some ⟨G, off, none⟩) n cap] w fun e w' => ∃ u us, e = .returned u ∧ OwnSS w' w.heap.size u us (X.take n) ∧ ApartSS us ∧ Below w.heap.size w w' := by
 obtain ⟨i0, hi0, hz0, hz1, hz2⟩ := info_parts jy6
 obtain ⟨i1, hj, hy0, hy1, hy2⟩ := info_parts infoSlice
 go_enter Tryz.func39, Tryz.ntmps39
 have hb8 : i1.bytes * n ≤ 281474976710656 := by rw [hy2]; omega
 have hmx : n ≤ maxLen := by unfold maxLen; omega
 go_wp2_with (at_make; refine wpList_make_full _ rfl _ _ 39 rfl w.heap.size 38 i1 (.slice none 0 0) 1 Tryz.underlying39 hj hy0 hy1 .i64 .i64 (n : Int) (n : Int) n rfl rfl rfl rfl hb8 hmx (Nat.le_refl _) ?_; intro w6 own6 grow6)
 have e6 : (madeCells (Value.slice none 0 0).cells (n * 1)).toList = List.replicate n (.slice none 0 0) := by
  have := toList_madeCells_one (.slice none 0 0) n
  rw [Nat.mul_one]
  exact this
 rw [e6] at own6
 have S0 : LO w X n 0 (.slice (some ⟨w.heap.size, 0, none⟩) n n) [] w6 := ⟨by simpa using own6, rfl, fun j u hu => by simp at hu, fun a b x y q _ hx => by simp at hx, (Below.refl _ _).grown grow6 (Nat.le_refl _) (by simp)⟩
 have hBX : Hid (∀ W, Below w.heap.size w W → ∀ j, j < n → (X.getD j []).length = 7 ∧ W.rangeAt G (off + j * 7) (ints (X.getD j []))) := fun W hW j hjn => ⟨(hX j hjn).1, jt4 (hX j hjn).2 hW⟩
 clear own6 grow6 e6
 go_loopw [11] (fun kv wr => ∃ (k : Nat) (vs : List Value), k ≤ n ∧ kv = .int .i64 k ∧ LO w X n k (.slice (some ⟨w.heap.size, 0, none⟩) n n) vs wr) (fun kv _ => n - (intOf kv).toNat)
 case atStart => exact ⟨0, [], Nat.zero_le _, rfl, S0⟩
 case round =>
  obtain ⟨k, vs, hk, rfl, S⟩ := hrel
  clear S0
  have HS : Hid _ := S
  clear S
  by_cases hlt : k < n
  · have hlt' : (k : Int) < (n : Int) := by omega
    have hr := hBX.out wr HS.out.bl k hlt
    obtain ⟨r, hre⟩ : ∃ r, X.getD k [] = r := ⟨_, rfl⟩
    rw [hre] at hr
    have Hre : Hid (X.getD k [] = r) := hre
    have hr7 : Hid (r.length = 7) := hr.1
    have hrR : Hid (wr.rangeAt G (off + k * 7) (ints r)) := hr.2
    obtain ⟨w1, hw1⟩ : ∃ z, wr.alloc (.cells (ints (List.replicate 7 0)).toArray 67) = z := ⟨_, rfl⟩
    have R1 : RelAt w1 wr.heap.size (List.replicate 7 0) := by rw [← hw1]; exact heap_alloc_new wr _
    have B1 : Below wr.heap.size wr w1 := by rw [← hw1]; go_grown
    have HR1 : Hid (RelAt w1 wr.heap.size (List.replicate 7 0)) := R1
    have HW1 : Hid _ := hw1
    have HB1 : Hid _ := B1
    clear hr hre hw1 R1 B1 hX
    go_wp2_with (first
     | ((with_reducible refine qb8 (x := .tmp 14) G (off + k * 7) r ?hx hr7.out hrR.out ?_); (case hx => rfl))
     | (rw [jn3, HW1.out]; (with_reducible refine qa2 (x := .tmp 5) (y := .tmp 15) wr.heap.size (List.replicate 7 0) r ?hx ?hy hr7.out ?hz HR1.out ?_); (case hx => rfl); (case hy => rfl); (case hz => rfl); intro w2 R2 g2; have HR2 : Hid (RelAt w2 wr.heap.size r) := R2; have HB2 : Hid (Below wr.heap.size wr w2) := HB1.out.grown g2 HB1.out.size (fun q hq => by cases hq; exact Nat.le_refl _); clear R2 g2; refine jl5 ?_))
    unfold Stop
    have S2 := HS.out.below HB2.out
    have hcl := sliceClone r (.slice (some ⟨wr.heap.size, 0, none⟩) 7 7) w2 (by rw [hr7.out]; omega) (by rw [hr7.out]; omega) (jc5 (HR2.out.own (Nat.le_refl _) hr7.out))
    rw [hr7.out] at hcl
    have HS2 : Hid _ := S2
    clear S2 HR1 HW1 HB1 hrR
    go_wp2_with fail
    go_at_call 69
    refine hcl.mono ?_
    rintro e w3 ⟨g3, c3, rfl, o3, b3⟩
    have S3 := HS2.out.below b3
    have hcell : ∃ u, w3.cell? ⟨w.heap.size, k, none⟩ = some u ∧ w3.frozen? ⟨w.heap.size, k, none⟩ = false := by
     refine ⟨_, (S3.row.cellAt k (by omega)).trans (List.getElem?_eq_getElem (by simp [S3.len]; omega)), S3.row.frozenAt k⟩
    obtain ⟨u0, cu, fu⟩ := hcell
    have HS4 : Hid _ := LO.put S3 hlt b3 HS2.out (by rw [Hre.out]; exact o3)
    clear S3 hcl o3 b3
    go_wp2
    go_roundw
    case rel => exact ⟨k + 1, _, by omega, by go_num, HS4.out⟩
    case measure => simp [intOf]; omega
  · have hkk : k = n := by omega
    subst hkk
    go_wp2
    go_ret
    exact ⟨_, vs, rfl, HS.out.last hl (fun j hjn => (hX j hjn).1), HS.out.ap, HS.out.bl⟩
end Go.Proofs.YtldagpfeaabcdaaGreatDoor
namespace Go.Proofs.YtldagpfeaabcdaaGreatDoor
open Go.RowKit
set_option linter.unusedVariables false
set_option linter.unusedSimpArgs false
set_option maxHeartbeats 4000000
set_option maxRecDepth 20000
theorem tab_rows {w : World} {G n m : Nat} {t : TypeId} {gs : List (List Int)} (h : TabR w G t gs) (hr : Rows7 n gs) (hm : m ≤ n) : ∀ j, j < m → (gs.getD j []).length = 7 ∧ w.rangeAt G (0 + j * 7) (ints (gs.getD j [])) := fun j hj =>
 ⟨hr.row (by omega), by rw [Nat.zero_add]; exact h.row hr (by omega)⟩
theorem take_tables {c : Int} {ps : List (List Stm)} {A R : List (List Int)} (hA : IsTables c ps A) (hR : IsTables c ps R) (hl : A.length = ps.length) (hr : Rows7 4 R) (h4 : ps.length ≤ 4) : R.take ps.length = A := by
 refine list_getD (by simp [hr.1, hl]; omega) (fun i hi => ?_)
 have hi' : i < ps.length := by simp at hi; omega
 rw [← hR.uniq hA hi', List.getD_eq_getElem?_getD, List.getElem?_take, if_pos hi', ← List.getD_eq_getElem?_getD]
theorem jn1 (ps : List (List Stm)) (c : Int) (A : List (List Int)) (hA : TabA ps c A) (v : Value) (w : World) (hl : ps.length ≤ maxLen) (hp : ∀ p ∈ ps, p.length ≤ maxLen) (hv : jb5 w v ps) :
 Calls Tryz.prog 16 #[.agg #[v], .int .i64 c] w fun e w' => ∃ u us, e = .returned u ∧ OwnSS w' w.heap.size u us A ∧ ApartSS us ∧ Below w.heap.size w w' := by
 have b0 : Below w.heap.size w (w.alloc (.cells #[v] 26)) := by go_grown
 have H0 := heap_alloc_new w (.cells #[v] 26)
 have hcs := canSum ps c v _ hl hp (ja0 hv b0)
 cases hok : okB ps c
 · rw [hok] at hcs
   rw [hA.2 hok]
   go_enter Tryz.func16, Tryz.ntmps16
   go_wp2_with (go_at_call 37; refine hcs.mono ?_; rintro e w2 ⟨rfl, b2⟩)
   go_ret
   exact ⟨_, [], rfl, nilS _ _, fun i j a b k _ h => by simp at h, b0.trans (b2.mono b0.size)⟩
 · rw [hok] at hcs
   obtain ⟨hAl, hAT⟩ := hA.1 hok
   obtain ⟨hpo, hc, hcp, h4⟩ := okB_parts hok
   have h1 : 1 ≤ ps.length := by
    unfold ja5 at hpo
    simp only [Bool.and_eq_true, decide_eq_true_eq] at hpo
    omega
   have hz : ∀ w, (zeroValue 69).run Tryz.prog w = .ok (.agg (ints (List.replicate 4 zero7).flatten).toArray) w := isTab4.zero
   obtain ⟨zs, hzs⟩ : ∃ zs, ints (List.replicate 4 zero7).flatten = zs := ⟨_, rfl⟩
   rw [hzs] at hz
   have HZS : Hid _ := hzs
   obtain ⟨ao, cap, rfl, hcell⟩ := id hv
   have h4' : (ps.length : Int) ≤ 4 := by omega
   clear hzs hcell
   go_enter Tryz.func16, Tryz.ntmps16
   go_wp2_with fail
   go_at_call 37
   refine hcs.mono ?_
   rintro e w2 ⟨rfl, b2⟩
   have L2 := b0.trans (b2.mono b0.size)
   have P2 := (b2.block w.heap.size (by simp)).trans H0
   obtain ⟨c2, f2⟩ := ja4 P2
   have HP2 : Hid (w2.heap[w.heap.size]? = some (.cells #[.slice ao ps.length cap] 26 (0, 0))) := P2
   have hto := tablesOf ps c (.slice ao ps.length cap) w2 hc hcp h4 (ja0 hv L2)
   clear hcs H0 P2
   go_wp2_with fail
   go_at_call 38
   refine hto.mono ?_
   rintro e w3 ⟨R, rfl, hRR, hRI, b3⟩
   have L3 := L2.trans (b3.mono L2.size)
   have HRR : Hid (Rows7 4 R) := hRR
   have HRI : Hid _ := hRI
   have HP3 : Hid (w3.heap[w.heap.size]? = some (.cells #[.slice ao ps.length cap] 26 (0, 0))) := (b3.block _ (Array.getElem?_eq_some_iff.1 HP2.out).1).trans HP2.out
   obtain ⟨w4, hw4⟩ : ∃ z, w3.alloc (.cells zs.toArray 69) = z := ⟨_, rfl⟩
   have T4 : Hid (TabR w4 w3.heap.size 69 (List.replicate 4 zero7)) := by
    show TabR _ _ _ _
    rw [← hw4, ← HZS.out]; exact qa6 w3 _ _
   have B4 : Below w3.heap.size w3 w4 := by rw [← hw4]; go_grown
   have HW4 : Hid _ := hw4
   have L4 : Hid _ := L3.trans (B4.mono L3.size)
   have HP4 : Hid (w4.heap[w.heap.size]? = some (.cells #[.slice ao ps.length cap] 26 (0, 0))) := (B4.block _ (Array.getElem?_eq_some_iff.1 HP3.out).1).trans HP3.out
   have z3 : w.heap.size < w3.heap.size := (Array.getElem?_eq_some_iff.1 HP3.out).1
   clear hto hRR hRI b3 hw4 B4 c2 f2 HP2 HP3
   go_wp2_with (first
    | (rw [HW4.out]; (with_reducible refine jd3 (x := .tmp 5) (y := .tmp 12) isTab4 w3.heap.size (List.replicate 4 zero7) R ?hx ?hy (Rows7.zero 4) HRR.out T4.out ?_); (case hx => rfl); (case hy => rfl); intro w5 T5 g5; have HT5 : Hid (TabR w5 w3.heap.size 69 R) := T5; have G5 : Hid _ := g5; clear T5 g5; refine jl5 ?_))
   unfold Stop
   have P5 := (G5.out.block _ (Array.getElem?_eq_some_iff.1 HP4.out).1 (fun e => by have := Option.some.inj e; omega)).trans HP4.out
   obtain ⟨c5, f5⟩ := ja4 P5
   have L5 : Hid (Below w.heap.size w w5) := L4.out.grown G5.out L4.out.size (fun q hq => by cases hq; omega)
   have hlo := listsOf R w3.heap.size 0 ps.length 4 w5 h1 (by omega) (tab_rows HT5.out HRR.out h4) (by rw [HRR.out.1]; exact h4)
   have HAT : Hid _ := take_tables hAT HRI.out hAl HRR.out h4
   clear HP4 P5 G5 L4 T4 HW4 hz
   go_wp2_with fail
   go_at_call 39
   refine hlo.mono ?_
   rintro e w6 ⟨u, us, rfl, o6, a6, b6⟩
   rw [HAT.out] at o6
   have HO6 : Hid _ := o6
   clear hlo o6
   go_wp2
   go_ret
   exact ⟨u, us, rfl, HO6.out.mono L5.out.size, a6, L5.out.trans (b6.mono L5.out.size)⟩
end Go.Proofs.YtldagpfeaabcdaaGreatDoor
namespace Go.Proofs.YtldagpfeaabcdaaGreatDoor
open Go.RowKit
set_option linter.unusedVariables false
set_option maxHeartbeats 4000000
set_option maxRecDepth 20000
def BAt (W : World) (R : Nat) (f : Nat → Bool) : Prop := W.heap[R]? = some (.cells #[.bool (f 0), .bool (f 1), .bool (f 2), .bool (f 3)] 75 (0, 0))
theorem BAt.cell {W : World} {R : Nat} {f : Nat → Bool} (h : BAt W R f) {i : Nat} (hi : i < 4) : W.cell? ⟨R, i, none⟩ = some (.bool (f i)) ∧ W.frozen? ⟨R, i, none⟩ = false := by
 obtain ⟨c0, c1, c2, c3, f0, f1, f2, f3⟩ := jk3 h
 have : i = 0 ∨ i = 1 ∨ i = 2 ∨ i = 3 := by omega
 rcases this with rfl | rfl | rfl | rfl
 · exact ⟨c0, f0⟩
 · exact ⟨c1, f1⟩
 · exact ⟨c2, f2⟩
 · exact ⟨c3, f3⟩
theorem BAt.set {W : World} {R : Nat} {f : Nat → Bool} (h : BAt W R f) {i : Nat} (hi : i < 4) : BAt (W.setCell ⟨R, i, none⟩ (.bool true)) R (upd f i) := by
 have := heap_setCell_same W R i _ 75 (.bool true) h
 have hc : i = 0 ∨ i = 1 ∨ i = 2 ∨ i = 3 := by omega
 unfold BAt
 rcases hc with rfl | rfl | rfl | rfl <;> simpa [upd] using this
structure RSt (ps : List (List Stm)) (v : Value) (w : World) (R P K : Nat) (f : Nat → Bool) (W : World) : Prop where
 set : BAt W R f
 box : W.heap[P]? = some (.cells #[v] 26 (0, 0))
 fn : W.heap[K]? = some (.cells #[.func (.func 43) #[] #[.pointer (some ⟨R, 0, none⟩), .pointer (some ⟨P, 0, none⟩), .pointer (some ⟨K, 0, none⟩)]] 76 (0, 0))
 below : Below w.heap.size w W
 r : w.heap.size ≤ R
 p : w.heap.size ≤ P
 k : w.heap.size ≤ K
 rp : R ≠ P
 rk : R ≠ K
theorem RSt.kept {ps : List (List Stm)} {v : Value} {w : World} {R P K : Nat} {f : Nat → Bool} {W W' : World} (h : RSt ps v w R P K f W) (hb : Below W.heap.size W W') : RSt ps v w R P K f W' :=
 ⟨(hb.block R (Array.getElem?_eq_some_iff.1 h.set).1).trans h.set, (hb.block P (Array.getElem?_eq_some_iff.1 h.box).1).trans h.box, (hb.block K (Array.getElem?_eq_some_iff.1 h.fn).1).trans h.fn,
  h.below.trans (hb.mono h.below.size), h.r, h.p, h.k, h.rp, h.rk⟩
theorem comeTo (ps : List (List Stm)) (v : Value) (w : World) (R P K : Nat) (hok : ja5 ps = true) (hl : ps.length ≤ maxLen) (hp : ∀ p ∈ ps, p.length ≤ maxLen) (hv : jb5 w v ps) :
 ∀ (m : Nat) (f : Nat → Bool) (i : Nat) (W : World), unr f ≤ m → i < ps.length → RSt ps v w R P K f W →
 Calls Tryz.prog 43 #[.int .i64 (i : Int), .pointer (some ⟨R, 0, none⟩), .pointer (some ⟨P, 0, none⟩), .pointer (some ⟨K, 0, none⟩)] W fun e W' =>
  (∃ u, e = .returned u) ∧ ∃ f', DR (jq4 ps) i f f' ∧ f' i = true ∧ RSt ps v w R P K f' W' ∧ W.grownBy W' (some R) := by
 intro m
 induction m with
 | zero =>
  intro f i W hm hil hS
  obtain ⟨h4, _, _⟩ := jc1 hok
  have hfi : f i = true := by
   unfold unr at hm
   have : i = 0 ∨ i = 1 ∨ i = 2 ∨ i = 3 := by omega
   rcases this with rfl | rfl | rfl | rfl
   · cases h : f 0 <;> simp [h] at hm ⊢
   · cases h : f 1 <;> simp [h] at hm ⊢
   · cases h : f 2 <;> simp [h] at hm ⊢
   · cases h : f 3 <;> simp [h] at hm ⊢
  obtain ⟨c0, f0⟩ := hS.set.cell (i := i) (by omega)
  rw [hfi] at c0
  have hi4 : (i : Int) < 4 := by omega
  go_enter Tryz.func43, Tryz.ntmps43
  go_wp2
  go_returns
  exact ⟨⟨_, rfl⟩, f, DR.refl, hfi, hS, World.grownBy.refl _ _⟩
 | succ m ih =>
  intro f i W hm hil hS
  obtain ⟨h4, _, _⟩ := jc1 hok
  have hi4 : (i : Int) < 4 := by omega
  obtain ⟨c0, f0⟩ := hS.set.cell (i := i) (by omega)
  cases hfi : f i
  case true =>
   rw [hfi] at c0
   go_enter Tryz.func43, Tryz.ntmps43
   go_wp2
   go_returns
   exact ⟨⟨_, rfl⟩, f, DR.refl, hfi, hS, World.grownBy.refl _ _⟩
  rw [hfi] at c0
  have hun := unr_upd (by omega : i < 4) hfi
  have hcl := hS.below.size
  obtain ⟨W1, hW1⟩ : ∃ W1, W.setCell ⟨R, i, none⟩ (.bool true) = W1 := ⟨_, rfl⟩
  have hgr : W.grownBy W1 (some R) := by rw [← hW1]; exact qe6 W R i _
  have hR1 : R < W.heap.size := (Array.getElem?_eq_some_iff.1 hS.set).1
  have hP1 : P < W.heap.size := (Array.getElem?_eq_some_iff.1 hS.box).1
  have hK1 : K < W.heap.size := (Array.getElem?_eq_some_iff.1 hS.fn).1
  have S1 : RSt ps v w R P K (upd f i) W1 := ⟨by rw [← hW1]; exact hS.set.set (by omega), (hgr.block P hP1 (fun e => hS.rp (by simpa using e.symm))).trans hS.box, (hgr.block K hK1 (fun e => hS.rk (by simpa using e.symm))).trans hS.fn,
   hS.below.grown hgr hS.below.size (fun k e => by cases e; exact hS.r), hS.r, hS.p, hS.k, hS.rp, hS.rk⟩
  have z1 : W.heap.size ≤ W1.heap.size := hgr.size
  obtain ⟨cP, _⟩ := ja4 S1.box
  rw [← hW1] at cP
  have hca := implCalls ps (i : Int) v W1 hl hp (ja0 hv S1.below)
  rw [qe9 hok hil] at hca
  have hgl := (jw7 hok).len i
  have hgi := (jw7 hok).inn i hil
  have HW : Hid _ := hW1
  have HS1 : Hid (RSt ps v w R P K (upd f i) W1) := S1
  have HGR : Hid (W.grownBy W1 (some R)) := hgr
  clear hW1 hS hgr S1
  go_enter Tryz.func43, Tryz.ntmps43
  go_wp2_with fail
  rw [HW.out]
  go_at_call 44
  refine hca.mono ?_
  rintro e w2 ⟨u, rfl, ou, b2⟩
  clear hca
  have S2 : RSt ps v w R P K (upd f i) w2 := HS1.out.kept b2
  have z2 := b2.size
  have G2 : Hid (W.grownBy w2 (some R)) := ja8 HGR.out (jb3 b2 _)
  obtain ⟨uo, uc, hu⟩ : ∃ a cp, u = .slice a (jq4 ps i).length cp := by
   rcases ou.2 with ⟨e, e2⟩ | ⟨g, cap, cur, e, _⟩
   · exact ⟨none, 0, by rw [e, e2]⟩
   · exact ⟨_, _, e⟩
  have rd := jc5 ou
  have hul : ∀ k, u.ownBlock = some k → W1.heap.size ≤ k ∧ k < w2.heap.size := fun k hk => ou.lt k hk
  obtain ⟨C, hC⟩ : ∃ C, jq4 ps i = C := ⟨_, rfl⟩
  rw [hC] at hgl hgi rd ou hu
  have HC : Hid _ := hC
  subst hu
  have hRlt : R < W1.heap.size := by omega
  have DM0 : Hid (DM (jq4 ps) i 0 f (upd f i)) := DM.start
  have OU : Hid (w2.ownsRow W1.heap.size 2 1 (.slice uo C.length uc) C.length (ints C)) := ou
  clear cP c0 f0 hC HW HS1 ou rd
  go_wp2
  go_loopw [16] (fun q wr => ∃ (k : Nat) (g : Nat → Bool), k ≤ C.length ∧ q = .int .i64 k ∧ DM (jq4 ps) i k f g ∧ RSt ps v w R P K g wr ∧ W.grownBy wr (some R) ∧ wr.ownsRow W1.heap.size 2 1 (.slice uo C.length uc) C.length (ints C)) (fun q _ => C.length - (intOf q).toNat)
  case atStart => exact ⟨0, upd f i, Nat.zero_le _, rfl, DM0.out, S2, G2.out, OU.out⟩
  case round =>
   obtain ⟨k, g, hk, rfl, hD, hS, hsz, hown⟩ := hrel
   by_cases hlt : k < C.length
   · have hlt' : (k : Int) < (C.length : Int) := by omega
     obtain ⟨y, hy, hyl⟩ := hgi C[k] (List.getElem_mem hlt)
     obtain ⟨gu, hue⟩ : ∃ gu, uo = some ⟨gu, 0, none⟩ := by
      rcases own_shape hown with ⟨_, e, _⟩ | ⟨gu, cp, e, _⟩
      · omega
      · exact ⟨gu, by cases e; rfl⟩
     subst hue
     have cu : wr.cell? ⟨gu, k, none⟩ = some (.int .i64 (y : Int)) := by
      rw [hown.cellAt k (by omega)]
      simp [ints, hlt, hy]
     obtain ⟨cK, _⟩ := ja4 hS.fn
     have hgy : (jq4 ps i)[k]? = some (y : Int) := by rw [HC.out]; simp [hlt, hy]
     have hug : unr g ≤ m := by
      have := unr_mono (f := upd f i) (f' := g) (fun x hx => by
       by_cases e : x = i
       · rw [e]; exact hD.self
       · exact hD.mono x (by unfold upd at hx; rw [if_neg e] at hx; exact hx))
      omega
     have hcall := ih g y wr hug hyl hS
     have HD : Hid _ := hD
     have HGY : Hid _ := hgy
     have HO : Hid (wr.ownsRow W1.heap.size 2 1 (.slice (some ⟨gu, 0, none⟩) C.length uc) C.length (ints C)) := hown
     have hgu := hown.lt gu rfl
     clear hD hgy hown hS hgi ih
     go_wp2_with fail
     go_at_call 43
     refine hcall.mono ?_
     rintro e w3 ⟨⟨x, rfl⟩, h, hr, hself, hS3, g3⟩
     clear hcall
     have HD3 : Hid (DM (jq4 ps) i (k + 1) f h) := HD.out.next HGY.out hr hself
     have HO3 : Hid (w3.ownsRow W1.heap.size 2 1 (.slice (some ⟨gu, 0, none⟩) C.length uc) C.length (ints C)) := jd5 HO.out g3 (fun q hq e => by
      have e1 : gu = q := by simpa [Value.ownBlock] using hq
      have e2 : R = q := by simpa using e
      omega)
     have HG3 : Hid (W.grownBy w3 (some R)) := ja8 hsz g3
     have HS3 : Hid (RSt ps v w R P K h w3) := hS3
     clear hr hself hS3 g3 HO HD HGY hsz
     go_wp2
     go_roundw
     case rel => exact ⟨k + 1, h, by omega, by go_num, HD3.out, HS3.out, HG3.out, HO3.out⟩
     case measure => simp [intOf]; omega
   · obtain rfl : k = C.length := by omega
     have hfin := hD.done (by rw [HC.out]; omega)
     have HF : Hid _ := hfin
     have HSX : Hid (RSt ps v w R P K g wr) := hS
     have hgs := hD.self
     clear hD hfin hS
     go_wp2
     go_returns
     exact ⟨⟨_, rfl⟩, g, HF.out, hgs, HSX.out, hsz⟩
theorem implReach (ps : List (List Stm)) (i : Int) (A : List Int) (hA : ReachA ps i A) (v : Value) (w : World) (hl : ps.length ≤ maxLen) (hp : ∀ p ∈ ps, p.length ≤ maxLen) (hv : jb5 w v ps) :
 Calls Tryz.prog 18 #[.agg #[v], .int .i64 i] w fun e w' => ∃ u, e = .returned u ∧ w'.ownsRow w.heap.size 2 1 u A.length (ints A) ∧ Below w.heap.size w w' := by
 have hb0 : Below w.heap.size w (w.alloc (.cells #[v] 26)) := by go_grown
 have he := hasProc ps i v _ hl hp (ja0 hv hb0)
 have H0 := heap_alloc_new w (.cells #[v] 26)
 have s0 : (w.alloc (.cells #[v] 26)).heap.size = w.heap.size + 1 := by simp
 cases hok : hasB ps i
 · rw [hok] at he
   obtain rfl := hA.2 hok
   go_enter Tryz.func18, Tryz.ntmps18
   go_wp2_with (go_at_call 42; refine he.mono ?_; rintro e w2 ⟨rfl, b2⟩)
   go_ret
   have L2 := hb0.trans (b2.mono hb0.size)
   exact ⟨_, rfl, nilOwn _ _, L2⟩
 · rw [hok] at he
   have hA1 := hA.1 hok
   obtain ⟨hpok, j, hj, rfl, _⟩ := jx4 hok
   rw [Int.toNat_natCast] at hA1
   go_enter Tryz.func18, Tryz.ntmps18
   go_wp2_with fail
   go_at_call 42
   refine he.mono ?_
   rintro e w2 ⟨rfl, b2⟩
   have X2 := (b2.block w.heap.size (by omega)).trans H0
   have L2 := hb0.trans (b2.mono hb0.size)
   have s2 := b2.size
   clear he
   go_wp2_with fail
   have B3 : Below w2.heap.size w2 ((w2.alloc (.cells #[.bool false, .bool false, .bool false, .bool false] 75)).alloc (.cells #[.func (.func 43) #[] #[.pointer (some ⟨w2.heap.size, 0, none⟩), .pointer (some ⟨w.heap.size, 0, none⟩), .pointer (some ⟨w2.heap.size + 1, 0, none⟩)]] 76)) := by go_grown
   have SR : RSt ps v w w2.heap.size w.heap.size (w2.heap.size + 1) (fun _ => false) ((w2.alloc (.cells #[.bool false, .bool false, .bool false, .bool false] 75)).alloc (.cells #[.func (.func 43) #[] #[.pointer (some ⟨w2.heap.size, 0, none⟩), .pointer (some ⟨w.heap.size, 0, none⟩), .pointer (some ⟨w2.heap.size + 1, 0, none⟩)]] 76)) := by
    refine ⟨?_, (B3.block w.heap.size (by omega)).trans X2, ?_, L2.trans (B3.mono L2.size), by omega, by omega, by omega, by omega, by omega⟩
    · unfold BAt
      rw [ja2 (by simp)]
      exact heap_alloc_new w2 _
    · have := heap_alloc_new (w2.alloc (.cells #[.bool false, .bool false, .bool false, .bool false] 75)) (.cells #[.func (.func 43) #[] #[.pointer (some ⟨w2.heap.size, 0, none⟩), .pointer (some ⟨w.heap.size, 0, none⟩), .pointer (some ⟨w2.heap.size + 1, 0, none⟩)]] 76)
      simpa using this
   refine (comeTo ps v w w2.heap.size w.heap.size (w2.heap.size + 1) hpok hl hp hv 4 (fun _ => false) j _ (by simp [unr]) hj SR).mono ?_
   rintro e w3 ⟨⟨x, rfl⟩, f, hr, hself, hS3, g3⟩
   have hAf := qe7 hA1 (hr.all (jw7 hpok) hj hself)
   have HAF : Hid _ := hAf
   have HS3 : Hid (RSt ps v w w2.heap.size w.heap.size (w2.heap.size + 1) f w3) := hS3
   have rd : jf8 w3 (.slice (some ⟨w2.heap.size, 0, none⟩) 4 4) ([f 0, f 1, f 2, f 3].map .bool) := by
    refine ⟨some ⟨w2.heap.size, 0, none⟩, 4, rfl, fun k x hx => ⟨w2.heap.size, 0, rfl, ?_⟩⟩
    obtain ⟨d0, d1, d2, d3, _⟩ := jk3 hS3.set
    have hk : k < 4 := (List.getElem?_eq_some_iff.1 hx).1
    have : k = 0 ∨ k = 1 ∨ k = 2 ∨ k = 3 := by omega
    rcases this with rfl | rfl | rfl | rfl <;> simp at hx <;> subst hx <;> assumption
   have hn := numbersIn [f 0, f 1, f 2, f 3] _ w3 (by simp) rd
   rw [← hAf] at hn
   have z3 := hS3.below.size
   clear SR B3 hr hself hS3 hAf rd X2 L2 hA1
   go_wp2_with fail
   go_at_call 45
   refine hn.mono ?_
   rintro e w5 ⟨u5, rfl, own5, b5⟩
   go_wp2
   go_ret
   exact ⟨_, rfl, jc4 own5 z3, HS3.out.below.trans (b5.mono z3)⟩
end Go.Proofs.YtldagpfeaabcdaaGreatDoor
namespace Go.Proofs.YtldagpfeaabcdaaGreatDoor
open Go.RowKit
set_option linter.unusedVariables false
set_option linter.unusedSimpArgs false
set_option maxHeartbeats 4000000
set_option maxRecDepth 20000
theorem likePlaces (n : Nat) (xs : List Int) (v u : Value) (w : World) (hx : xs.length = 2 * n) (hl : n ≤ 1000) (hv : jn8 w v n (ints xs)) (hu : jn8 w u n (ints xs)) :
 Calls Tryz.prog 9 #[v, u] w fun e w' => e = .returned (.bool true) ∧ Below w.heap.size w w' := by
 obtain ⟨ao, cap, rfl, hc⟩ := hv
 obtain ⟨bo, cap', rfl, hd⟩ := hu
 go_enter Tryz.func9, Tryz.ntmps9
 go_wp2_with fail
 go_loopw [5] (fun i wr => ∃ k : Nat, k ≤ n ∧ i = .int .i64 k ∧ Below w.heap.size w wr) (fun i _ => n - (intOf i).toNat)
 case atStart => exact ⟨0, Nat.zero_le _, rfl, Below.refl _ _⟩
 case round =>
  obtain ⟨k, hk, rfl, hb⟩ := hrel
  by_cases hlt : k < n
  · have k1 : k * 2 < xs.length := by omega
    have k2 : k * 2 + 1 < xs.length := by omega
    obtain ⟨g, off, rfl, h1⟩ := hc (k * 2) (.int .i64 xs[k * 2]) (by simp [ints, k1])
    obtain ⟨g9, off9, e9, h2⟩ := hc (k * 2 + 1) (.int .i64 xs[k * 2 + 1]) (by simp [ints, k2])
    cases e9
    obtain ⟨g', off', rfl, h3⟩ := hd (k * 2) (.int .i64 xs[k * 2]) (by simp [ints, k1])
    obtain ⟨g8, off8, e8, h4⟩ := hd (k * 2 + 1) (.int .i64 xs[k * 2 + 1]) (by simp [ints, k2])
    cases e8
    have h1 := (hb.cell (World.block_lt_of_cell? w _ h1)).trans h1
    have h2 := (hb.cell (World.block_lt_of_cell? w _ h2)).trans h2
    have h3 := (hb.cell (World.block_lt_of_cell? w _ h3)).trans h3
    have h4 := (hb.cell (World.block_lt_of_cell? w _ h4)).trans h4
    rw [← Nat.add_assoc] at h2 h4
    have hlt' : (k : Int) < (n : Int) := by omega
    have HB : Hid (Below w.heap.size w wr) := hb
    clear hc hd hb
    generalize xs[k * 2] = x at *
    generalize xs[k * 2 + 1] = y at *
    go_wp2_with fail
    go_region
    go_wp2_with fail
    go_roundw
    case rel => exact ⟨k + 1, by omega, by go_num, Below.drew HB.out⟩
    case measure => simp [intOf]; omega
  · go_wp2
    go_ret
    exact ⟨rfl, hb⟩
end Go.Proofs.YtldagpfeaabcdaaGreatDoor
namespace Go.Proofs.YtldagpfeaabcdaaGreatDoor
open Go.ChangeShapes Go.WideShapes Go.ChangeAt Go.RowKit
set_option linter.unusedVariables false
set_option maxHeartbeats 2000000
theorem lawBig (bs : List Int) (v : Value) (w : World) (hl : bs.length ≤ maxLen) (hv : jf8 w v (bs.map (Value.int .u8))) :
 Calls Tryz.prog 4 #[v] w fun e w' => e = .returned (.bool (decide ((4096 : Int) < (bs.length : Int)))) ∧ w = w' := by
 obtain ⟨ao, cap, rfl, hc⟩ := hv
 simp only [List.length_map]
 go_enter Tryz.func4, Tryz.ntmps4
 go_wp2
 go_ret
 exact ⟨rfl, rfl⟩
theorem open_code {H : Type} {enc : TypeId × Value → H} {P : Program} {W : World} {base : Nat} {held : Bool} {t e : TypeId} {r : Reach} {b0 : Nat} {v : Value} {d : DataW H} {p : List MemPlace}
 (ht : P.underlying t = some (.slice e)) (he : P.underlying e = some (.int .u8)) (hc : P.cellsOf e = 1) (hv : Value.okWide P W r b0 t v) (h : DataW.Trod enc P W base (fun _ => true) held t v d p) :
 ∃ bs : List Int, jf8 W v (bs.map (Value.int .u8)) ∧ bs.length ≤ maxLen ∧ ∀ x ∈ bs, 0 ≤ x ∧ x ≤ 255 := by
 obtain ⟨a0, len, cap, rfl⟩ := okWide_slice ht hv
 obtain ⟨fuel, hf⟩ := h
 rcases open_ints ht he hc hf with ⟨hcs, _⟩ | ⟨a, len', cap', zs, hcs, _, hl, hm, hz, _, hcell, hwz⟩
 · simp [Value.cells] at hcs
   obtain ⟨rfl, rfl, rfl⟩ := hcs
   exact ⟨[], ⟨none, 0, rfl, fun j x hx => by simp at hx⟩, by simp, by simp⟩
 · simp [Value.cells] at hcs
   obtain ⟨rfl, rfl, rfl⟩ := hcs
   simp only [if_true] at hz
   have hlen : (zs.take len).length = len := by simp; omega
   refine ⟨zs.take len, ⟨some a, cap, by rw [List.length_map, hlen], ?_⟩, by omega, fun x hx => ?_⟩
   · intro j x hx
     have hj : j < len := by
      rcases Nat.lt_or_ge j len with h | h
      · exact h
      · rw [List.getElem?_eq_none (by simp; omega)] at hx; simp at hx
     have hcj := hcell j (by omega)
     obtain ⟨b, off, spot⟩ := a
     have hspot : spot = none := by
      have h0 := hcell 0 (by omega)
      simpa [Addr.add] using World.cell?_spot h0
     subst hspot
     refine ⟨b, off, rfl, ?_⟩
     have hadd : (⟨b, off, none⟩ : Addr).add j = ⟨b, off + j, none⟩ := by unfold Addr.add; split <;> simp_all
     rw [hadd] at hcj
     rw [hcj]
     have hjs : j < zs.length := by omega
     simp [hj, List.getElem?_eq_getElem hjs] at hx
     rw [List.getD_eq_getElem?_getD, List.getElem?_eq_getElem hjs]
     simp [hx]
   · have := hwz x (List.mem_of_mem_take hx)
     simp only [Lit.wf, Bool.and_eq_true, decide_eq_true_eq] at this
     have h1 : IntKind.u8.min = 0 := by decide
     have h2 : IntKind.u8.max = 255 := by decide
     rw [h1, h2] at this
     exact this
theorem cellsByte : Tryz.prog.cellsOf 5 = 1 := by kernel_rfl
end Go.Proofs.YtldagpfeaabcdaaGreatDoor
