/-
 Chapter 14: spec.DrawAlike, spec.DrawClosure, spec.l14Closure2: what they draw.
-/
import Derived.Test.YtldagpfeaabcdaaGreatDoorG38CloMath2
namespace Go.Proofs.YtldagpfeaabcdaaGreatDoor
open Go.RowKit
set_option linter.unusedVariables false
set_option linter.unusedSimpArgs false
set_option maxHeartbeats 4000000
set_option maxRecDepth 20000
theorem je1 {ps : List (List Stm)} {L : List Nat} (h : ps.map List.length = L) (h5 : L.length ≤ 5) (h14 : ∀ n ∈ L, n ≤ 14) : ps.length ≤ 100 ∧ ∀ p ∈ ps, p.length ≤ 100 := by
 subst h
 refine ⟨by simp at h5; omega, fun p hp => ?_⟩
 have := h14 p.length (List.mem_map_of_mem hp)
 omega
theorem qd4 {ps : List (List Stm)} (h : ja5 ps = true) : ps.length ≤ 100 ∧ ∀ p ∈ ps, p.length ≤ 100 := by
 obtain ⟨h4, _, hpr⟩ := jc1 h
 exact ⟨by omega, fun p hp => by have := jj5 (hpr p hp).1; omega⟩
theorem drawClosure (bs : List Int) (v : Value) (w : World) (hl : bs.length ≤ 1048576) (hv : jf8 w v (bs.map (Value.int .u8))) :
 Calls Tryz.prog 7 #[v] w fun e w' => ∃ (u : Value) (L : List Nat) (i : Int), e = .returned (.tuple #[.agg #[u], .int .i64 i]) ∧ L.length ≤ 5 ∧ (∀ n ∈ L, n ≤ 14) ∧ PrOk w' w.heap.size u L ∧ Below w.heap.size w w' := by
 obtain ⟨W0, hW0⟩ : ∃ W, w.alloc (.cells #[.slice none 0 0] 26) = W := ⟨_, rfl⟩
 have hb0 : Below w.heap.size w W0 := by rw [← hW0]; go_grown
 have hs0 : w.heap.size < W0.heap.size := by rw [← hW0]; simp
 have R0 : W0.heap[w.heap.size]? = some (.cells #[.slice none 0 0] 26 (0, 0)) := by rw [← hW0]; exact heap_alloc_new w _
 have hd := drawCalls bs v W0 hl (jc7 hv hb0)
 go_enter Tryz.func7, Tryz.ntmps7
 go_wp2_with fail
 go_at_call 29
 clear hW0
 refine hd.mono ?_
 rintro e w2 ⟨u, L, i, rfl, h5, h14, pr2, b2⟩
 obtain ⟨ua, un, uc, rfl⟩ := pr2.slice
 have R2 := (b2.block _ hs0).trans R0
 have L2 : Below w.heap.size w w2 := hb0.trans (b2.mono hb0.size)
 obtain ⟨r2, fr2⟩ := ja6 R2
 have G5 := heap_setCell_same w2 w.heap.size 0 _ 26 (.slice ua un uc) R2
 simp at G5
 obtain ⟨d5, _⟩ := ja6 G5
 have PR : Hid (PrOk w2 W0.heap.size (.slice ua un uc) L) := pr2
 clear G5 pr2 hd R0 b2
 go_wp2_with fail
 refine bodyPost_ret (v := .tuple #[.agg #[.slice ua un uc], .int .i64 i]) (by simp [results, Tryz.results7, go_sem, d5]) rfl ?_
 exact ⟨_, L, i, rfl, h5, h14, PR.out.answered (by omega), L2.setCell (by simp) _⟩
theorem closure2 (ps : List (List Stm)) (v : Value) (w : World) (hl : ps.length ≤ 100) (hp : ∀ p ∈ ps, p.length ≤ 100) (hv : jb5 w v ps) :
 Calls Tryz.prog 24 #[.agg #[v]] w fun e w' => ∃ (x : Value) (qs : List (List Stm)), e = .returned (.agg #[x]) ∧ (x = v ∧ qs = ps ∨ ∃ base, w.heap.size ≤ base ∧ OwnP w' base w'.heap.size x qs) ∧ (qs.length ≤ 100 ∧ ∀ p ∈ qs, p.length ≤ 100) ∧ Below w.heap.size w w' := by
 have hsl : ∃ a c, v = .slice a ps.length c := by obtain ⟨a, c, e, _⟩ := hv; exact ⟨a, c, e⟩
 obtain ⟨va, vc, hvv⟩ := hsl
 obtain ⟨n, hn⟩ : ∃ n, ps.length = n := ⟨_, rfl⟩
 rw [hn] at hvv
 subst hvv
 obtain ⟨W0, hW0⟩ : ∃ W, (w.alloc (.cells #[.slice va n vc] 26)).alloc (.cells #[.slice none 0 0] 26) = W := ⟨_, rfl⟩
 have hb0 : Below w.heap.size w W0 := by rw [← hW0]; go_grown
 have hs0 : W0.heap.size = w.heap.size + 2 := by rw [← hW0]; simp
 obtain ⟨bA, hbA⟩ : ∃ k, w.heap.size = k := ⟨_, rfl⟩
 have hA0 : W0.heap[bA]? = some (.cells #[.slice va n vc] 26 (0, 0)) := by rw [← hW0, ← hbA, ja2 (by simp)]; exact heap_alloc_new w _
 have hR0 : W0.heap[bA + 1]? = some (.cells #[.slice none 0 0] 26 (0, 0)) := by
  rw [← hW0, ← hbA]
  have h9 := heap_alloc_new (w.alloc (.cells #[.slice va n vc] 26)) (.cells #[.slice none 0 0] 26)
  simpa using h9
 have hpo := ji0 ps (.slice va n vc) W0 (by unfold maxLen; omega) (fun p h => by have := hp p h; unfold maxLen; omega) (ja0 hv hb0)
 obtain ⟨ok, hok⟩ : ∃ b, ja5 ps = b := ⟨_, rfl⟩
 rw [hok] at hpo
 have HOK : Hid _ := hok
 have HV0 : Hid (jb5 W0 (.slice va n vc) ps) := ja0 hv hb0
 have HB0 : Hid (Below w.heap.size w W0) := hb0
 have HS0 : Hid (w.heap.size = bA ∧ W0.heap.size = w.heap.size + 2 ∧ ps.length = n) := ⟨hbA, hs0, hn⟩
 obtain ⟨cA, -⟩ := ja6 hA0
 obtain ⟨cR, fR⟩ := ja6 hR0
 have HA0 : Hid _ := hA0
 have HR0 : Hid _ := hR0
 clear hok hb0 hs0 hn hv hA0 hR0
 go_enter Tryz.func24, Tryz.ntmps24
 go_wp2_with fail
 go_at_call 32
 clear hW0 hbA
 refine hpo.mono ?_
 rintro e w1 ⟨rfl, b1⟩
 have HA1 : Hid (w1.heap[bA]? = some (.cells #[.slice va n vc] 26 (0, 0))) := (b1.block _ (Array.getElem?_eq_some_iff.1 HA0.out).1).trans HA0.out
 have HR1 : Hid (w1.heap[bA + 1]? = some (.cells #[.slice none 0 0] 26 (0, 0))) := (b1.block _ (Array.getElem?_eq_some_iff.1 HR0.out).1).trans HR0.out
 have HB1 : Hid (Below w.heap.size w w1) := HB0.out.trans (b1.mono HB0.out.size)
 have HV1 : Hid (jb5 w1 (.slice va n vc) ps) := ja0 HV0.out b1
 have HS1 : Hid (W0.heap.size ≤ w1.heap.size) := b1.size
 clear hpo b1 HA0 HR0 HB0 HV0 cA cR fR
 obtain ⟨cA, -⟩ := ja6 HA1.out
 obtain ⟨cR, fR⟩ := ja6 HR1.out
 cases ok with
 | false =>
  have G5 := heap_setCell_same w1 (bA + 1) 0 _ 26 (.slice va n vc) HR1.out
  simp at G5
  obtain ⟨d5, _⟩ := ja6 G5
  clear G5
  go_wp2_with fail
  refine bodyPost_ret (v := .agg #[.slice va n vc]) (by simp [results, Tryz.results24, go_sem, d5]) rfl ?_
  exact ⟨_, ps, rfl, .inl ⟨rfl, rfl⟩, ⟨hl, hp⟩, HB1.out.setCell (by have := HS0.out.1; simp; omega) _⟩
 | true =>
  have hpos : 1 ≤ n := by
   have h9 := (jc1 HOK.out).2.1
   have := HS0.out.2.2
   omega
  have hw9 : IntKind.i64.wrap ((n : Int) - 1) = ((n - 1 : Nat) : Int) := by
   rw [show ((n - 1 : Nat) : Int) = (n : Int) - 1 by omega]
   exact IntWalk.i64_in _ (by have := HS0.out.2.2; omega)
  have hhas : hasB ps ((n - 1 : Nat) : Int) = true := by
   unfold hasB wiB
   rw [HOK.out]
   have := HS0.out.2.2
   simp
   omega
  have hcl := l14Closure ps ((n - 1 : Nat) : Int) (.slice va n vc) w1 hhas HV1.out
  go_wp2_with fail
  go_at_call 34
  refine hcl.mono ?_
  rintro e w2 ⟨x, us, rfl, ox, b2⟩
  obtain ⟨xa, xm, xc, rfl⟩ := jd4 ox.row
  have HR2 := (b2.block _ (Array.getElem?_eq_some_iff.1 HR1.out).1).trans HR1.out
  obtain ⟨cR2, fR2⟩ := ja6 HR2
  have G5 := heap_setCell_same w2 (bA + 1) 0 _ 26 (.slice xa xm xc) HR2
  simp at G5
  obtain ⟨d5, _⟩ := ja6 G5
  have HE : Hid (OwnP (w2.setCell ⟨bA + 1, 0, none⟩ (.slice xa xm xc)) w1.heap.size w2.heap.size (.slice xa xm xc) (jf7 ps (jg4 ps ((n - 1 : Nat) : Int))) ∧ Below w.heap.size w (w2.setCell ⟨bA + 1, 0, none⟩ (.slice xa xm xc))) := by
   have h1 := HS0.out
   have h2 := HS1.out
   refine ⟨jp6 ox.ownP (.inl (by simp; omega)) _, (HB1.out.trans (b2.mono HB1.out.size)).setCell (by simp; omega) _⟩
  clear G5 ox b2 hcl cA cR fR HR2
  go_wp2_with fail
  refine bodyPost_ret (v := .agg #[.slice xa xm xc]) (by simp [results, Tryz.results24, go_sem, d5]) rfl ?_
  refine ⟨.slice xa xm xc, jf7 ps (jg4 ps ((n - 1 : Nat) : Int)), rfl, .inr ⟨w1.heap.size, HB1.out.size, ?_⟩, ?_, HE.out.2⟩
  · have := HE.out.1; simpa using this
  · exact qd4 (jt2 hhas)
theorem curSetLow {W : World} {g : Nat} {bs : List Int} (h : Cur W g bs) {b : Nat} {a : Option Addr} {n c : Nat} {T : TypeId} (hb : W.heap[b]? = some (.cells #[.slice a n c] T (0, 0))) (hg : b ≠ g) (y : Value) : Cur (W.setCell ⟨b, 0, none⟩ y) g bs := by
 obtain ⟨ao, cap, i, hh, h1, h2, h3⟩ := h
 refine ⟨ao, cap, i, hh, (Below.heap_setCell _ _ _ _ (by simp; omega)).trans h1, h2, fun j x hx => ?_⟩
 obtain ⟨gg, off, e1, e2, e3⟩ := h3 j x hx
 refine ⟨gg, off, e1, e2, ?_⟩
 have hne : gg ≠ b := by
  intro e
  subst e
  simp [World.cell?, hb] at e3
  rcases e9 : off + j with _ | k
  · rw [e9] at e3; simp at e3
  · rw [e9] at e3; simp at e3
 exact (World.cell?_of_block (a := ⟨gg, off + j, none⟩) (Below.heap_setCell _ _ _ _ (by simp; omega))).trans e3
structure DK (w : World) (g A base : Nat) (bs : List Int) (u : Value) (L : List Nat) (W : World) : Prop where
 ra : ∃ a n c, W.heap[A]? = some (.cells #[.slice a n c] 26 (0, 0))
 rb : ∃ a n c, W.heap[A + 1]? = some (.cells #[.slice a n c] 26 (0, 0))
 pr : PrOk W base u L
 cur : Cur W g bs
 bel : Below w.heap.size w W
theorem DK.step {w : World} {g A base : Nat} {bs : List Int} {u : Value} {L : List Nat} {W W' : World} (h : DK w g A base bs u L W) (hb : Below W.heap.size W W') : DK w g A base bs u L W' := by
 obtain ⟨xa, xn, xc, ha⟩ := h.ra
 obtain ⟨za, zn, zc, hz⟩ := h.rb
 exact ⟨⟨_, _, _, (hb.block _ (Array.getElem?_eq_some_iff.1 ha).1).trans ha⟩, ⟨_, _, _, (hb.block _ (Array.getElem?_eq_some_iff.1 hz).1).trans hz⟩, h.pr.grown (jb3 hb none) (fun k e => by cases e), jg5 h.cur hb, h.bel.trans (hb.mono h.bel.size)⟩
theorem DK.draw {w : World} {g A base : Nat} {bs : List Int} {u : Value} {L : List Nat} {W W' : World} (h : DK w g A base bs u L W) (hA : w.heap.size ≤ A) (hg : A + 2 ≤ g) (hgb : g < base) (hc : Cur W' g bs) (hb : W.grownBy W' (some g)) : DK w g A base bs u L W' := by
 obtain ⟨xa, xn, xc, ha⟩ := h.ra
 obtain ⟨za, zn, zc, hz⟩ := h.rb
 exact ⟨⟨_, _, _, (hb.block _ (Array.getElem?_eq_some_iff.1 ha).1 (by simp; omega)).trans ha⟩, ⟨_, _, _, (hb.block _ (Array.getElem?_eq_some_iff.1 hz).1 (by simp; omega)).trans hz⟩, h.pr.grown hb (fun k e => by cases e; exact hgb), hc, h.bel.grown hb h.bel.size (fun k e => by cases e; omega)⟩
theorem js2 {W : World} {b : Nat} {z : Value} (h : W.heap[b]? = some (.cells #[z] 26 (0, 0))) (y : Value) : (W.setCell ⟨b, 0, none⟩ y).heap[b]? = some (.cells #[y] 26 (0, 0)) := by
 have h9 := heap_setCell_same W b 0 _ _ y h
 simpa using h9
theorem DK.set {w : World} {g A base : Nat} {bs : List Int} {u : Value} {L : List Nat} {W : World} (h : DK w g A base bs u L W) (hA : w.heap.size ≤ A) (hg : A + 2 ≤ g) (hgb : g < base) {o : Nat} (ho : o = A ∨ o = A + 1) (a : Option Addr) (n c : Nat) : DK w g A base bs u L (W.setCell ⟨o, 0, none⟩ (.slice a n c)) := by
 obtain ⟨xa, xn, xc, ha⟩ := h.ra
 obtain ⟨za, zn, zc, hz⟩ := h.rb
 refine ⟨?_, ?_, h.pr.grown (jg0 W o 0 _) (fun k e => by cases e; omega), ho.elim (fun e => by subst e; exact curSetLow h.cur ha (by omega) _) (fun e => by subst e; exact curSetLow h.cur hz (by omega) _), h.bel.setCell (by simp; omega) _⟩
 · rcases ho with rfl | rfl
   · exact ⟨_, _, _, js2 ha _⟩
   · exact ⟨_, _, _, (Below.heap_setCell _ _ _ _ (by simp)).trans ha⟩
 · rcases ho with rfl | rfl
   · exact ⟨_, _, _, (Below.heap_setCell _ _ _ _ (by simp)).trans hz⟩
   · exact ⟨_, _, _, js2 hz _⟩
def Fit (A : Nat) (Y : World) (x : Value) : Prop := ∀ (a : Option Addr) (n c : Nat) (a' : Option Addr) (n' c' : Nat), ∃ qs : List (List Stm), jb5 ((Y.setCell ⟨A, 0, none⟩ (.slice a n c)).setCell ⟨A + 1, 0, none⟩ (.slice a' n' c')) x qs ∧ (qs.length ≤ 100 ∧ ∀ p ∈ qs, p.length ≤ 100)
theorem jy5 {A lo top : Nat} {Y : World} {x : Value} {qs : List (List Stm)} (h : OwnP Y lo top x qs) (hA : A + 1 < lo) (hq : qs.length ≤ 100 ∧ ∀ p ∈ qs, p.length ≤ 100) : Fit A Y x :=
 fun a n c a' n' c' => ⟨qs, jj1 (jp6 (jp6 h (.inl (by simp; omega)) _) (.inl (by simp; omega)) _), hq⟩
theorem fit_pr {A base : Nat} {Y : World} {x : Value} {L : List Nat} (h : PrOk Y base x L) (hA : A + 1 < base) (h5 : L.length ≤ 5) (h14 : ∀ n ∈ L, n ≤ 14) : Fit A Y x := fun a n c a' n' c' => by
 obtain ⟨qs, rq, hq⟩ := ((h.grown (jg0 Y A 0 (.slice a n c)) (fun k e => by cases e; omega)).grown (jg0 _ (A + 1) 0 (.slice a' n' c')) (fun k e => by cases e; omega)).reads
 exact ⟨qs, rq, je1 hq h5 h14⟩
theorem jk0 {w : World} {g A base : Nat} {bs : List Int} {u : Value} {L : List Nat} {Y : World} {ua : Option Addr} {un uc : Nat} {xa : Option Addr} {xn xc : Nat} (hu : u = .slice ua un uc) (D : DK w g A base bs u L Y) (hA : w.heap.size ≤ A) (hg : A + 2 ≤ g) (hgb : g < base) :
 let Z := (Y.setCell ⟨A, 0, none⟩ (.slice ua un uc)).setCell ⟨A + 1, 0, none⟩ (.slice xa xn xc)
 DK w g A base bs u L Z ∧ Z.cell? ⟨A, 0, none⟩ = some (.slice ua un uc) ∧ Z.cell? ⟨A + 1, 0, none⟩ = some (.slice xa xn xc) := by
 intro Z
 have D1 := D.set hA hg hgb (.inl rfl) ua un uc
 obtain ⟨ya, yn, yc, hy⟩ := D.ra
 obtain ⟨za, zn, zc, hz⟩ := D1.rb
 refine ⟨D1.set hA hg hgb (.inr rfl) xa xn xc, ?_, (ja6 (js2 hz _)).1⟩
 have h1 := js2 hy (.slice ua un uc)
 exact (ja6 ((Below.heap_setCell _ ⟨A + 1, 0, none⟩ (.slice xa xn xc) A (by simp)).trans h1)).1
theorem drawAlike (bs : List Int) (v : Value) (w : World) (hl : bs.length ≤ 1048576) (hv : jf8 w v (bs.map (Value.int .u8))) :
 Calls Tryz.prog 5 #[v] w fun e w' => ∃ (u x : Value) (ps qs : List (List Stm)), e = .returned (.tuple #[.agg #[u], .agg #[x]]) ∧ jb5 w' u ps ∧ jb5 w' x qs ∧ (ps.length ≤ 100 ∧ ∀ p ∈ ps, p.length ≤ 100) ∧ (qs.length ≤ 100 ∧ ∀ p ∈ qs, p.length ≤ 100) ∧ Below w.heap.size w w' := by
 obtain ⟨W0, hW0⟩ : ∃ W, (w.alloc (.cells #[.slice none 0 0] 26)).alloc (.cells #[.slice none 0 0] 26) = W := ⟨_, rfl⟩
 have hb0 : Below w.heap.size w W0 := by rw [← hW0]; go_grown
 have hs0 : W0.heap.size = w.heap.size + 2 := by rw [← hW0]; simp
 obtain ⟨A, hA⟩ : ∃ k, w.heap.size = k := ⟨_, rfl⟩
 have HAW : Hid (w.heap.size = A) := hA
 have hA0 : W0.heap[A]? = some (.cells #[.slice none 0 0] 26 (0, 0)) := by rw [← hW0, ← hA, ja2 (by simp)]; exact heap_alloc_new w _
 have hB0 : W0.heap[A + 1]? = some (.cells #[.slice none 0 0] 26 (0, 0)) := by
  rw [← hW0, ← hA]
  have h9 := heap_alloc_new (w.alloc (.cells #[.slice none 0 0] 26)) (.cells #[.slice none 0 0] 26)
  simpa using h9
 have hn := l1New bs v W0 hl (jc7 hv hb0)
 go_enter Tryz.func5, Tryz.ntmps5
 go_wp2_with fail
 go_at_call 19
 clear hW0
 refine hn.mono ?_
 rintro e w1 ⟨g, rfl, hg, hc1, b1⟩
 have g1 := jv8 hc1
 have hd := l3DrawAny g bs w1 hl hc1
 clear hn
 go_wp2_with fail
 go_at_call 20
 clear hA
 refine hd.mono ?_
 rintro e w2 ⟨u, L, rfl, h5, h14, pr2, hc2, hg2⟩
 obtain ⟨ua, un, uc, rfl⟩ := pr2.slice
 obtain ⟨ps, rp, hpL⟩ := pr2.reads
 have hlens := je1 hpL h5 h14
 have hA2 := (hg2.block A (by have := (Array.getElem?_eq_some_iff.1 hA0).1; have := b1.size; omega) (by have := (Array.getElem?_eq_some_iff.1 hA0).1; simp; omega)).trans ((b1.block A (Array.getElem?_eq_some_iff.1 hA0).1).trans hA0)
 have hB2 := (hg2.block (A + 1) (by have := (Array.getElem?_eq_some_iff.1 hB0).1; have := b1.size; omega) (by have := (Array.getElem?_eq_some_iff.1 hB0).1; simp; omega)).trans ((b1.block (A + 1) (Array.getElem?_eq_some_iff.1 hB0).1).trans hB0)
 have hwA : w.heap.size = A := HAW.out
 have D2 : DK w g A w1.heap.size bs (.slice ua un uc) L w2 := ⟨⟨_, _, _, hA2⟩, ⟨_, _, _, hB2⟩, pr2, hc2, (hb0.trans (b1.mono hb0.size)).grown hg2 (Nat.le_trans hb0.size b1.size) (fun k e => by cases e; omega)⟩
 have HG : Hid (A + 2 ≤ g ∧ g < w1.heap.size ∧ w1.heap.size ≤ w2.heap.size ∧ w.heap.size = A) := ⟨by omega, g1, hg2.size, hwA⟩
 obtain ⟨w3, hw3⟩ : ∃ W, w2.alloc (.cells #[.slice ua un uc] 26) = W := ⟨_, rfl⟩
 obtain ⟨P, hP⟩ : ∃ k, w2.heap.size = k := ⟨_, rfl⟩
 have b3 : Below w2.heap.size w2 w3 := by rw [← hw3]; go_grown
 have D3 : DK w g A w1.heap.size bs (.slice ua un uc) L w3 := D2.step b3
 have HP3 : w3.heap[P]? = some (.cells #[.slice ua un uc] 26 (0, 0)) := by rw [← hw3, ← hP]; exact heap_alloc_new w2 _
 have HGP : Hid (g < P) := by show g < P; have := HG.out; omega
 have ho := l1Once g bs 2 (by omega) w3 hl D3.cur
 have HS3 : Hid (w2.heap.size ≤ w3.heap.size) := b3.size
 have HLN : Hid _ := hlens
 have HRP : Hid (ps.map List.length = L) := hpL
 clear hd hA2 hB2 hA0 hB0 pr2 hc2 hg2 b1 hc1 D2 b3 hlens hpL rp hb0 hwA
 go_wp2_with fail
 go_at_call 21
 clear hw3 hP
 refine ho.mono ?_
 rintro e w4 ⟨b, rfl, hc4, hg4⟩
 have D4 : Hid (DK w g A w1.heap.size bs (.slice ua un uc) L w4) := D3.draw (by have := HG.out; omega) HG.out.1 HG.out.2.1 hc4 hg4
 have HP4 : Hid (w4.heap[P]? = some (.cells #[.slice ua un uc] 26 (0, 0))) := jb4 HP3 hg4 HGP.out
 have HSZ : Hid (w2.heap.size ≤ w4.heap.size) := Nat.le_trans HS3.out hg4.size
 clear ho D3 HP3 hg4 hc4
 obtain ⟨cP, -⟩ := ja6 HP4.out
 obtain ⟨ra, rn, rc, hra⟩ := D4.out.ra
 obtain ⟨za, zn, zc, hrb⟩ := D4.out.rb
 obtain ⟨cA, fA⟩ := ja6 hra
 obtain ⟨cB, fB⟩ := ja6 hrb
 have HRA : Hid _ := hra
 have HRB : Hid _ := hrb
 clear hra hrb
 cases b with
 | false =>
  have HS4 : Hid (w2.heap.size ≤ w4.heap.size) := HSZ.out
  go_wp2_with fail
  refine wp_region_held_drew (S := fun X => X.cell? ⟨P, 0, none⟩ = some (.slice ua un uc)) (by kernel_rfl) cP (fun hHl => ?_)
  refine wpAnyH_take (i := 0) (oi := ?oiaf0) (v := .agg #[.slice ua un uc]) ?_ (by kernel_rfl) (by kernel_rfl) (by kernel_rfl) ?_ ?_ hHl ?_
  rotate_left
  · simp only [gA, gB, gC]; rfl
  · exact fun _ _ _ h => h
  · exact Or.inl ⟨by kernel_rfl, fun w hSw => by go_simp⟩
  try simp only [Act.put, gD, gE, gF]
  refine wpAnyH_take (i := 1) (oi := ?oiaf1) (v := .pointer (some ⟨g, 0, none⟩)) ?_ (by kernel_rfl) (by kernel_rfl) (by kernel_rfl) ?_ ?_ hHl ?_
  rotate_left
  · simp only [gA, gB, gC]; rfl
  · exact fun _ _ _ h => h
  · exact Or.inl ⟨by kernel_rfl, fun w hSw => by go_simp⟩
  try simp only [Act.put, gD, gE, gF]
  refine wpAnyH_ready (rs := [2]) (by kernel_rfl) (by simp) (AllReadyH.cons (o := ?ooaf2) ?_ (fun K hK => ?_) AllReadyH.nil)
  rotate_left
  · simp only [gA, gB, gC]; rfl
  go_simp
  go_at_call 20
  refine (l3DrawAny g bs w4.drew hl (jg5 D4.out.cur (Below.drew (Below.refl _ _)))).mono ?_
  rintro e w5 ⟨x5, L5, rfl, k5, k14, pr5, hc5, hg5⟩
  obtain ⟨xa, xn, xc, rfl⟩ := pr5.slice
  have HG4 : Hid (w1.heap.size ≤ w4.heap.size) := Nat.le_trans HG.out.2.2.1 HS4.out
  have D5 : Hid (DK w g A w1.heap.size bs (.slice ua un uc) L w5) := (D4.out.step (Below.drew (Below.refl _ _))).draw (by have := HG.out; omega) HG.out.1 HG.out.2.1 hc5 hg5
  have HP5 : Hid (w5.heap[P]? = some (.cells #[.slice ua un uc] 26 (0, 0))) := jb4 (show w4.drew.heap[P]? = _ from HP4.out) hg5 HGP.out
  have PR5 : Hid (PrOk w5 w4.heap.size (.slice xa xn xc) L5) := pr5
  clear pr5 hc5 hg5
  obtain ⟨ya9, yn9, yc9, hya9⟩ := D5.out.ra
  obtain ⟨yb9, ym9, yd9, hyb9⟩ := D5.out.rb
  obtain ⟨cA9, fA9⟩ := ja6 hya9
  obtain ⟨cB9, fB9⟩ := ja6 hyb9
  have hyB9 : (w5.setCell ⟨A, 0, none⟩ (.slice ua un uc)).heap[A + 1]? = some (.cells #[.slice yb9 ym9 yd9] 26 (0, 0)) := (Below.heap_setCell _ _ _ _ (by simp)).trans hyb9
  obtain ⟨cC9, fC9⟩ := ja6 hyB9
  clear hya9 hyb9 hyB9
  try go_wp2_with fail
  refine hK.out _ _ (ja6 HP5.out).1 (fun hHl => ?_)
  clear hK K
  try simp only [Act.put, gD, gE, gF]
  refine wpAnyH_ready (rs := [3]) (by kernel_rfl) (by simp) (AllReadyH.cons (o := ?ooaf3) ?_ (fun K hK => ?_) AllReadyH.nil)
  rotate_left
  · simp only [gA, gB, gC]; rfl
  go_simp
  try go_wp2_with fail
  refine hK.out _ _ (ja6 ((Below.heap_setCell w5 ⟨A, 0, none⟩ _ P (by have := HG.out; have := HGP.out; simp; omega)).trans HP5.out)).1 (fun hHl => ?_)
  clear hK K
  try simp only [Act.put, gD, gE, gF]
  refine wpAnyH_ready (rs := [4]) (by kernel_rfl) (by simp) (AllReadyH.cons (o := ?ooaf4) ?_ (fun K hK => ?_) AllReadyH.nil)
  rotate_left
  · simp only [gA, gB, gC]; rfl
  go_simp
  try go_wp2_with fail
  refine hK.out _ _ (ja6 ((Below.heap_setCell _ ⟨A + 1, 0, none⟩ _ P (by have := HG.out; have := HGP.out; simp; omega)).trans ((Below.heap_setCell w5 ⟨A, 0, none⟩ _ P (by have := HG.out; have := HGP.out; simp; omega)).trans HP5.out))).1 (fun hHl => ?_)
  clear hK K
  try simp only [Act.put, gD, gE, gF]
  refine wpAnyH_done (by kernel_rfl) ?_ _
  have HZ := jk0 (xa := xa) (xn := xn) (xc := xc) rfl D5.out (by have := HG.out; omega) HG.out.1 HG.out.2.1
  simp only at HZ
  obtain ⟨DZ, dA, dB⟩ := HZ
  obtain ⟨ps9, rp9, hp9⟩ := DZ.pr.reads
  have HL9 : Hid _ := je1 hp9 h5 h14
  have HR9 : Hid _ := rp9
  have HB9 : Hid _ := DZ.bel
  have PR9 := (PR5.out.grown (jg0 w5 A 0 (.slice ua un uc)) (fun k e => by cases e; have := HG.out; have := HG4.out; omega)).grown (jg0 _ (A + 1) 0 (.slice xa xn xc)) (fun k e => by cases e; have := HG.out; have := HG4.out; omega)
  obtain ⟨qs9, rq9, hq9⟩ := PR9.reads
  have HQ9 : Hid _ := rq9
  have HM9 : Hid _ := je1 hq9 k5 k14
  clear PR9 rq9 hq9
  clear DZ rp9 hp9
  go_wp2_with fail
  refine bodyPost_ret (v := .tuple #[.agg #[.slice ua un uc], .agg #[.slice xa xn xc]]) (by simp [results, Tryz.results5, go_sem, dA, dB]) rfl ?_
  exact ⟨_, _, ps9, qs9, rfl, HR9.out, HQ9.out, HL9.out, HM9.out, HB9.out⟩
 | true =>
  have hun : un ≤ 100 := by
   obtain ⟨a9, c9, e9, _⟩ := D4.out.pr
   simp at e9
   omega
  have D4d : Hid (DK w g A w1.heap.size bs (.slice ua un uc) L w4.drew) := D4.out.step (Below.drew (Below.refl _ _))
  have GW0 : Hid (w4.grownBy w4.drew (some g)) := by have h := World.grownBy.refl w4 (some g); exact ⟨h.os, h.tape, h.output, h.size, h.block⟩
  have HP4d : Hid (w4.drew.heap[P]? = some (.cells #[.slice ua un uc] 26 (0, 0))) := HP4.out
  have HSP : Hid (P < w4.heap.size) := (Array.getElem?_eq_some_iff.1 HP4.out).1
  go_wp2_with fail
  refine wp_region_held_drew (S := fun X => X.cell? ⟨P, 0, none⟩ = some (.slice ua un uc)) (by kernel_rfl) cP (fun hHl => ?_)
  refine wpAnyH_take (i := 0) (oi := ?oiat0) (v := .agg #[.slice ua un uc]) ?_ (by kernel_rfl) (by kernel_rfl) (by kernel_rfl) ?_ ?_ hHl ?_
  rotate_left
  · simp only [gA, gB, gC]; rfl
  · exact fun _ _ _ h => h
  · exact Or.inl ⟨by kernel_rfl, fun w hSw => by go_simp⟩
  try simp only [Act.put, gD, gE, gF]
  refine wpAnyH_take (i := 1) (oi := ?oiat1) (v := .pointer (some ⟨g, 0, none⟩)) ?_ (by kernel_rfl) (by kernel_rfl) (by kernel_rfl) ?_ ?_ hHl ?_
  rotate_left
  · simp only [gA, gB, gC]; rfl
  · exact fun _ _ _ h => h
  · exact Or.inl ⟨by kernel_rfl, fun w hSw => by go_simp⟩
  try simp only [Act.put, gD, gE, gF]
  refine wpAnyH_take (i := 2) (oi := ?oiat2) (v := .agg #[.slice ua un uc]) ?_ (by kernel_rfl) (by kernel_rfl) (by kernel_rfl) ?_ ?_ hHl ?_
  rotate_left
  · simp only [gA, gB, gC]; rfl
  · exact fun _ _ _ h => h
  · exact Or.inl ⟨by kernel_rfl, fun w hSw => by go_simp⟩
  try simp only [Act.put, gD, gE, gF]
  refine wpAnyH_ready (rs := [3, 8]) (by kernel_rfl) (by simp) ?_
  refine (AllReadyH.cons (o := ?ooat3) ?hoat3 (fun K hK => ?hkat3) (AllReadyH.cons (o := ?ooat8) ?hoat8 (fun K hK => ?hkat8) AllReadyH.nil))
  case hoat3 =>
   simp only [gA, gB, gC]
   rfl
  case hoat8 =>
   simp only [gA, gB, gC]
   rfl
  case hkat3 =>
   go_simp
   go_at_call 23
   refine (l13Draw g bs ua un uc (w4.drew) hun hl D4d.out.cur).mono ?_
   rintro e y1 ⟨ed, rfl, hc5, hg5⟩
   have D5 : Hid (DK w g A w1.heap.size bs (.slice ua un uc) L y1) := D4d.out.draw (by have := HG.out; omega) HG.out.1 HG.out.2.1 hc5 hg5
   have GW5 : Hid (w4.grownBy y1 (some g)) := ja8 GW0.out hg5
   have HP5 : Hid (y1.heap[P]? = some (.cells #[.slice ua un uc] 26 (0, 0))) := jb4 HP4d.out hg5 HGP.out
   have HS5 : Hid (w4.heap.size ≤ y1.heap.size) := by have h := hg5.size; show w4.heap.size ≤ y1.heap.size; first | omega | (simp at h; omega)
   clear hc5 hg5
   try go_wp2_with fail
   refine hK.out _ _ (ja6 HP5.out).1 (fun hHl => ?_)
   clear hK K
   try simp only [Act.put, gD, gE, gF]
   refine wpAnyH_ready (rs := [4, 8]) (by kernel_rfl) (by simp) ?_
   refine (AllReadyH.cons (o := ?ooata4) ?hoata4 (fun K hK => ?hkata4) (AllReadyH.cons (o := ?ooata8) ?hoata8 (fun K hK => ?hkata8) AllReadyH.nil))
   case hoata4 =>
    simp only [gA, gB, gC]
    rfl
   case hoata8 =>
    simp only [gA, gB, gC]
    rfl
   case hkata4 =>
    go_simp
    obtain ⟨pz, rpz, hpz⟩ := D5.out.pr.reads
    have hlz := je1 hpz h5 h14
    have hed := jy4 pz ed (.slice ua un uc) (y1) (by unfold maxLen; have := hlz.1; omega) (fun p hp => by have := hlz.2 p hp; unfold maxLen; omega) rpz
    have hQl : ((jf2 pz ed.k ed.pr ed.a ed.s).getD []).length ≤ 100 ∧ ∀ p ∈ (jf2 pz ed.k ed.pr ed.a ed.s).getD [], p.length ≤ 100 := by
     cases hq : jf2 pz ed.k ed.pr ed.a ed.s with
     | none => simp
     | some qs => exact qd4 (jp7 hq).2.1
    obtain ⟨fl, hfl⟩ : ∃ b, (jf2 pz ed.k ed.pr ed.a ed.s).isSome = b := ⟨_, rfl⟩
    obtain ⟨Q, hQ⟩ : ∃ q, (jf2 pz ed.k ed.pr ed.a ed.s).getD [] = q := ⟨_, rfl⟩
    rw [hfl, hQ] at hed
    rw [hQ] at hQl
    clear hfl hQ
    go_at_call 22
    refine hed.mono ?_
    rintro e y2 ⟨x2, us, rfl, ox, b6⟩
    obtain ⟨xa, xn, xc, rfl⟩ := jd4 ox.row
    have D6 : Hid (DK w g A w1.heap.size bs (.slice ua un uc) L y2) := D5.out.step b6
    have GW6 : Hid (w4.grownBy y2 (some g)) := ja8 GW5.out (jb3 b6 _)
    have HP6 : Hid (y2.heap[P]? = some (.cells #[.slice ua un uc] 26 (0, 0))) := (b6.block _ (Array.getElem?_eq_some_iff.1 HP5.out).1).trans HP5.out
    have OX6 : Hid (OwnP y2 (y1.heap.size) y2.heap.size (.slice xa xn xc) Q) := qd7 ox.ownP (by simp) (Nat.le_refl _)
    have HQL : Hid _ := hQl
    have HS6 : Hid (y1.heap.size ≤ y2.heap.size) := by have h := b6.size; show y1.heap.size ≤ y2.heap.size; first | omega | (simp at h; omega)
    clear ox b6 hed hQl rpz hpz hlz
    try go_wp2_with fail
    refine hK.out _ _ (ja6 HP6.out).1 (fun hHl => ?_)
    clear hK K
    try simp only [Act.put, gD, gE, gF]
    refine wpAnyH_take (i := 5) (oi := ?oiataa5) (v := .tuple #[.agg #[.slice xa xn xc], .bool fl]) ?_ (by kernel_rfl) (by kernel_rfl) (by kernel_rfl) ?_ ?_ hHl ?_
    rotate_left
    · simp only [gA, gB, gC]; rfl
    · exact fun _ _ _ h => h
    · exact Or.inl ⟨by kernel_rfl, fun w hSw => by go_simp⟩
    try simp only [Act.put, gD, gE, gF]
    refine wpAnyH_take (i := 6) (oi := ?oiataa6) (v := .agg #[.slice xa xn xc]) ?_ (by kernel_rfl) (by kernel_rfl) (by kernel_rfl) ?_ ?_ hHl ?_
    rotate_left
    · simp only [gA, gB, gC]; rfl
    · exact fun _ _ _ h => h
    · exact Or.inl ⟨by kernel_rfl, fun w hSw => by go_simp⟩
    try simp only [Act.put, gD, gE, gF]
    refine wpAnyH_take (i := 7) (oi := ?oiataa7) (v := .bool fl) ?_ (by kernel_rfl) (by kernel_rfl) (by kernel_rfl) ?_ ?_ hHl ?_
    rotate_left
    · simp only [gA, gB, gC]; rfl
    · exact fun _ _ _ h => h
    · exact Or.inl ⟨by kernel_rfl, fun w hSw => by go_simp⟩
    try simp only [Act.put, gD, gE, gF]
    refine wpAnyH_ready (rs := [8]) (by kernel_rfl) (by simp) (AllReadyH.cons (o := ?ooataa8) ?_ (fun K hK => ?_) AllReadyH.nil)
    rotate_left
    · simp only [gA, gB, gC]; rfl
    go_simp
    try go_wp2_with fail
    have GW6a : Hid (w4.grownBy ((y2).alloc (.cells #[.slice none 0 0] 26)) (some g)) := jf3 GW6.out _
    have D6a : Hid (DK w g A w1.heap.size bs (.slice ua un uc) L ((y2).alloc (.cells #[.slice none 0 0] 26))) := D6.out.step (by go_grown)
    have HP6a : Hid (((y2).alloc (.cells #[.slice none 0 0] 26)).heap[P]? = some (.cells #[.slice ua un uc] 26 (0, 0))) := (ja2 (Array.getElem?_eq_some_iff.1 HP6.out).1).trans HP6.out
    have HX6a : Hid (((y2).alloc (.cells #[.slice none 0 0] 26)).heap[y2.heap.size]? = some (.cells #[.slice none 0 0] 26 (0, 0))) := by have h := heap_alloc_new (y2) (.cells #[.slice none 0 0] 26); exact h
    have OX6a : Hid (OwnP ((y2).alloc (.cells #[.slice none 0 0] 26)) y1.heap.size y2.heap.size (.slice xa xn xc) Q) := ownP_kept OX6.out (by go_grown)
    obtain ⟨cX9, fX9⟩ := ja6 HX6a.out
    refine hK.out _ _ (ja6 HP6a.out).1 (fun hHl => ?_)
    clear hK K
    try simp only [Act.put, gD, gE, gF]
    refine wpAnyH_ready (rs := [9]) (by kernel_rfl) (by simp) (AllReadyH.cons (o := ?ooataa9) ?_ (fun K hK => ?_) AllReadyH.nil)
    rotate_left
    · simp only [gA, gB, gC]; rfl
    go_simp
    try go_wp2_with fail
    refine hK.out _ _ (ja6 ((ja2 (Array.getElem?_eq_some_iff.1 HP6.out).1).trans HP6.out)).1 (fun hHl => ?_)
    clear hK K
    try simp only [Act.put, gD, gE, gF]
    refine wpAnyH_take (i := 10) (oi := ?oiataa10) (v := .bool fl) ?_ (by kernel_rfl) (by kernel_rfl) (by kernel_rfl) ?_ ?_ hHl ?_
    rotate_left
    · simp only [gA, gB, gC]; rfl
    · exact fun _ _ _ h => h
    · exact Or.inl ⟨by kernel_rfl, fun w hSw => by go_simp⟩
    try simp only [Act.put, gD, gE, gF]
    refine wpAnyH_done (by kernel_rfl) ?_ _
    have D7 : Hid (DK w g A w1.heap.size bs (.slice ua un uc) L (y2.alloc (.cells #[.slice xa xn xc] 26))) := D6.out.step (by go_grown)
    have HP7 : Hid ((y2.alloc (.cells #[.slice xa xn xc] 26)).heap[P]? = some (.cells #[.slice ua un uc] 26 (0, 0))) := (ja2 (Array.getElem?_eq_some_iff.1 HP6.out).1).trans HP6.out
    have HX7 : Hid ((y2.alloc (.cells #[.slice xa xn xc] 26)).heap[y2.heap.size]? = some (.cells #[.slice xa xn xc] 26 (0, 0))) := heap_alloc_new y2 _
    have HFT : Hid (Fit A (y2.alloc (.cells #[.slice xa xn xc] 26)) (.slice xa xn xc)) := jy5 (lo := y1.heap.size) (top := y2.heap.size) (ownP_kept OX6.out (by go_grown)) (by have := HG.out; have := HSZ.out; have := HS5.out; omega) HQL.out
    have HBX : Hid (A + 1 < y2.heap.size) := by show A + 1 < y2.heap.size; have := HG.out; have := HSZ.out; have := HS5.out; have := HS6.out; omega
    clear cX9 fX9
    generalize (y2.alloc (.cells #[.slice xa xn xc] 26)) = y3 at *
    generalize y2.heap.size = bX at *
    cases fl with
    | true =>
     obtain ⟨cP7, -⟩ := ja6 HP7.out
     obtain ⟨cX7, -⟩ := ja6 HX7.out
     obtain ⟨ya9, yn9, yc9, hya9⟩ := D7.out.ra
     obtain ⟨yb9, ym9, yd9, hyb9⟩ := D7.out.rb
     obtain ⟨cA9, fA9⟩ := ja6 hya9
     obtain ⟨cB9, fB9⟩ := ja6 hyb9
     have hyB9 : (y3.setCell ⟨A, 0, none⟩ (.slice ua un uc)).heap[A + 1]? = some (.cells #[.slice yb9 ym9 yd9] 26 (0, 0)) := (Below.heap_setCell _ _ _ _ (by simp)).trans hyb9
     obtain ⟨cC9, fC9⟩ := ja6 hyB9
     clear hya9 hyb9 hyB9
     go_wp2_with fail
     refine wp_region_held_drew (S := fun X => X.cell? ⟨P, 0, none⟩ = some (.slice ua un uc) ∧ X.cell? ⟨bX, 0, none⟩ = some (.slice xa xn xc)) (by kernel_rfl) ⟨cP7, cX7⟩ (fun hHl => ?_)
     refine wpAnyH_take (i := 0) (oi := ?oip1t0) (v := .agg #[.slice ua un uc]) ?_ (by kernel_rfl) (by kernel_rfl) (by kernel_rfl) ?_ ?_ hHl ?_
     rotate_left
     · simp only [gA, gB, gC]; rfl
     · exact fun _ _ _ h => h
     · exact Or.inl ⟨by kernel_rfl, fun w hSw => by obtain ⟨s0, s1⟩ := hSw; go_simp⟩
     try simp only [Act.put, gD, gE, gF]
     refine wpAnyH_take (i := 1) (oi := ?oip1t1) (v := .agg #[.slice xa xn xc]) ?_ (by kernel_rfl) (by kernel_rfl) (by kernel_rfl) ?_ ?_ hHl ?_
     rotate_left
     · simp only [gA, gB, gC]; rfl
     · exact fun _ _ _ h => h
     · exact Or.inl ⟨by kernel_rfl, fun w hSw => by obtain ⟨s0, s1⟩ := hSw; go_simp⟩
     try simp only [Act.put, gD, gE, gF]
     refine wpAnyH_ready (rs := [2]) (by kernel_rfl) (by simp) (AllReadyH.cons (o := ?oop1t2) ?_ (fun K hK => ?_) AllReadyH.nil)
     rotate_left
     · simp only [gA, gB, gC]; rfl
     go_simp
     try go_wp2_with fail
     refine hK.out _ _ ⟨(ja6 ((Below.heap_setCell y3 ⟨A, 0, none⟩ _ P (by have := HG.out; have := HGP.out; have := HBX.out; simp; omega)).trans HP7.out)).1, (ja6 ((Below.heap_setCell y3 ⟨A, 0, none⟩ _ bX (by have := HG.out; have := HGP.out; have := HBX.out; simp; omega)).trans HX7.out)).1⟩ (fun hHl => ?_)
     clear hK K
     try simp only [Act.put, gD, gE, gF]
     refine wpAnyH_ready (rs := [3]) (by kernel_rfl) (by simp) (AllReadyH.cons (o := ?oop1t3) ?_ (fun K hK => ?_) AllReadyH.nil)
     rotate_left
     · simp only [gA, gB, gC]; rfl
     go_simp
     try go_wp2_with fail
     refine hK.out _ _ ⟨(ja6 ((Below.heap_setCell _ ⟨A + 1, 0, none⟩ _ P (by have := HG.out; have := HGP.out; have := HBX.out; simp; omega)).trans ((Below.heap_setCell y3 ⟨A, 0, none⟩ _ P (by have := HG.out; have := HGP.out; have := HBX.out; simp; omega)).trans HP7.out))).1, (ja6 ((Below.heap_setCell _ ⟨A + 1, 0, none⟩ _ bX (by have := HG.out; have := HGP.out; have := HBX.out; simp; omega)).trans ((Below.heap_setCell y3 ⟨A, 0, none⟩ _ bX (by have := HG.out; have := HGP.out; have := HBX.out; simp; omega)).trans HX7.out))).1⟩ (fun hHl => ?_)
     clear hK K
     try simp only [Act.put, gD, gE, gF]
     refine wpAnyH_done (by kernel_rfl) ?_ _
     have HZ := jk0 (xa := xa) (xn := xn) (xc := xc) rfl D7.out (by have := HG.out; omega) HG.out.1 HG.out.2.1
     simp only at HZ
     obtain ⟨DZ, dA, dB⟩ := HZ
     obtain ⟨ps9, rp9, hp9⟩ := DZ.pr.reads
     have HL9 : Hid _ := je1 hp9 h5 h14
     have HR9 : Hid _ := rp9
     have HB9 : Hid _ := DZ.bel
     obtain ⟨qs9, rq9, hq9⟩ := HFT.out ua un uc xa xn xc
     have HQ9 : Hid _ := rq9
     have HM9 : Hid _ := hq9
     clear rq9 hq9
     clear DZ rp9 hp9
     go_wp2_with fail
     refine bodyPost_ret (v := .tuple #[.agg #[.slice ua un uc], .agg #[.slice xa xn xc]]) (by simp [results, Tryz.results5, go_sem, dA, dB]) rfl ?_
     exact ⟨_, _, ps9, qs9, rfl, HR9.out, HQ9.out, HL9.out, HM9.out, Below.drew HB9.out⟩
    | false =>
     obtain ⟨cP7, -⟩ := ja6 HP7.out
     go_wp2_with fail
     refine wp_region_held_drew (S := fun X => X.cell? ⟨P, 0, none⟩ = some (.slice ua un uc)) (by kernel_rfl) cP7 (fun hHl => ?_)
     refine wpAnyH_take (i := 0) (oi := ?oip1f0) (v := .agg #[.slice ua un uc]) ?_ (by kernel_rfl) (by kernel_rfl) (by kernel_rfl) ?_ ?_ hHl ?_
     rotate_left
     · simp only [gA, gB, gC]; rfl
     · exact fun _ _ _ h => h
     · exact Or.inl ⟨by kernel_rfl, fun w hSw => by go_simp⟩
     try simp only [Act.put, gD, gE, gF]
     refine wpAnyH_take (i := 1) (oi := ?oip1f1) (v := .agg #[.slice ua un uc]) ?_ (by kernel_rfl) (by kernel_rfl) (by kernel_rfl) ?_ ?_ hHl ?_
     rotate_left
     · simp only [gA, gB, gC]; rfl
     · exact fun _ _ _ h => h
     · exact Or.inl ⟨by kernel_rfl, fun w hSw => by go_simp⟩
     try simp only [Act.put, gD, gE, gF]
     refine wpAnyH_ready (rs := [2]) (by kernel_rfl) (by simp) (AllReadyH.cons (o := ?oop1f2) ?_ (fun K hK => ?_) AllReadyH.nil)
     rotate_left
     · simp only [gA, gB, gC]; rfl
     go_simp
     obtain ⟨pz, rpz, hpz⟩ := (D7.out.step (Below.drew (Below.refl _ _))).pr.reads
     have hlz := je1 hpz h5 h14
     go_at_call 24
     refine (closure2 pz (.slice ua un uc) y3.drew hlz.1 hlz.2 rpz).mono ?_
     rintro e y8 ⟨x8, q8, rfl, ho8, hq8, b8⟩
     have D8 : Hid (DK w g A w1.heap.size bs (.slice ua un uc) L y8) := (D7.out.step (Below.drew (Below.refl _ _))).step b8
     have HP8 : Hid (y8.heap[P]? = some (.cells #[.slice ua un uc] 26 (0, 0))) := (b8.block _ (show P < y3.drew.heap.size from (Array.getElem?_eq_some_iff.1 HP7.out).1)).trans HP7.out
     have HF8 : Hid (Fit A y8 x8) := by
      show Fit A y8 x8
      rcases ho8 with ⟨rfl, rfl⟩ | ⟨lo8, hlo8, o8⟩
      · exact fit_pr D8.out.pr (by have := HG.out; omega) h5 h14
      · exact jy5 o8 (by have h1 := HG.out; have h2 := (Array.getElem?_eq_some_iff.1 HX7.out).1; have h3 := HBX.out; have h4 : y3.heap.size ≤ lo8 := hlo8; omega) hq8
     obtain ⟨za, zn, zc, hzz⟩ : ∃ a n c, x8 = .slice a n c := by
      rcases ho8 with ⟨rfl, rfl⟩ | ⟨lo8, hlo8, o8⟩
      · exact ⟨_, _, _, rfl⟩
      · exact jx7 o8
     subst hzz
     clear ho8 b8 rpz hpz hlz
     obtain ⟨ya9, yn9, yc9, hya9⟩ := D8.out.ra
     obtain ⟨yb9, ym9, yd9, hyb9⟩ := D8.out.rb
     obtain ⟨cA9, fA9⟩ := ja6 hya9
     obtain ⟨cB9, fB9⟩ := ja6 hyb9
     have hyB9 : (y8.setCell ⟨A, 0, none⟩ (.slice ua un uc)).heap[A + 1]? = some (.cells #[.slice yb9 ym9 yd9] 26 (0, 0)) := (Below.heap_setCell _ _ _ _ (by simp)).trans hyb9
     obtain ⟨cC9, fC9⟩ := ja6 hyB9
     clear hya9 hyb9 hyB9
     try go_wp2_with fail
     refine hK.out _ _ (ja6 HP8.out).1 (fun hHl => ?_)
     clear hK K
     try simp only [Act.put, gD, gE, gF]
     refine wpAnyH_ready (rs := [3]) (by kernel_rfl) (by simp) (AllReadyH.cons (o := ?oop1f3) ?_ (fun K hK => ?_) AllReadyH.nil)
     rotate_left
     · simp only [gA, gB, gC]; rfl
     go_simp
     try go_wp2_with fail
     refine hK.out _ _ (ja6 ((Below.heap_setCell y8 ⟨A, 0, none⟩ _ P (by have := HG.out; have := HGP.out; have := HBX.out; simp; omega)).trans HP8.out)).1 (fun hHl => ?_)
     clear hK K
     try simp only [Act.put, gD, gE, gF]
     refine wpAnyH_ready (rs := [4]) (by kernel_rfl) (by simp) (AllReadyH.cons (o := ?oop1f4) ?_ (fun K hK => ?_) AllReadyH.nil)
     rotate_left
     · simp only [gA, gB, gC]; rfl
     go_simp
     try go_wp2_with fail
     refine hK.out _ _ (ja6 ((Below.heap_setCell _ ⟨A + 1, 0, none⟩ _ P (by have := HG.out; have := HGP.out; have := HBX.out; simp; omega)).trans ((Below.heap_setCell y8 ⟨A, 0, none⟩ _ P (by have := HG.out; have := HGP.out; have := HBX.out; simp; omega)).trans HP8.out))).1 (fun hHl => ?_)
     clear hK K
     try simp only [Act.put, gD, gE, gF]
     refine wpAnyH_done (by kernel_rfl) ?_ _
     have HZ := jk0 (xa := za) (xn := zn) (xc := zc) rfl D8.out (by have := HG.out; omega) HG.out.1 HG.out.2.1
     simp only at HZ
     obtain ⟨DZ, dA, dB⟩ := HZ
     obtain ⟨ps9, rp9, hp9⟩ := DZ.pr.reads
     have HL9 : Hid _ := je1 hp9 h5 h14
     have HR9 : Hid _ := rp9
     have HB9 : Hid _ := DZ.bel
     obtain ⟨qs9, rq9, hq9⟩ := HF8.out ua un uc za zn zc
     have HQ9 : Hid _ := rq9
     have HM9 : Hid _ := hq9
     clear rq9 hq9
     clear DZ rp9 hp9
     go_wp2_with fail
     refine bodyPost_ret (v := .tuple #[.agg #[.slice ua un uc], .agg #[.slice za zn zc]]) (by simp [results, Tryz.results5, go_sem, dA, dB]) rfl ?_
     exact ⟨_, _, ps9, qs9, rfl, HR9.out, HQ9.out, HL9.out, HM9.out, HB9.out⟩
   case hkata8 =>
    go_simp
    try go_wp2_with fail
    have GW5a : Hid (w4.grownBy ((y1).alloc (.cells #[.slice none 0 0] 26)) (some g)) := jf3 GW5.out _
    have D5a : Hid (DK w g A w1.heap.size bs (.slice ua un uc) L ((y1).alloc (.cells #[.slice none 0 0] 26))) := D5.out.step (by go_grown)
    have HP5a : Hid (((y1).alloc (.cells #[.slice none 0 0] 26)).heap[P]? = some (.cells #[.slice ua un uc] 26 (0, 0))) := (ja2 (Array.getElem?_eq_some_iff.1 HP5.out).1).trans HP5.out
    have HX5a : Hid (((y1).alloc (.cells #[.slice none 0 0] 26)).heap[y1.heap.size]? = some (.cells #[.slice none 0 0] 26 (0, 0))) := by have h := heap_alloc_new (y1) (.cells #[.slice none 0 0] 26); exact h
    refine hK.out _ _ (ja6 HP5a.out).1 (fun hHl => ?_)
    clear hK K
    try simp only [Act.put, gD, gE, gF]
    refine wpAnyH_ready (rs := [4]) (by kernel_rfl) (by simp) (AllReadyH.cons (o := ?ooatab4) ?_ (fun K hK => ?_) AllReadyH.nil)
    rotate_left
    · simp only [gA, gB, gC]; rfl
    go_simp
    obtain ⟨pz, rpz, hpz⟩ := D5a.out.pr.reads
    have hlz := je1 hpz h5 h14
    have hed := jy4 pz ed (.slice ua un uc) ((y1).alloc (.cells #[.slice none 0 0] 26)) (by unfold maxLen; have := hlz.1; omega) (fun p hp => by have := hlz.2 p hp; unfold maxLen; omega) rpz
    have hQl : ((jf2 pz ed.k ed.pr ed.a ed.s).getD []).length ≤ 100 ∧ ∀ p ∈ (jf2 pz ed.k ed.pr ed.a ed.s).getD [], p.length ≤ 100 := by
     cases hq : jf2 pz ed.k ed.pr ed.a ed.s with
     | none => simp
     | some qs => exact qd4 (jp7 hq).2.1
    obtain ⟨fl, hfl⟩ : ∃ b, (jf2 pz ed.k ed.pr ed.a ed.s).isSome = b := ⟨_, rfl⟩
    obtain ⟨Q, hQ⟩ : ∃ q, (jf2 pz ed.k ed.pr ed.a ed.s).getD [] = q := ⟨_, rfl⟩
    rw [hfl, hQ] at hed
    rw [hQ] at hQl
    clear hfl hQ
    go_at_call 22
    refine hed.mono ?_
    rintro e y2 ⟨x2, us, rfl, ox, b6⟩
    obtain ⟨xa, xn, xc, rfl⟩ := jd4 ox.row
    have D6 : Hid (DK w g A w1.heap.size bs (.slice ua un uc) L y2) := D5a.out.step b6
    have GW6 : Hid (w4.grownBy y2 (some g)) := ja8 GW5a.out (jb3 b6 _)
    have HP6 : Hid (y2.heap[P]? = some (.cells #[.slice ua un uc] 26 (0, 0))) := (b6.block _ (Array.getElem?_eq_some_iff.1 HP5a.out).1).trans HP5a.out
    have OX6 : Hid (OwnP y2 (y1.heap.size + 1) y2.heap.size (.slice xa xn xc) Q) := qd7 ox.ownP (by simp) (Nat.le_refl _)
    have HQL : Hid _ := hQl
    have HS6 : Hid (y1.heap.size ≤ y2.heap.size) := by have h := b6.size; show y1.heap.size ≤ y2.heap.size; first | omega | (simp at h; omega)
    have HX6 : Hid (y2.heap[y1.heap.size]? = some (.cells #[.slice none 0 0] 26 (0, 0))) := (b6.block _ (Array.getElem?_eq_some_iff.1 HX5a.out).1).trans HX5a.out
    clear ox b6 hed hQl rpz hpz hlz
    try go_wp2_with fail
    obtain ⟨cX9, fX9⟩ := ja6 HX6.out
    refine hK.out _ _ (ja6 HP6.out).1 (fun hHl => ?_)
    clear hK K
    try simp only [Act.put, gD, gE, gF]
    refine wpAnyH_take (i := 5) (oi := ?oiatab5) (v := .tuple #[.agg #[.slice xa xn xc], .bool fl]) ?_ (by kernel_rfl) (by kernel_rfl) (by kernel_rfl) ?_ ?_ hHl ?_
    rotate_left
    · simp only [gA, gB, gC]; rfl
    · exact fun _ _ _ h => h
    · exact Or.inl ⟨by kernel_rfl, fun w hSw => by go_simp⟩
    try simp only [Act.put, gD, gE, gF]
    refine wpAnyH_take (i := 6) (oi := ?oiatab6) (v := .agg #[.slice xa xn xc]) ?_ (by kernel_rfl) (by kernel_rfl) (by kernel_rfl) ?_ ?_ hHl ?_
    rotate_left
    · simp only [gA, gB, gC]; rfl
    · exact fun _ _ _ h => h
    · exact Or.inl ⟨by kernel_rfl, fun w hSw => by go_simp⟩
    try simp only [Act.put, gD, gE, gF]
    refine wpAnyH_take (i := 7) (oi := ?oiatab7) (v := .bool fl) ?_ (by kernel_rfl) (by kernel_rfl) (by kernel_rfl) ?_ ?_ hHl ?_
    rotate_left
    · simp only [gA, gB, gC]; rfl
    · exact fun _ _ _ h => h
    · exact Or.inl ⟨by kernel_rfl, fun w hSw => by go_simp⟩
    try simp only [Act.put, gD, gE, gF]
    refine wpAnyH_ready (rs := [9]) (by kernel_rfl) (by simp) (AllReadyH.cons (o := ?ooatab9) ?_ (fun K hK => ?_) AllReadyH.nil)
    rotate_left
    · simp only [gA, gB, gC]; rfl
    go_simp
    try go_wp2_with fail
    refine hK.out _ _ (ja6 ((Below.heap_setCell (y2) ⟨y1.heap.size, 0, none⟩ _ P (by have := HSP.out; have := HSZ.out; have := HS5.out; have := HS6.out; simp; omega)).trans HP6.out)).1 (fun hHl => ?_)
    clear hK K
    try simp only [Act.put, gD, gE, gF]
    refine wpAnyH_take (i := 10) (oi := ?oiatab10) (v := .bool fl) ?_ (by kernel_rfl) (by kernel_rfl) (by kernel_rfl) ?_ ?_ hHl ?_
    rotate_left
    · simp only [gA, gB, gC]; rfl
    · exact fun _ _ _ h => h
    · exact Or.inl ⟨by kernel_rfl, fun w hSw => by go_simp⟩
    try simp only [Act.put, gD, gE, gF]
    refine wpAnyH_done (by kernel_rfl) ?_ _
    have D7 : Hid (DK w g A w1.heap.size bs (.slice ua un uc) L ((y2).setCell ⟨y1.heap.size, 0, none⟩ (.slice xa xn xc))) := D4.out.draw (by have := HG.out; omega) HG.out.1 HG.out.2.1 (jc6 D6.out.cur (by have := HG.out; have := HSZ.out; have := HS5.out; have := HS6.out; omega) _) (jb6 GW6.out (by have := HS5.out; have := HS6.out; omega) _)
    have HP7 : Hid (((y2).setCell ⟨y1.heap.size, 0, none⟩ (.slice xa xn xc)).heap[P]? = some (.cells #[.slice ua un uc] 26 (0, 0))) := (Below.heap_setCell _ _ _ _ (by have := HSP.out; have := HSZ.out; have := HS5.out; have := HS6.out; simp; omega)).trans HP6.out
    have HX7 : Hid (((y2).setCell ⟨y1.heap.size, 0, none⟩ (.slice xa xn xc)).heap[y1.heap.size]? = some (.cells #[.slice xa xn xc] 26 (0, 0))) := js2 HX6.out _
    have HFT : Hid (Fit A ((y2).setCell ⟨y1.heap.size, 0, none⟩ (.slice xa xn xc)) (.slice xa xn xc)) := jy5 (lo := y1.heap.size + 1) (top := y2.heap.size) (jp6 OX6.out (.inl (by simp)) _) (by have := HG.out; have := HSZ.out; have := HS5.out; omega) HQL.out
    have HBX : Hid (A + 1 < y1.heap.size) := by show A + 1 < y1.heap.size; have := HG.out; have := HSZ.out; have := HS5.out; have := HS6.out; omega
    clear cX9 fX9
    generalize ((y2).setCell ⟨y1.heap.size, 0, none⟩ (.slice xa xn xc)) = y3 at *
    generalize y1.heap.size = bX at *
    cases fl with
    | true =>
     obtain ⟨cP7, -⟩ := ja6 HP7.out
     obtain ⟨cX7, -⟩ := ja6 HX7.out
     obtain ⟨ya9, yn9, yc9, hya9⟩ := D7.out.ra
     obtain ⟨yb9, ym9, yd9, hyb9⟩ := D7.out.rb
     obtain ⟨cA9, fA9⟩ := ja6 hya9
     obtain ⟨cB9, fB9⟩ := ja6 hyb9
     have hyB9 : (y3.setCell ⟨A, 0, none⟩ (.slice ua un uc)).heap[A + 1]? = some (.cells #[.slice yb9 ym9 yd9] 26 (0, 0)) := (Below.heap_setCell _ _ _ _ (by simp)).trans hyb9
     obtain ⟨cC9, fC9⟩ := ja6 hyB9
     clear hya9 hyb9 hyB9
     go_wp2_with fail
     refine wp_region_held_drew (S := fun X => X.cell? ⟨P, 0, none⟩ = some (.slice ua un uc) ∧ X.cell? ⟨bX, 0, none⟩ = some (.slice xa xn xc)) (by kernel_rfl) ⟨cP7, cX7⟩ (fun hHl => ?_)
     refine wpAnyH_take (i := 0) (oi := ?oip2t0) (v := .agg #[.slice ua un uc]) ?_ (by kernel_rfl) (by kernel_rfl) (by kernel_rfl) ?_ ?_ hHl ?_
     rotate_left
     · simp only [gA, gB, gC]; rfl
     · exact fun _ _ _ h => h
     · exact Or.inl ⟨by kernel_rfl, fun w hSw => by obtain ⟨s0, s1⟩ := hSw; go_simp⟩
     try simp only [Act.put, gD, gE, gF]
     refine wpAnyH_take (i := 1) (oi := ?oip2t1) (v := .agg #[.slice xa xn xc]) ?_ (by kernel_rfl) (by kernel_rfl) (by kernel_rfl) ?_ ?_ hHl ?_
     rotate_left
     · simp only [gA, gB, gC]; rfl
     · exact fun _ _ _ h => h
     · exact Or.inl ⟨by kernel_rfl, fun w hSw => by obtain ⟨s0, s1⟩ := hSw; go_simp⟩
     try simp only [Act.put, gD, gE, gF]
     refine wpAnyH_ready (rs := [2]) (by kernel_rfl) (by simp) (AllReadyH.cons (o := ?oop2t2) ?_ (fun K hK => ?_) AllReadyH.nil)
     rotate_left
     · simp only [gA, gB, gC]; rfl
     go_simp
     try go_wp2_with fail
     refine hK.out _ _ ⟨(ja6 ((Below.heap_setCell y3 ⟨A, 0, none⟩ _ P (by have := HG.out; have := HGP.out; have := HBX.out; simp; omega)).trans HP7.out)).1, (ja6 ((Below.heap_setCell y3 ⟨A, 0, none⟩ _ bX (by have := HG.out; have := HGP.out; have := HBX.out; simp; omega)).trans HX7.out)).1⟩ (fun hHl => ?_)
     clear hK K
     try simp only [Act.put, gD, gE, gF]
     refine wpAnyH_ready (rs := [3]) (by kernel_rfl) (by simp) (AllReadyH.cons (o := ?oop2t3) ?_ (fun K hK => ?_) AllReadyH.nil)
     rotate_left
     · simp only [gA, gB, gC]; rfl
     go_simp
     try go_wp2_with fail
     refine hK.out _ _ ⟨(ja6 ((Below.heap_setCell _ ⟨A + 1, 0, none⟩ _ P (by have := HG.out; have := HGP.out; have := HBX.out; simp; omega)).trans ((Below.heap_setCell y3 ⟨A, 0, none⟩ _ P (by have := HG.out; have := HGP.out; have := HBX.out; simp; omega)).trans HP7.out))).1, (ja6 ((Below.heap_setCell _ ⟨A + 1, 0, none⟩ _ bX (by have := HG.out; have := HGP.out; have := HBX.out; simp; omega)).trans ((Below.heap_setCell y3 ⟨A, 0, none⟩ _ bX (by have := HG.out; have := HGP.out; have := HBX.out; simp; omega)).trans HX7.out))).1⟩ (fun hHl => ?_)
     clear hK K
     try simp only [Act.put, gD, gE, gF]
     refine wpAnyH_done (by kernel_rfl) ?_ _
     have HZ := jk0 (xa := xa) (xn := xn) (xc := xc) rfl D7.out (by have := HG.out; omega) HG.out.1 HG.out.2.1
     simp only at HZ
     obtain ⟨DZ, dA, dB⟩ := HZ
     obtain ⟨ps9, rp9, hp9⟩ := DZ.pr.reads
     have HL9 : Hid _ := je1 hp9 h5 h14
     have HR9 : Hid _ := rp9
     have HB9 : Hid _ := DZ.bel
     obtain ⟨qs9, rq9, hq9⟩ := HFT.out ua un uc xa xn xc
     have HQ9 : Hid _ := rq9
     have HM9 : Hid _ := hq9
     clear rq9 hq9
     clear DZ rp9 hp9
     go_wp2_with fail
     refine bodyPost_ret (v := .tuple #[.agg #[.slice ua un uc], .agg #[.slice xa xn xc]]) (by simp [results, Tryz.results5, go_sem, dA, dB]) rfl ?_
     exact ⟨_, _, ps9, qs9, rfl, HR9.out, HQ9.out, HL9.out, HM9.out, Below.drew HB9.out⟩
    | false =>
     obtain ⟨cP7, -⟩ := ja6 HP7.out
     go_wp2_with fail
     refine wp_region_held_drew (S := fun X => X.cell? ⟨P, 0, none⟩ = some (.slice ua un uc)) (by kernel_rfl) cP7 (fun hHl => ?_)
     refine wpAnyH_take (i := 0) (oi := ?oip2f0) (v := .agg #[.slice ua un uc]) ?_ (by kernel_rfl) (by kernel_rfl) (by kernel_rfl) ?_ ?_ hHl ?_
     rotate_left
     · simp only [gA, gB, gC]; rfl
     · exact fun _ _ _ h => h
     · exact Or.inl ⟨by kernel_rfl, fun w hSw => by go_simp⟩
     try simp only [Act.put, gD, gE, gF]
     refine wpAnyH_take (i := 1) (oi := ?oip2f1) (v := .agg #[.slice ua un uc]) ?_ (by kernel_rfl) (by kernel_rfl) (by kernel_rfl) ?_ ?_ hHl ?_
     rotate_left
     · simp only [gA, gB, gC]; rfl
     · exact fun _ _ _ h => h
     · exact Or.inl ⟨by kernel_rfl, fun w hSw => by go_simp⟩
     try simp only [Act.put, gD, gE, gF]
     refine wpAnyH_ready (rs := [2]) (by kernel_rfl) (by simp) (AllReadyH.cons (o := ?oop2f2) ?_ (fun K hK => ?_) AllReadyH.nil)
     rotate_left
     · simp only [gA, gB, gC]; rfl
     go_simp
     obtain ⟨pz, rpz, hpz⟩ := (D7.out.step (Below.drew (Below.refl _ _))).pr.reads
     have hlz := je1 hpz h5 h14
     go_at_call 24
     refine (closure2 pz (.slice ua un uc) y3.drew hlz.1 hlz.2 rpz).mono ?_
     rintro e y8 ⟨x8, q8, rfl, ho8, hq8, b8⟩
     have D8 : Hid (DK w g A w1.heap.size bs (.slice ua un uc) L y8) := (D7.out.step (Below.drew (Below.refl _ _))).step b8
     have HP8 : Hid (y8.heap[P]? = some (.cells #[.slice ua un uc] 26 (0, 0))) := (b8.block _ (show P < y3.drew.heap.size from (Array.getElem?_eq_some_iff.1 HP7.out).1)).trans HP7.out
     have HF8 : Hid (Fit A y8 x8) := by
      show Fit A y8 x8
      rcases ho8 with ⟨rfl, rfl⟩ | ⟨lo8, hlo8, o8⟩
      · exact fit_pr D8.out.pr (by have := HG.out; omega) h5 h14
      · exact jy5 o8 (by have h1 := HG.out; have h2 := (Array.getElem?_eq_some_iff.1 HX7.out).1; have h3 := HBX.out; have h4 : y3.heap.size ≤ lo8 := hlo8; omega) hq8
     obtain ⟨za, zn, zc, hzz⟩ : ∃ a n c, x8 = .slice a n c := by
      rcases ho8 with ⟨rfl, rfl⟩ | ⟨lo8, hlo8, o8⟩
      · exact ⟨_, _, _, rfl⟩
      · exact jx7 o8
     subst hzz
     clear ho8 b8 rpz hpz hlz
     obtain ⟨ya9, yn9, yc9, hya9⟩ := D8.out.ra
     obtain ⟨yb9, ym9, yd9, hyb9⟩ := D8.out.rb
     obtain ⟨cA9, fA9⟩ := ja6 hya9
     obtain ⟨cB9, fB9⟩ := ja6 hyb9
     have hyB9 : (y8.setCell ⟨A, 0, none⟩ (.slice ua un uc)).heap[A + 1]? = some (.cells #[.slice yb9 ym9 yd9] 26 (0, 0)) := (Below.heap_setCell _ _ _ _ (by simp)).trans hyb9
     obtain ⟨cC9, fC9⟩ := ja6 hyB9
     clear hya9 hyb9 hyB9
     try go_wp2_with fail
     refine hK.out _ _ (ja6 HP8.out).1 (fun hHl => ?_)
     clear hK K
     try simp only [Act.put, gD, gE, gF]
     refine wpAnyH_ready (rs := [3]) (by kernel_rfl) (by simp) (AllReadyH.cons (o := ?oop2f3) ?_ (fun K hK => ?_) AllReadyH.nil)
     rotate_left
     · simp only [gA, gB, gC]; rfl
     go_simp
     try go_wp2_with fail
     refine hK.out _ _ (ja6 ((Below.heap_setCell y8 ⟨A, 0, none⟩ _ P (by have := HG.out; have := HGP.out; have := HBX.out; simp; omega)).trans HP8.out)).1 (fun hHl => ?_)
     clear hK K
     try simp only [Act.put, gD, gE, gF]
     refine wpAnyH_ready (rs := [4]) (by kernel_rfl) (by simp) (AllReadyH.cons (o := ?oop2f4) ?_ (fun K hK => ?_) AllReadyH.nil)
     rotate_left
     · simp only [gA, gB, gC]; rfl
     go_simp
     try go_wp2_with fail
     refine hK.out _ _ (ja6 ((Below.heap_setCell _ ⟨A + 1, 0, none⟩ _ P (by have := HG.out; have := HGP.out; have := HBX.out; simp; omega)).trans ((Below.heap_setCell y8 ⟨A, 0, none⟩ _ P (by have := HG.out; have := HGP.out; have := HBX.out; simp; omega)).trans HP8.out))).1 (fun hHl => ?_)
     clear hK K
     try simp only [Act.put, gD, gE, gF]
     refine wpAnyH_done (by kernel_rfl) ?_ _
     have HZ := jk0 (xa := za) (xn := zn) (xc := zc) rfl D8.out (by have := HG.out; omega) HG.out.1 HG.out.2.1
     simp only at HZ
     obtain ⟨DZ, dA, dB⟩ := HZ
     obtain ⟨ps9, rp9, hp9⟩ := DZ.pr.reads
     have HL9 : Hid _ := je1 hp9 h5 h14
     have HR9 : Hid _ := rp9
     have HB9 : Hid _ := DZ.bel
     obtain ⟨qs9, rq9, hq9⟩ := HF8.out ua un uc za zn zc
     have HQ9 : Hid _ := rq9
     have HM9 : Hid _ := hq9
     clear rq9 hq9
     clear DZ rp9 hp9
     go_wp2_with fail
     refine bodyPost_ret (v := .tuple #[.agg #[.slice ua un uc], .agg #[.slice za zn zc]]) (by simp [results, Tryz.results5, go_sem, dA, dB]) rfl ?_
     exact ⟨_, _, ps9, qs9, rfl, HR9.out, HQ9.out, HL9.out, HM9.out, HB9.out⟩
  case hkat8 =>
   go_simp
   try go_wp2_with fail
   have GW4a : Hid (w4.grownBy ((w4.drew).alloc (.cells #[.slice none 0 0] 26)) (some g)) := jf3 GW0.out _
   have D4a : Hid (DK w g A w1.heap.size bs (.slice ua un uc) L ((w4.drew).alloc (.cells #[.slice none 0 0] 26))) := D4d.out.step (by go_grown)
   have HP4a : Hid (((w4.drew).alloc (.cells #[.slice none 0 0] 26)).heap[P]? = some (.cells #[.slice ua un uc] 26 (0, 0))) := (ja2 (Array.getElem?_eq_some_iff.1 HP4d.out).1).trans HP4d.out
   have HX4a : Hid (((w4.drew).alloc (.cells #[.slice none 0 0] 26)).heap[w4.heap.size]? = some (.cells #[.slice none 0 0] 26 (0, 0))) := by have h := heap_alloc_new (w4.drew) (.cells #[.slice none 0 0] 26); exact h
   refine hK.out _ _ (ja6 HP4a.out).1 (fun hHl => ?_)
   clear hK K
   try simp only [Act.put, gD, gE, gF]
   refine wpAnyH_ready (rs := [3]) (by kernel_rfl) (by simp) (AllReadyH.cons (o := ?ooatb3) ?_ (fun K hK => ?_) AllReadyH.nil)
   rotate_left
   · simp only [gA, gB, gC]; rfl
   go_simp
   go_at_call 23
   refine (l13Draw g bs ua un uc ((w4.drew).alloc (.cells #[.slice none 0 0] 26)) hun hl D4a.out.cur).mono ?_
   rintro e y1 ⟨ed, rfl, hc5, hg5⟩
   have D5 : Hid (DK w g A w1.heap.size bs (.slice ua un uc) L y1) := D4a.out.draw (by have := HG.out; omega) HG.out.1 HG.out.2.1 hc5 hg5
   have GW5 : Hid (w4.grownBy y1 (some g)) := ja8 GW4a.out hg5
   have HP5 : Hid (y1.heap[P]? = some (.cells #[.slice ua un uc] 26 (0, 0))) := jb4 HP4a.out hg5 HGP.out
   have HS5 : Hid (w4.heap.size ≤ y1.heap.size) := by have h := hg5.size; show w4.heap.size ≤ y1.heap.size; first | omega | (simp at h; omega)
   have HX5 : Hid (y1.heap[w4.heap.size]? = some (.cells #[.slice none 0 0] 26 (0, 0))) := jb4 HX4a.out hg5 (by have := HG.out; have := HSZ.out; omega)
   clear hc5 hg5
   try go_wp2_with fail
   refine hK.out _ _ (ja6 HP5.out).1 (fun hHl => ?_)
   clear hK K
   try simp only [Act.put, gD, gE, gF]
   refine wpAnyH_ready (rs := [4]) (by kernel_rfl) (by simp) (AllReadyH.cons (o := ?ooatb4) ?_ (fun K hK => ?_) AllReadyH.nil)
   rotate_left
   · simp only [gA, gB, gC]; rfl
   go_simp
   obtain ⟨pz, rpz, hpz⟩ := D5.out.pr.reads
   have hlz := je1 hpz h5 h14
   have hed := jy4 pz ed (.slice ua un uc) (y1) (by unfold maxLen; have := hlz.1; omega) (fun p hp => by have := hlz.2 p hp; unfold maxLen; omega) rpz
   have hQl : ((jf2 pz ed.k ed.pr ed.a ed.s).getD []).length ≤ 100 ∧ ∀ p ∈ (jf2 pz ed.k ed.pr ed.a ed.s).getD [], p.length ≤ 100 := by
    cases hq : jf2 pz ed.k ed.pr ed.a ed.s with
    | none => simp
    | some qs => exact qd4 (jp7 hq).2.1
   obtain ⟨fl, hfl⟩ : ∃ b, (jf2 pz ed.k ed.pr ed.a ed.s).isSome = b := ⟨_, rfl⟩
   obtain ⟨Q, hQ⟩ : ∃ q, (jf2 pz ed.k ed.pr ed.a ed.s).getD [] = q := ⟨_, rfl⟩
   rw [hfl, hQ] at hed
   rw [hQ] at hQl
   clear hfl hQ
   go_at_call 22
   refine hed.mono ?_
   rintro e y2 ⟨x2, us, rfl, ox, b6⟩
   obtain ⟨xa, xn, xc, rfl⟩ := jd4 ox.row
   have D6 : Hid (DK w g A w1.heap.size bs (.slice ua un uc) L y2) := D5.out.step b6
   have GW6 : Hid (w4.grownBy y2 (some g)) := ja8 GW5.out (jb3 b6 _)
   have HP6 : Hid (y2.heap[P]? = some (.cells #[.slice ua un uc] 26 (0, 0))) := (b6.block _ (Array.getElem?_eq_some_iff.1 HP5.out).1).trans HP5.out
   have OX6 : Hid (OwnP y2 (y1.heap.size) y2.heap.size (.slice xa xn xc) Q) := qd7 ox.ownP (by simp) (Nat.le_refl _)
   have HQL : Hid _ := hQl
   have HS6 : Hid (y1.heap.size ≤ y2.heap.size) := by have h := b6.size; show y1.heap.size ≤ y2.heap.size; first | omega | (simp at h; omega)
   have HX6 : Hid (y2.heap[w4.heap.size]? = some (.cells #[.slice none 0 0] 26 (0, 0))) := (b6.block _ (Array.getElem?_eq_some_iff.1 HX5.out).1).trans HX5.out
   clear ox b6 hed hQl rpz hpz hlz
   try go_wp2_with fail
   obtain ⟨cX9, fX9⟩ := ja6 HX6.out
   refine hK.out _ _ (ja6 HP6.out).1 (fun hHl => ?_)
   clear hK K
   try simp only [Act.put, gD, gE, gF]
   refine wpAnyH_take (i := 5) (oi := ?oiatb5) (v := .tuple #[.agg #[.slice xa xn xc], .bool fl]) ?_ (by kernel_rfl) (by kernel_rfl) (by kernel_rfl) ?_ ?_ hHl ?_
   rotate_left
   · simp only [gA, gB, gC]; rfl
   · exact fun _ _ _ h => h
   · exact Or.inl ⟨by kernel_rfl, fun w hSw => by go_simp⟩
   try simp only [Act.put, gD, gE, gF]
   refine wpAnyH_take (i := 6) (oi := ?oiatb6) (v := .agg #[.slice xa xn xc]) ?_ (by kernel_rfl) (by kernel_rfl) (by kernel_rfl) ?_ ?_ hHl ?_
   rotate_left
   · simp only [gA, gB, gC]; rfl
   · exact fun _ _ _ h => h
   · exact Or.inl ⟨by kernel_rfl, fun w hSw => by go_simp⟩
   try simp only [Act.put, gD, gE, gF]
   refine wpAnyH_take (i := 7) (oi := ?oiatb7) (v := .bool fl) ?_ (by kernel_rfl) (by kernel_rfl) (by kernel_rfl) ?_ ?_ hHl ?_
   rotate_left
   · simp only [gA, gB, gC]; rfl
   · exact fun _ _ _ h => h
   · exact Or.inl ⟨by kernel_rfl, fun w hSw => by go_simp⟩
   try simp only [Act.put, gD, gE, gF]
   refine wpAnyH_ready (rs := [9]) (by kernel_rfl) (by simp) (AllReadyH.cons (o := ?ooatb9) ?_ (fun K hK => ?_) AllReadyH.nil)
   rotate_left
   · simp only [gA, gB, gC]; rfl
   go_simp
   try go_wp2_with fail
   refine hK.out _ _ (ja6 ((Below.heap_setCell (y2) ⟨w4.heap.size, 0, none⟩ _ P (by have := HSP.out; have := HSZ.out; have := HS5.out; have := HS6.out; simp; omega)).trans HP6.out)).1 (fun hHl => ?_)
   clear hK K
   try simp only [Act.put, gD, gE, gF]
   refine wpAnyH_take (i := 10) (oi := ?oiatb10) (v := .bool fl) ?_ (by kernel_rfl) (by kernel_rfl) (by kernel_rfl) ?_ ?_ hHl ?_
   rotate_left
   · simp only [gA, gB, gC]; rfl
   · exact fun _ _ _ h => h
   · exact Or.inl ⟨by kernel_rfl, fun w hSw => by go_simp⟩
   try simp only [Act.put, gD, gE, gF]
   refine wpAnyH_done (by kernel_rfl) ?_ _
   have D7 : Hid (DK w g A w1.heap.size bs (.slice ua un uc) L ((y2).setCell ⟨w4.heap.size, 0, none⟩ (.slice xa xn xc))) := D4.out.draw (by have := HG.out; omega) HG.out.1 HG.out.2.1 (jc6 D6.out.cur (by have := HG.out; have := HSZ.out; have := HS5.out; have := HS6.out; omega) _) (jb6 GW6.out (by have := HS5.out; have := HS6.out; omega) _)
   have HP7 : Hid (((y2).setCell ⟨w4.heap.size, 0, none⟩ (.slice xa xn xc)).heap[P]? = some (.cells #[.slice ua un uc] 26 (0, 0))) := (Below.heap_setCell _ _ _ _ (by have := HSP.out; have := HSZ.out; have := HS5.out; have := HS6.out; simp; omega)).trans HP6.out
   have HX7 : Hid (((y2).setCell ⟨w4.heap.size, 0, none⟩ (.slice xa xn xc)).heap[w4.heap.size]? = some (.cells #[.slice xa xn xc] 26 (0, 0))) := js2 HX6.out _
   have HFT : Hid (Fit A ((y2).setCell ⟨w4.heap.size, 0, none⟩ (.slice xa xn xc)) (.slice xa xn xc)) := jy5 (lo := y1.heap.size) (top := y2.heap.size) (jp6 OX6.out (.inl (by have h := (Array.getElem?_eq_some_iff.1 HX5.out).1; simp; omega)) _) (by have := HG.out; have := HSZ.out; have := HS5.out; omega) HQL.out
   have HBX : Hid (A + 1 < w4.heap.size) := by show A + 1 < w4.heap.size; have := HG.out; have := HSZ.out; have := HS5.out; have := HS6.out; omega
   clear cX9 fX9
   generalize ((y2).setCell ⟨w4.heap.size, 0, none⟩ (.slice xa xn xc)) = y3 at *
   generalize w4.heap.size = bX at *
   cases fl with
   | true =>
    obtain ⟨cP7, -⟩ := ja6 HP7.out
    obtain ⟨cX7, -⟩ := ja6 HX7.out
    obtain ⟨ya9, yn9, yc9, hya9⟩ := D7.out.ra
    obtain ⟨yb9, ym9, yd9, hyb9⟩ := D7.out.rb
    obtain ⟨cA9, fA9⟩ := ja6 hya9
    obtain ⟨cB9, fB9⟩ := ja6 hyb9
    have hyB9 : (y3.setCell ⟨A, 0, none⟩ (.slice ua un uc)).heap[A + 1]? = some (.cells #[.slice yb9 ym9 yd9] 26 (0, 0)) := (Below.heap_setCell _ _ _ _ (by simp)).trans hyb9
    obtain ⟨cC9, fC9⟩ := ja6 hyB9
    clear hya9 hyb9 hyB9
    go_wp2_with fail
    refine wp_region_held_drew (S := fun X => X.cell? ⟨P, 0, none⟩ = some (.slice ua un uc) ∧ X.cell? ⟨bX, 0, none⟩ = some (.slice xa xn xc)) (by kernel_rfl) ⟨cP7, cX7⟩ (fun hHl => ?_)
    refine wpAnyH_take (i := 0) (oi := ?oip3t0) (v := .agg #[.slice ua un uc]) ?_ (by kernel_rfl) (by kernel_rfl) (by kernel_rfl) ?_ ?_ hHl ?_
    rotate_left
    · simp only [gA, gB, gC]; rfl
    · exact fun _ _ _ h => h
    · exact Or.inl ⟨by kernel_rfl, fun w hSw => by obtain ⟨s0, s1⟩ := hSw; go_simp⟩
    try simp only [Act.put, gD, gE, gF]
    refine wpAnyH_take (i := 1) (oi := ?oip3t1) (v := .agg #[.slice xa xn xc]) ?_ (by kernel_rfl) (by kernel_rfl) (by kernel_rfl) ?_ ?_ hHl ?_
    rotate_left
    · simp only [gA, gB, gC]; rfl
    · exact fun _ _ _ h => h
    · exact Or.inl ⟨by kernel_rfl, fun w hSw => by obtain ⟨s0, s1⟩ := hSw; go_simp⟩
    try simp only [Act.put, gD, gE, gF]
    refine wpAnyH_ready (rs := [2]) (by kernel_rfl) (by simp) (AllReadyH.cons (o := ?oop3t2) ?_ (fun K hK => ?_) AllReadyH.nil)
    rotate_left
    · simp only [gA, gB, gC]; rfl
    go_simp
    try go_wp2_with fail
    refine hK.out _ _ ⟨(ja6 ((Below.heap_setCell y3 ⟨A, 0, none⟩ _ P (by have := HG.out; have := HGP.out; have := HBX.out; simp; omega)).trans HP7.out)).1, (ja6 ((Below.heap_setCell y3 ⟨A, 0, none⟩ _ bX (by have := HG.out; have := HGP.out; have := HBX.out; simp; omega)).trans HX7.out)).1⟩ (fun hHl => ?_)
    clear hK K
    try simp only [Act.put, gD, gE, gF]
    refine wpAnyH_ready (rs := [3]) (by kernel_rfl) (by simp) (AllReadyH.cons (o := ?oop3t3) ?_ (fun K hK => ?_) AllReadyH.nil)
    rotate_left
    · simp only [gA, gB, gC]; rfl
    go_simp
    try go_wp2_with fail
    refine hK.out _ _ ⟨(ja6 ((Below.heap_setCell _ ⟨A + 1, 0, none⟩ _ P (by have := HG.out; have := HGP.out; have := HBX.out; simp; omega)).trans ((Below.heap_setCell y3 ⟨A, 0, none⟩ _ P (by have := HG.out; have := HGP.out; have := HBX.out; simp; omega)).trans HP7.out))).1, (ja6 ((Below.heap_setCell _ ⟨A + 1, 0, none⟩ _ bX (by have := HG.out; have := HGP.out; have := HBX.out; simp; omega)).trans ((Below.heap_setCell y3 ⟨A, 0, none⟩ _ bX (by have := HG.out; have := HGP.out; have := HBX.out; simp; omega)).trans HX7.out))).1⟩ (fun hHl => ?_)
    clear hK K
    try simp only [Act.put, gD, gE, gF]
    refine wpAnyH_done (by kernel_rfl) ?_ _
    have HZ := jk0 (xa := xa) (xn := xn) (xc := xc) rfl D7.out (by have := HG.out; omega) HG.out.1 HG.out.2.1
    simp only at HZ
    obtain ⟨DZ, dA, dB⟩ := HZ
    obtain ⟨ps9, rp9, hp9⟩ := DZ.pr.reads
    have HL9 : Hid _ := je1 hp9 h5 h14
    have HR9 : Hid _ := rp9
    have HB9 : Hid _ := DZ.bel
    obtain ⟨qs9, rq9, hq9⟩ := HFT.out ua un uc xa xn xc
    have HQ9 : Hid _ := rq9
    have HM9 : Hid _ := hq9
    clear rq9 hq9
    clear DZ rp9 hp9
    go_wp2_with fail
    refine bodyPost_ret (v := .tuple #[.agg #[.slice ua un uc], .agg #[.slice xa xn xc]]) (by simp [results, Tryz.results5, go_sem, dA, dB]) rfl ?_
    exact ⟨_, _, ps9, qs9, rfl, HR9.out, HQ9.out, HL9.out, HM9.out, Below.drew HB9.out⟩
   | false =>
    obtain ⟨cP7, -⟩ := ja6 HP7.out
    go_wp2_with fail
    refine wp_region_held_drew (S := fun X => X.cell? ⟨P, 0, none⟩ = some (.slice ua un uc)) (by kernel_rfl) cP7 (fun hHl => ?_)
    refine wpAnyH_take (i := 0) (oi := ?oip3f0) (v := .agg #[.slice ua un uc]) ?_ (by kernel_rfl) (by kernel_rfl) (by kernel_rfl) ?_ ?_ hHl ?_
    rotate_left
    · simp only [gA, gB, gC]; rfl
    · exact fun _ _ _ h => h
    · exact Or.inl ⟨by kernel_rfl, fun w hSw => by go_simp⟩
    try simp only [Act.put, gD, gE, gF]
    refine wpAnyH_take (i := 1) (oi := ?oip3f1) (v := .agg #[.slice ua un uc]) ?_ (by kernel_rfl) (by kernel_rfl) (by kernel_rfl) ?_ ?_ hHl ?_
    rotate_left
    · simp only [gA, gB, gC]; rfl
    · exact fun _ _ _ h => h
    · exact Or.inl ⟨by kernel_rfl, fun w hSw => by go_simp⟩
    try simp only [Act.put, gD, gE, gF]
    refine wpAnyH_ready (rs := [2]) (by kernel_rfl) (by simp) (AllReadyH.cons (o := ?oop3f2) ?_ (fun K hK => ?_) AllReadyH.nil)
    rotate_left
    · simp only [gA, gB, gC]; rfl
    go_simp
    obtain ⟨pz, rpz, hpz⟩ := (D7.out.step (Below.drew (Below.refl _ _))).pr.reads
    have hlz := je1 hpz h5 h14
    go_at_call 24
    refine (closure2 pz (.slice ua un uc) y3.drew hlz.1 hlz.2 rpz).mono ?_
    rintro e y8 ⟨x8, q8, rfl, ho8, hq8, b8⟩
    have D8 : Hid (DK w g A w1.heap.size bs (.slice ua un uc) L y8) := (D7.out.step (Below.drew (Below.refl _ _))).step b8
    have HP8 : Hid (y8.heap[P]? = some (.cells #[.slice ua un uc] 26 (0, 0))) := (b8.block _ (show P < y3.drew.heap.size from (Array.getElem?_eq_some_iff.1 HP7.out).1)).trans HP7.out
    have HF8 : Hid (Fit A y8 x8) := by
     show Fit A y8 x8
     rcases ho8 with ⟨rfl, rfl⟩ | ⟨lo8, hlo8, o8⟩
     · exact fit_pr D8.out.pr (by have := HG.out; omega) h5 h14
     · exact jy5 o8 (by have h1 := HG.out; have h2 := (Array.getElem?_eq_some_iff.1 HX7.out).1; have h3 := HBX.out; have h4 : y3.heap.size ≤ lo8 := hlo8; omega) hq8
    obtain ⟨za, zn, zc, hzz⟩ : ∃ a n c, x8 = .slice a n c := by
     rcases ho8 with ⟨rfl, rfl⟩ | ⟨lo8, hlo8, o8⟩
     · exact ⟨_, _, _, rfl⟩
     · exact jx7 o8
    subst hzz
    clear ho8 b8 rpz hpz hlz
    obtain ⟨ya9, yn9, yc9, hya9⟩ := D8.out.ra
    obtain ⟨yb9, ym9, yd9, hyb9⟩ := D8.out.rb
    obtain ⟨cA9, fA9⟩ := ja6 hya9
    obtain ⟨cB9, fB9⟩ := ja6 hyb9
    have hyB9 : (y8.setCell ⟨A, 0, none⟩ (.slice ua un uc)).heap[A + 1]? = some (.cells #[.slice yb9 ym9 yd9] 26 (0, 0)) := (Below.heap_setCell _ _ _ _ (by simp)).trans hyb9
    obtain ⟨cC9, fC9⟩ := ja6 hyB9
    clear hya9 hyb9 hyB9
    try go_wp2_with fail
    refine hK.out _ _ (ja6 HP8.out).1 (fun hHl => ?_)
    clear hK K
    try simp only [Act.put, gD, gE, gF]
    refine wpAnyH_ready (rs := [3]) (by kernel_rfl) (by simp) (AllReadyH.cons (o := ?oop3f3) ?_ (fun K hK => ?_) AllReadyH.nil)
    rotate_left
    · simp only [gA, gB, gC]; rfl
    go_simp
    try go_wp2_with fail
    refine hK.out _ _ (ja6 ((Below.heap_setCell y8 ⟨A, 0, none⟩ _ P (by have := HG.out; have := HGP.out; have := HBX.out; simp; omega)).trans HP8.out)).1 (fun hHl => ?_)
    clear hK K
    try simp only [Act.put, gD, gE, gF]
    refine wpAnyH_ready (rs := [4]) (by kernel_rfl) (by simp) (AllReadyH.cons (o := ?oop3f4) ?_ (fun K hK => ?_) AllReadyH.nil)
    rotate_left
    · simp only [gA, gB, gC]; rfl
    go_simp
    try go_wp2_with fail
    refine hK.out _ _ (ja6 ((Below.heap_setCell _ ⟨A + 1, 0, none⟩ _ P (by have := HG.out; have := HGP.out; have := HBX.out; simp; omega)).trans ((Below.heap_setCell y8 ⟨A, 0, none⟩ _ P (by have := HG.out; have := HGP.out; have := HBX.out; simp; omega)).trans HP8.out))).1 (fun hHl => ?_)
    clear hK K
    try simp only [Act.put, gD, gE, gF]
    refine wpAnyH_done (by kernel_rfl) ?_ _
    have HZ := jk0 (xa := za) (xn := zn) (xc := zc) rfl D8.out (by have := HG.out; omega) HG.out.1 HG.out.2.1
    simp only at HZ
    obtain ⟨DZ, dA, dB⟩ := HZ
    obtain ⟨ps9, rp9, hp9⟩ := DZ.pr.reads
    have HL9 : Hid _ := je1 hp9 h5 h14
    have HR9 : Hid _ := rp9
    have HB9 : Hid _ := DZ.bel
    obtain ⟨qs9, rq9, hq9⟩ := HF8.out ua un uc za zn zc
    have HQ9 : Hid _ := rq9
    have HM9 : Hid _ := hq9
    clear rq9 hq9
    clear DZ rp9 hp9
    go_wp2_with fail
    refine bodyPost_ret (v := .tuple #[.agg #[.slice ua un uc], .agg #[.slice za zn zc]]) (by simp [results, Tryz.results5, go_sem, dA, dB]) rfl ?_
    exact ⟨_, _, ps9, qs9, rfl, HR9.out, HQ9.out, HL9.out, HM9.out, HB9.out⟩
end Go.Proofs.YtldagpfeaabcdaaGreatDoor
