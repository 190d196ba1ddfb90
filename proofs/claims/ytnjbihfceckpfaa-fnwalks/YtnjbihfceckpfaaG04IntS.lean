/-
 Put together out of: DrawProgram, IntS.
-/
import Derived.Test.YtnjbihfceckpfaaG03DrawProc
import Derived.Test.YtnjbihfceckpfaaG01DrawKit
/-
 spec.l3Draw: some Program, in rows of its own.
-/
namespace Go.Proofs.Ytnjbihfceckpfaa
open Go.RowKit
set_option linter.unusedVariables false
set_option maxHeartbeats 1000000

theorem infoPrc : (Try.prog.info? 81).map (fun i => (i.zero, i.size, i.bytes)) = some (some (.agg #[.slice none 0 0]), 1, 24) := by kernel_rfl

/-- Rows of other kinds of elements lie in other blocks. -/
theorem rows_apart {w : World} {b b' : Nat} {e e' : TypeId} {s s' n n' : Nat} {v v' : Value} {xs xs' : List Value} (h : w.ownsRow b e s v n xs) (h' : w.ownsRow b' e' s' v' n' xs') (hne : e ≠ e') : ∀ k, v.ownBlock = some k → v'.ownBlock ≠ some k := by
 intro k hk hk'
 rcases h.2 with ⟨rfl, _⟩ | ⟨g, cap, cur, rfl, _, hg, _⟩
 · cases hk
 · rcases h'.2 with ⟨rfl, _⟩ | ⟨g', cap', cur', rfl, _, hg', _⟩
   · cases hk'
   · obtain rfl : g = k := Option.some.inj hk
     obtain rfl : g' = g := Option.some.inj hk'
     rw [hg] at hg'
     simp at hg'
     exact hne hg'.2

/-- A Program's rows: the outer one u, the inner ones. -/
def Rows2 (w : World) (base : Nat) (u : Value) (ps : List (List Stm)) : Prop :=
 ∃ us : List Value, w.ownsRow base 81 1 u ps.length us ∧ ∀ (j : Nat) (x : Value) (p : List Stm), us[j]? = some x → ps[j]? = some p → w.ownsRow base 92 3 x p.length (cells3 p)

theorem rows2_grown {w w' : World} {base g : Nat} {u : Value} {ps : List (List Stm)} (h : Rows2 w base u ps) (hg : w.grownBy w' (some g)) (hb : g < base) : Rows2 w' base u ps := by
 obtain ⟨us, ho, hi⟩ := h
 refine ⟨us, own_grown ho hg (fun k hk e => ?_), fun j x p h1 h2 => own_grown (hi j x p h1 h2) hg (fun k hk e => ?_)⟩
 · have := (ho.lt k hk).1; have e := Option.some.inj e; omega
 · have := ((hi j x p h1 h2).lt k hk).1; have e := Option.some.inj e; omega

theorem rows2_alloc {w : World} {base : Nat} {u : Value} {ps : List (List Stm)} (h : Rows2 w base u ps) (o : Obj) : Rows2 (w.alloc o) base u ps := by
 obtain ⟨us, ho, hi⟩ := h
 exact ⟨us, ho.alloc _, fun j x p h1 h2 => (hi j x p h1 h2).alloc _⟩

theorem rows2_low {w : World} {base : Nat} {u : Value} {ps : List (List Stm)} (h : Rows2 w base u ps) {a : Addr} (ha : a.block < base) (x : Value) : Rows2 (w.setCell a x) base u ps := by
 obtain ⟨us, ho, hi⟩ := h
 exact ⟨us, ownsRow_setCell_below ho ha _, fun j y p h1 h2 => ownsRow_setCell_below (hi j y p h1 h2) ha _⟩

theorem rows2_slice {w : World} {base : Nat} {u : Value} {ps : List (List Stm)} (h : Rows2 w base u ps) : ∃ a m c, u = .slice a m c := by
 obtain ⟨us, ho, _⟩ := h
 exact ownSlice ho

/-- One more Proc appended. -/
theorem rows2_app {w w' : World} {base : Nat} {u v : Value} {ps : List (List Stm)} {us : List Value} {q : Value} {p : List Stm} (ho : w.ownsRow base 81 1 u ps.length us)
 (hi : ∀ (j : Nat) (x : Value) (p : List Stm), us[j]? = some x → ps[j]? = some p → w.ownsRow base 92 3 x p.length (cells3 p)) (hq : w.ownsRow base 92 3 q p.length (cells3 p))
 (hg : w.grownBy w' u.ownBlock) (hn : w'.ownsRow base 81 1 v (ps.length + 1) (us ++ [q])) : Rows2 w' base v (ps ++ [p]) := by
 refine ⟨us ++ [q], by simpa using hn, fun j x r h1 h2 => ?_⟩
 have hl := ho.1
 simp only [Nat.mul_one] at hl
 by_cases hj : j < ps.length
 · rw [List.getElem?_append_left (by omega)] at h1 h2
   have h3 := hi j x r h1 h2
   exact own_grown h3 hg (fun k hk e => rows_apart h3 ho (by decide) k hk e)
 · have hj' : j = ps.length := by
    have := (List.getElem?_eq_some_iff.1 h2).1
    simp at this
    omega
   subst hj'
   rw [← hl] at h1
   simp at h1 h2
   subst h1 h2
   exact own_grown hq hg (fun k hk e => rows_apart hq ho (by decide) k hk e)

/-- What the region that appends a drawn Proc has, operation by operation. -/
def QFct (g S : Nat) (n : Int) (ps : List (List Stm)) (u : Value) (l : Nat → Bool) (x15 x16 x17 x18 x19 x20 x21 x22 : Value) (wr : World) : Prop :=
 (l 0 = true → x15 = .pointer (some ⟨S, 0, none⟩)) ∧ (l 1 = true → x16 = u) ∧ (l 2 = true → x17 = .pointer (some ⟨g, 0, none⟩)) ∧ (l 3 = true → x18 = .int .i64 n) ∧
 (l 6 = false → Rows2 wr (S + 1) u ps ∧ wr.heap[S]? = some (.cells #[u] 30 (0, 0)) ∧
  (l 4 = true → ∃ (q : Value) (p : List Stm), x19 = .agg #[q] ∧ (1 ≤ p.length ∧ p.length ≤ 7) ∧ wr.ownsRow (S + 1) 92 3 q p.length (cells3 p) ∧ (l 5 = true → ∃ b : Nat, x20 = .slice (some ⟨b, 0, none⟩) 1 1 ∧ g < b ∧ wr.heap[b]? = some (.cells #[q] 81 (0, 0))))) ∧
 (l 6 = true → l 1 = true ∧ l 4 = true ∧ l 5 = true ∧ ∃ p : List Stm, (1 ≤ p.length ∧ p.length ≤ 7) ∧ Rows2 wr (S + 1) x21 (ps ++ [p]) ∧ (l 8 = false → wr.heap[S]? = some (.cells #[u] 30 (0, 0))) ∧ (l 8 = true → wr.heap[S]? = some (.cells #[x21] 30 (0, 0)))) ∧
 (l 7 = true → x22 = .pointer (some ⟨S, 0, none⟩)) ∧ (l 8 = true → l 6 = true) ∧ (l 5 = true → l 4 = true)

def QInv (g R S : Nat) (bs : List Int) (n i z : Int) (ps : List (List Stm)) (u y13 y14 : Value) (w : World) (l : Nat → Bool) (a : Act) (wr : World) : Prop :=
 ∃ x15 x16 x17 x18 x19 x20 x21 x22 : Value, a = { tmps := List.toArray (.pointer (some ⟨g, 0, none⟩) :: undef :: .pointer (some ⟨R, 0, none⟩) :: .int .i64 n :: .pointer (some ⟨S, 0, none⟩) :: .int .i64 i :: .pointer (some ⟨g, 0, none⟩) :: .int .i64 z :: .int .i64 n :: .agg #[.slice none 0 0] :: .int .i64 i :: .int .i64 n :: .bool true :: y13 :: y14 :: x15 :: x16 :: x17 :: x18 :: x19 :: x20 :: x21 :: x22 :: undef :: []), defers := [] } ∧
  Cur wr g bs ∧ w.grownBy wr (some g) ∧ wr.heap[R]? = some (.cells #[.slice none 0 0] 30 (0, 0)) ∧ S < wr.heap.size ∧ QFct g S n ps u l x15 x16 x17 x18 x19 x20 x21 x22 wr

theorem l3Draw (g : Nat) (bs : List Int) (w : World) (hl : bs.length ≤ 1048576) (hc : Cur w g bs) :
 Calls Try.prog 84 #[.pointer (some ⟨g, 0, none⟩)] w fun e w' =>
  ∃ (u : Value) (ps : List (List Stm)), e = .returned (.agg #[u]) ∧ 1 ≤ ps.length ∧ ps.length ≤ 3 ∧ (∀ p ∈ ps, (1 ≤ p.length ∧ p.length ≤ 7)) ∧ Rows2 w' w.heap.size u ps ∧ Cur w' g bs ∧ w.grownBy w' (some g) := by
 obtain ⟨i0, hi, hz0, hz1, hz2⟩ := info_parts infoPrc
 have hgw := curLt hc
 have hcA := curAlloc hc (.cells #[.slice none 0 0] 30)
 have HA := heap_alloc_new w (.cells #[.slice none 0 0] 30)
 have gA := World.grownBy_alloc w (.cells #[.slice none 0 0] 30) (some g)
 go_enter Try.func84, Try.ntmps84
 go_wp2_with fail
 go_at_call 86
 refine (l1Below g bs 3 (by omega) _ hl hcA).mono ?_
 rintro e w1 ⟨z, rfl, hz0', hz1', _, hc1, hg1⟩
 have hz1' := hz1' (by omega)
 have R1 := blockGrown HA hg1 hgw
 have G1 := grown_trans gA hg1
 clear hcA HA gA hg1
 have z1 : w.heap.size < w1.heap.size := (Array.getElem?_eq_some_iff.1 R1).1
 have hc2 := curAlloc hc1 (.cells #[.slice none 0 0] 30)
 have X2 := heap_alloc_new w1 (.cells #[.slice none 0 0] 30)
 have R2 := (old_block (o := .cells #[.slice none 0 0] 30) z1).trans R1
 have G2 := grownAlloc G1 (.cells #[.slice none 0 0] 30)
 have z2 : (w1.alloc (.cells #[.slice none 0 0] 30)).heap.size = w1.heap.size + 1 := by simp
 clear R1
 go_wp2_with fail
 generalize w1.alloc (.cells #[.slice none 0 0] 30) = W2 at *
 obtain ⟨S, hS⟩ : ∃ S, w1.heap.size = S := ⟨_, rfl⟩
 have hgS : g < S := by have := curLt hc1; omega
 rw [hS] at X2 z2 z1 ⊢
 clear hS hc1 G1
 go_loopw [5] (fun q wr => ∃ (j : Nat) (ps : List (List Stm)) (u : Value), (j : Int) ≤ 1 + z ∧ q = .int .i64 j ∧ ps.length = j ∧ (∀ p ∈ ps, (1 ≤ p.length ∧ p.length ≤ 7)) ∧ Rows2 wr (S + 1) u ps ∧ wr.heap[S]? = some (.cells #[u] 30 (0, 0)) ∧
  wr.heap[w.heap.size]? = some (.cells #[.slice none 0 0] 30 (0, 0)) ∧ S < wr.heap.size ∧ Cur wr g bs ∧ w.grownBy wr (some g)) (fun q _ => (1 + z - intOf q).toNat)
 case atStart => exact ⟨0, [], .slice none 0 0, by omega, rfl, rfl, by simp, ⟨[], ⟨by simp, .inl ⟨rfl, rfl⟩⟩, fun j x p h => by simp at h⟩, X2, R2, by omega, hc2, G2⟩
 case round =>
  obtain ⟨j, ps, u, hj, rfl, hjs, hp7, hrows, hSb, hRb, hSz0, hcur, hgr0⟩ := hrel
  have hus := rows2_slice hrows
  by_cases hlt : (j : Int) < 1 + z
  · go_wp2_with fail
    refine wp_region_inv (by kernel_rfl) (by kernel_rfl) (QInv g w.heap.size S bs (1 + z) j z ps u u13 u14 w) ?h0 ?hs ?he
    case h0 => exact ⟨_, _, _, _, _, _, _, _, rfl, cur_below hcur (by go_grown), ⟨hgr0.os, hgr0.tape, hgr0.output, hgr0.size, hgr0.block⟩, hRb, hSz0, by simp, by simp, by simp, by simp, fun _ => ⟨hrows, hSb, by simp⟩, by simp, by simp, by simp, by simp⟩
    case hs =>
     intro l i o a wr ho hI hli haf
     obtain ⟨x15, x16, x17, x18, x19, x20, x21, x22, rfl, hcr, hgr, hR, hSz, pf⟩ := hI
     have hi9 : i < 9 := (Array.getElem?_eq_some_iff.1 ho).1
     have hcases : i = 0 ∨ i = 1 ∨ i = 2 ∨ i = 3 ∨ i = 4 ∨ i = 5 ∨ i = 6 ∨ i = 7 ∨ i = 8 := by omega
     rcases hcases with rfl | rfl | rfl | rfl | rfl | rfl | rfl | rfl | rfl
     · simp only [List.getElem?_toArray, List.getElem?_cons_zero, Option.some.injEq] at ho
       subst ho
       go_wp2_with fail
       obtain ⟨p0, p1, p2, p3, p6f, p6, p7, p8, p54⟩ := pf
       exact ⟨_, _, _, _, _, _, _, _, rfl, hcr, hgr, hR, hSz, fun _ => rfl, p1, p2, p3, p6f, p6, p7, p8, p54⟩
     · simp only [List.getElem?_toArray, List.getElem?_cons_zero, List.getElem?_cons_succ, Option.some.injEq] at ho
       subst ho
       simp [Region.binds] at haf
       obtain rfl : x15 = _ := pf.1 haf
       have h6 : l 6 = false := by
        cases h6 : l 6 with
        | false => rfl
        | true => rw [(pf.2.2.2.2.2.1 h6).1] at hli; cases hli
       have hu0 := (pf.2.2.2.2.1 h6).2.1
       obtain ⟨ua, um, uc, rfl⟩ := hus
       obtain ⟨c0, f0⟩ := oneCell hu0
       clear hu0
       go_wp2_with fail
       obtain ⟨p0, p1, p2, p3, p6f, p6, p7, p8, p54⟩ := pf
       exact ⟨_, _, _, _, _, _, _, _, rfl, hcr, hgr, hR, hSz, p0, fun _ => rfl, p2, p3, p6f, (fun h => absurd (show l 6 = true from h) (by rw [h6]; simp)), p7, p8, p54⟩
     · simp only [List.getElem?_toArray, List.getElem?_cons_zero, List.getElem?_cons_succ, Option.some.injEq] at ho
       subst ho
       go_wp2_with fail
       obtain ⟨p0, p1, p2, p3, p6f, p6, p7, p8, p54⟩ := pf
       exact ⟨_, _, _, _, _, _, _, _, rfl, hcr, hgr, hR, hSz, p0, p1, fun _ => rfl, p3, p6f, p6, p7, p8, p54⟩
     · simp only [List.getElem?_toArray, List.getElem?_cons_zero, List.getElem?_cons_succ, Option.some.injEq] at ho
       subst ho
       go_wp2_with fail
       obtain ⟨p0, p1, p2, p3, p6f, p6, p7, p8, p54⟩ := pf
       exact ⟨_, _, _, _, _, _, _, _, rfl, hcr, hgr, hR, hSz, p0, p1, p2, fun _ => rfl, p6f, p6, p7, p8, p54⟩
     · simp only [List.getElem?_toArray, List.getElem?_cons_zero, List.getElem?_cons_succ, Option.some.injEq] at ho
       subst ho
       simp [Region.binds] at haf
       obtain rfl : x17 = _ := pf.2.2.1 haf.1
       obtain rfl : x18 = _ := pf.2.2.2.1 haf.2
       have h6 : l 6 = false := by
        cases h6 : l 6 with
        | false => rfl
        | true => rw [(pf.2.2.2.2.2.1 h6).2.1] at hli; cases hli
       go_wp2_with fail
       go_at_call 119
       refine (l3DrawProc g bs _ (by omega) wr hl hcr).mono ?_
       rintro e w6 ⟨q6, ss6, rfl, hs61, hs6, own6, hc6, hg6⟩
       have s6 := hg6.size
       have h5 : l 5 = false := by
        cases h5 : l 5 with
        | false => rfl
        | true => rw [pf.2.2.2.2.2.2.2.2 h5] at hli; cases hli
       obtain ⟨qa, qm, qc, rfl⟩ := ownSlice own6
       go_wp2_with fail
       obtain ⟨p0, p1, p2, p3, p6f, p6, p7, p8, p54⟩ := pf
       exact ⟨_, _, _, _, _, _, _, _, rfl, hc6, grown_trans hgr hg6, blockGrown hR hg6 hgw, by omega, p0, p1, p2, p3, (fun h => ⟨rows2_grown (p6f h).1 hg6 (by omega), blockGrown (p6f h).2.1 hg6 hgS, fun _ => ⟨_, ss6, rfl, ⟨hs61, hs6⟩, own_mono own6 (by omega), fun h => absurd (show l 5 = true from h) (by rw [h5]; simp)⟩⟩), (fun h => absurd (show l 6 = true from h) (by rw [h6]; simp)), p7, p8, (fun _ => rfl)⟩
     · simp only [List.getElem?_toArray, List.getElem?_cons_zero, List.getElem?_cons_succ, Option.some.injEq] at ho
       subst ho
       simp [Region.binds] at haf
       have h6 : l 6 = false := by
        cases h6 : l 6 with
        | false => rfl
        | true => rw [(pf.2.2.2.2.2.1 h6).2.2.1] at hli; cases hli
       obtain ⟨q5, ss5, rfl, hs5, own5, _⟩ := (pf.2.2.2.2.1 h6).2.2 haf
       obtain ⟨qa, qm, qc, rfl⟩ := ownSlice own5
       have hgl := curLt hcr
       have HO5 : Hid (wr.ownsRow (S + 1) 92 3 (.slice qa qm qc) ss5.length (cells3 ss5)) := own5
       clear own5
       go_wp2_with fail
       obtain ⟨p0, p1, p2, p3, p6f, p6, p7, p8, p54⟩ := pf
       exact ⟨_, _, _, _, _, _, _, _, rfl, curAlloc hcr _, grownAlloc hgr _, (old_block (Array.getElem?_eq_some_iff.1 hR).1).trans hR, by simp; omega, p0, p1, p2, p3, (fun h => ⟨rows2_alloc (p6f h).1 _, (old_block (Array.getElem?_eq_some_iff.1 (p6f h).2.1).1).trans (p6f h).2.1, fun _ => ⟨_, ss5, rfl, hs5, HO5.out.alloc _, fun _ => ⟨wr.heap.size, rfl, hgl, heap_alloc_new wr _⟩⟩⟩), (fun h => absurd (show l 6 = true from h) (by rw [h6]; simp)), p7, p8, (fun _ => haf)⟩
     · simp only [List.getElem?_toArray, List.getElem?_cons_zero, List.getElem?_cons_succ, Option.some.injEq] at ho
       subst ho
       simp [Region.binds] at haf
       obtain rfl : x16 = _ := pf.2.1 haf.1
       have l4 := pf.2.2.2.2.2.2.2.2 haf.2.1
       obtain ⟨⟨us, own6, inn6⟩, S7, h67⟩ := pf.2.2.2.2.1 hli
       obtain ⟨q5, ss5, rfl, hs5, own5, h55⟩ := h67 l4
       obtain ⟨b, rfl, hb1, hb2⟩ := h55 haf.2.1
       obtain ⟨qa, qm, qc, rfl⟩ := ownSlice own5
       have hpl : ps.length ≤ 3 := by omega
       have hnews : ∀ (j : Nat) (x : Value), [Value.slice qa qm qc][j]? = some x → wr.cell? ((⟨b, 0, none⟩ : Addr).add j) = some x := by
        intro j x hx
        cases j with
        | zero => simp at hx; subst hx; simpa [Addr.add] using (oneCell hb2).1
        | succ j => simp at hx
       have HNW : Hid _ := hnews
       have HO6 : Hid (wr.ownsRow (S + 1) 81 1 x16 ps.length us) := own6
       have HIN : Hid _ := inn6
       have HO5 : Hid (wr.ownsRow (S + 1) 92 3 (.slice qa qm qc) ss5.length (cells3 ss5)) := own5
       clear own5 own6 inn6 hnews h55 h67 hb2
       go_wp2_with (at_builtin; refine wpList_append_own _ rfl (.tmp 16) (.tmp 20) 28 rfl (S + 1) 81 i0 (.agg #[.slice none 0 0]) 1 24 Try.underlying28 hi hz0 hz1 hz2 rfl (by decide) _ _ _ rfl HO6.out ⟨b, 0, none⟩ 1 _ [.slice qa qm qc] rfl rfl HNW.out (by intro y hy; simp at hy; subst hy; rfl) (by unfold maxLen; omega) (by omega) (by omega) ?_; intro v7 w7 own7 grow7 _)
       have s7 := grow7.size
       have hrow : ∀ q, Value.ownBlock x16 = some q → S + 1 ≤ q := fun q hq => (HO6.out.lt q hq).1
       have S8 := (grow7.block S (by omega) (fun e => by have := hrow _ e.symm; omega)).trans S7
       have R8 := (grow7.block w.heap.size (by have := (Array.getElem?_eq_some_iff.1 hR).1; omega) (fun e => by have := hrow _ e.symm; omega)).trans hR
       have hc8 := cur_grown hcr grow7 (fun q hq => by have := hrow q hq; omega)
       have g8 : w.grownBy w7 (some g) := ⟨grow7.os.trans hgr.os, grow7.tape.trans hgr.tape, grow7.output.trans hgr.output, Nat.le_trans hgr.size grow7.size, fun q hq1 hq2 => (grow7.block q (Nat.lt_of_lt_of_le hq1 hgr.size) (fun e => by have := hrow _ e.symm; omega)).trans (hgr.block q hq1 hq2)⟩
       have r8 := rows2_app HO6.out HIN.out HO5.out grow7 own7
       obtain ⟨p0, p1, p2, p3, p6f, p6, p7, p8, p54⟩ := pf
       exact ⟨_, _, _, _, _, _, _, _, rfl, hc8, g8, R8, by omega, p0, p1, p2, p3, (fun h => by simp at h), (fun _ => ⟨haf.1, l4, haf.2.1, ss5, hs5, r8, fun _ => S8, fun h => by have := p8 h; rw [this] at hli; cases hli⟩), p7, (fun _ => rfl), p54⟩
     · simp only [List.getElem?_toArray, List.getElem?_cons_zero, List.getElem?_cons_succ, Option.some.injEq] at ho
       subst ho
       go_wp2_with fail
       obtain ⟨p0, p1, p2, p3, p6f, p6, p7, p8, p54⟩ := pf
       exact ⟨_, _, _, _, _, _, _, _, rfl, hcr, hgr, hR, hSz, p0, p1, p2, p3, p6f, p6, fun _ => rfl, p8, p54⟩
     · simp only [List.getElem?_toArray, List.getElem?_cons_zero, List.getElem?_cons_succ, Option.some.injEq] at ho
       subst ho
       simp [Region.binds] at haf
       obtain rfl : x22 = _ := pf.2.2.2.2.2.2.1 haf.1
       have h66 : l 6 = true := by simp [haf]
       obtain ⟨t1, t4, t5, p, hp, rows9, S9, _⟩ := pf.2.2.2.2.2.1 h66
       have S9 := S9 hli
       obtain ⟨va, vm, vc, rfl⟩ := rows2_slice rows9
       obtain ⟨c0, f0⟩ := oneCell S9
       have SX0 : (wr.setCell ⟨S, 0, none⟩ (.slice va vm vc)).heap[S]? = some (.cells #[.slice va vm vc] 30 (0, 0)) := by
        have := heap_setCell_same wr S 0 _ 30 (.slice va vm vc) S9
        simpa using this
       have SX : Hid _ := SX0
       clear SX0
       have rows10 : Hid (Rows2 (wr.setCell ⟨S, 0, none⟩ (.slice va vm vc)) (S + 1) (.slice va vm vc) (ps ++ [p])) := rows2_low rows9 (by simp) _
       have RX : Hid ((wr.setCell ⟨S, 0, none⟩ (.slice va vm vc)).heap[w.heap.size]? = some (.cells #[.slice none 0 0] 30 (0, 0))) := (Below.heap_setCell _ _ _ _ (by simp; omega)).trans hR
       clear rows9 S9
       go_wp2_with fail
       obtain ⟨p0, p1, p2, p3, p6f, p6, p7, p8, p54⟩ := pf
       exact ⟨_, _, _, _, _, _, _, _, rfl, curSet hcr hgS _, grownSet hgr (by omega) _, RX.out, by simp [World.setCell]; omega, p0, p1, p2, p3, (fun h => absurd (show l 6 = false from h) (by rw [h66]; simp)), (fun _ => ⟨t1, t4, t5, p, hp, rows10.out, (fun h => by simp at h), fun _ => SX.out⟩), (fun _ => rfl), (fun _ => h66), p54⟩
    case he =>
     intro l a wr hI hall
     obtain ⟨x15, x16, x17, x18, x19, x20, x21, x22, rfl, hcr, hgr, hR, hSz, pf⟩ := hI
     obtain ⟨_, _, _, p, hp, rows9, _, S9⟩ := pf.2.2.2.2.2.1 (hall 6 (by simp))
     have S9 := S9 (hall 8 (by simp))
     have HSS : Hid _ := S9
     have HRW : Hid _ := rows9
     clear pf hall S9 rows9
     go_wp2_with fail
     go_roundw
     case rel => exact ⟨j + 1, ps ++ [p], x21, by omega, by go_num, by simp [hjs], (fun q hq => by rcases List.mem_append.1 hq with h | h; exact hp7 q h; rw [List.mem_singleton.1 h]; exact hp), HRW.out, HSS.out, hR, hSz, hcr, hgr⟩
     case measure => simp [intOf]; omega
  · obtain ⟨ua, um, uc, rfl⟩ := hus
    obtain ⟨c1, f1⟩ := oneCell hSb
    obtain ⟨c2, f2⟩ := oneCell hRb
    have R10 := heap_setCell_same wr w.heap.size 0 _ 30 (.slice ua um uc) hRb
    simp at R10
    obtain ⟨d0, _⟩ := oneCell R10
    have HRW : Hid (Rows2 wr (S + 1) (.slice ua um uc) ps) := hrows
    clear hSb hRb R10 hrows
    go_wp2
    refine bodyPost_ret (v := .agg #[.slice ua um uc]) (by simp [results, Try.results84, go_sem, d0]) rfl ?_
    have r2 := rows2_low HRW.out (a := ⟨w.heap.size, 0, none⟩) (by simp; omega) (.slice ua um uc)
    obtain ⟨us, r3, r4⟩ := r2
    exact ⟨.slice ua um uc, rfl, ps, by omega, by omega, hp7, ⟨us, own_mono r3 (by omega), fun j x p h1 h2 => own_mono (r4 j x p h1 h2) (by omega)⟩, curSet hcur hgw _, grownSet hgr0 (Nat.le_refl _) _⟩

end Go.Proofs.Ytnjbihfceckpfaa

/-
 Slices of int64: eqInt64S, markInt64S, heldInt64S, l1Has, l1Put.
-/
namespace Go.Proofs.Ytnjbihfceckpfaa
open Go.RowKit
set_option linter.unusedVariables false
set_option maxHeartbeats 1000000

def ints (xs : List Int) : List Value := xs.map (.int .i64)

theorem ints_length (xs : List Int) : (ints xs).length = xs.length := by simp [ints]

end Go.Proofs.Ytnjbihfceckpfaa
