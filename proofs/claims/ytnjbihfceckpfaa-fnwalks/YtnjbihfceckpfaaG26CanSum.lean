/-
 Put together out of: DrawWk, DrawWkT, DrawHold, CanSum.
-/
import Derived.Test.YtnjbihfceckpfaaG00Stmt
import Derived.Test.YtnjbihfceckpfaaDrawAny
import Derived.Test.YtnjbihfceckpfaaSpecWt
import Derived.Test.YtnjbihfceckpfaaG05RelM
import Derived.Test.YtnjbihfceckpfaaG18TabEx
import Derived.Test.YtnjbihfceckpfaaG10SpecFlow
/-
 What the laws of chapter 12 draw: spec.l12Draw.
-/
namespace Go.Proofs.Ytnjbihfceckpfaa
open Go.RowKit
set_option linter.unusedVariables false
set_option linter.unusedSimpArgs false
set_option maxHeartbeats 4000000
set_option maxRecDepth 20000

theorem drawn_lens {ps : List (List Stm)} {L : List Nat} (h : ps.map List.length = L) (h5 : L.length ≤ 5) (h14 : ∀ n ∈ L, n ≤ 14) : ps.length ≤ maxLen ∧ ∀ p ∈ ps, p.length ≤ maxLen := by
 subst h
 refine ⟨by simp at h5; unfold maxLen; omega, fun p hp => ?_⟩
 have := h14 p.length (List.mem_map_of_mem hp)
 unfold maxLen
 omega

/-- What l12Draw has in hand. -/
structure DW (w : World) (g : Nat) (bs : List Int) (u : Value) (ov : Value) (m : Nat) (xs : List Int) (W : World) : Prop where
 cur : Cur W g bs
 box : W.heap[w.heap.size]? = some (.cells #[u] 30 (0, 0))
 gr : w.grownBy W (some g)
 row : W.ownsRow (w.heap.size + 1) 56 2 ov m (ints xs)
 len : xs.length = 2 * m

theorem DW.draw {w : World} {g : Nat} {bs : List Int} {u : Value} {ov : Value} {m : Nat} {xs : List Int} {W W' : World} (h : DW w g bs u ov m xs W) (hgw : g < w.heap.size) (hc : Cur W' g bs) (hg : W.grownBy W' (some g)) : DW w g bs u ov m xs W' :=
 ⟨hc, blockGrown h.box hg (by omega), grown_trans h.gr hg, own_grown h.row hg (fun k hk e => by cases e; have := (h.row.lt _ hk).1; omega), h.len⟩

theorem DW.below {w : World} {g : Nat} {bs : List Int} {u : Value} {ov : Value} {m : Nat} {xs : List Int} {W W' : World} (h : DW w g bs u ov m xs W) (hb : Below W.heap.size W W') : DW w g bs u ov m xs W' :=
 ⟨cur_below h.cur hb, (hb.block _ (Array.getElem?_eq_some_iff.1 h.box).1).trans h.box, grown_trans h.gr (grown_of_below hb (some g)), own_kept h.row hb, h.len⟩

def StopD (p : Prop) : Prop := p
theorem stopD {p : Prop} (h : StopD p) : p := h

theorem grownRowW {a w w' : World} {row row' : Option Nat} (h : a.grownBy w row) (hg : w.grownBy w' row') (hr : ∀ k, row' = some k → a.heap.size ≤ k) : a.grownBy w' row :=
 ⟨hg.os.trans h.os, hg.tape.trans h.tape, hg.output.trans h.output, Nat.le_trans h.size hg.size, fun i hi hne => (hg.block i (Nat.lt_of_lt_of_le hi h.size) (fun e => by have := hr i e.symm; omega)).trans (h.block i hi hne)⟩

theorem DW.app {w : World} {g : Nat} {bs : List Int} {u : Value} {ov v7 : Value} {m : Nat} {xs : List Int} {W w7 : World} {a b : Int} (h : DW w g bs u ov m xs W) (hgw : g < w.heap.size) (hg : W.grownBy w7 ov.ownBlock) (ho : w7.ownsRow (w.heap.size + 1) 56 2 v7 (m + 1) (ints xs ++ [.int .i64 a, .int .i64 b])) : DW w g bs u v7 (m + 1) (xs ++ [a, b]) w7 := by
 have hlo : ∀ k, ov.ownBlock = some k → w.heap.size + 1 ≤ k := fun k hk => (h.row.lt k hk).1
 refine ⟨cur_grown h.cur hg (fun k hk => by have := hlo k hk; omega), (hg.block _ (Array.getElem?_eq_some_iff.1 h.box).1 (fun e => by have := hlo _ e.symm; omega)).trans h.box, grownRowW h.gr hg (fun k hk => by have := hlo k hk; omega), ?_, by simp [h.len]; omega⟩
 rw [ints_append]
 exact ho

theorem l12Draw (g base : Nat) (bs : List Int) (L : List Nat) (u : Value) (w : World) (hl : bs.length ≤ 1048576) (h5 : L.length ≤ 5) (h14 : ∀ n ∈ L, n ≤ 14) (hc : Cur w g bs) (hgb : g < base) (hb : base ≤ w.heap.size) (hpr : PrOk w base u L) :
 Calls Try.prog 63 #[.pointer (some ⟨g, 0, none⟩), .agg #[u]] w fun e w' => ∃ (a : Value) (xs : List Int) (n : Nat), e = .returned a ∧ xs.length = 2 * n ∧ 1 ≤ n ∧ n ≤ 32 ∧ w'.ownsRow w.heap.size 56 2 a n (ints xs) ∧ Cur w' g bs ∧ w.grownBy w' (some g) := by
 have hgw := curLt hc
 obtain ⟨ip, hip, hq0, hq1, hq2⟩ := info_parts infoPlace
 obtain ⟨ua, um, uc, rfl⟩ : ∃ a m c, u = .slice a m c := by
  obtain ⟨ao, cap, e, _⟩ := hpr
  exact ⟨_, _, _, e⟩
 go_enter Try.func63, Try.ntmps63
 obtain ⟨W, hW⟩ : ∃ W, (w.alloc (.cells #[.slice ua um uc] 30)).alloc (.cells #[.int .i64 0, .int .i64 0] 56) = W := ⟨_, rfl⟩
 have bW : Below w.heap.size w W := by rw [← hW]; go_grown
 have hbx : W.heap[w.heap.size]? = some (.cells #[.slice ua um uc] 30 (0, 0)) := by rw [← hW, old_block (by simp)]; exact heap_alloc_new w _
 have hrw : W.ownsRow (w.heap.size + 1) 56 2 (.slice (some ⟨w.heap.size + 1, 0, none⟩) 1 1) 1 (ints [0, 0]) := by
  have := World.ownsRow_lit (w.alloc (.cells #[.slice ua um uc] 30)) (e := 56) #[.int .i64 0, .int .i64 0] 1 (size := 2) (Nat.le_refl _) (by decide) (by simp)
  rw [hW, World.size_alloc] at this
  exact this
 have D0 : DW w g bs (.slice ua um uc) (.slice (some ⟨w.heap.size + 1, 0, none⟩) 1 1) 1 [0, 0] W := ⟨cur_below hc bW, hbx, grown_of_below bW _, hrw, rfl⟩
 clear bW hbx hrw
 go_wp2_with fail
 go_at_call 86
 refine (l1Below g bs 30 (by omega) W hl D0.cur).mono ?_
 rintro e w1 ⟨x, rfl, hx0, hx1, _, hc1, hg1⟩
 have hx30 := hx1 (by omega)
 have D1 : Hid _ := D0.draw hgw hc1 hg1
 clear D0 hc1 hg1 hx1
 go_wp2_with fail
 go_loopw [5, 6] (fun ov nv wr => ∃ (m : Nat) (xs : List Int) (x : Int), nv = .int .i64 x ∧ 0 ≤ x ∧ 1 ≤ m ∧ (m : Int) + x ≤ 30 ∧ DW w g bs (.slice ua um uc) ov m xs wr) (fun _ nv _ => (intOf nv).toNat)
 case atStart => exact ⟨1, _, x, rfl, hx0, by omega, by omega, D1.out⟩
 case round =>
  obtain ⟨m, xs, y, rfl, hy0, hm1, hmy, hD⟩ := hrel
  have HD : Hid (DW w g bs (.slice ua um uc) u5 m xs wr) := hD
  clear D1
  by_cases hy : 0 < y
  · obtain ⟨ps, hrp, hpl⟩ := (hpr.grown hD.gr (fun k hk => by cases hk; omega)).reads
    obtain ⟨hl1, hl2⟩ := drawn_lens hpl h5 h14
    have hst := specSteps ps xs m (.slice ua um uc) u5 wr hl1 hl2 hrp hD.len (by unfold maxLen; omega) (reads2_own hD.row)
    obtain ⟨oa, om, oc, hou⟩ := own_slice hD.row
    subst hou
    obtain ⟨c0, _⟩ := one_cell hD.box
    obtain ⟨nn, hnA, hn100⟩ := stepsA_len ps xs m
    obtain ⟨A, hA⟩ : ∃ A, stepsA ps xs m = A := ⟨_, rfl⟩
    rw [hA] at hst hnA
    clear hA hrp
    go_wp2_with fail
    go_at_call 88
    refine hst.mono ?_
    rintro e w2 ⟨lv, rfl, ol, b2⟩
    have D2 : Hid (DW w g bs (.slice ua um uc) (.slice oa om oc) m xs w2) := HD.out.below b2
    obtain ⟨n2, hn2, ol2⟩ := ol.ex
    obtain rfl : n2 = nn := by omega
    have OL : Hid (w2.ownsRow wr.heap.size 56 2 lv n2 (ints A)) := ol2
    obtain ⟨la, lc, hlv, _⟩ := reads2_own ol2
    subst hlv
    clear ol ol2 hst c0 hD
    by_cases hn0 : n2 = 0
    · subst hn0
      have hmm : m ≤ 30 := by omega
      go_wp2_with fail
      go_at_call 85
      refine (l1Once g bs 10 (by omega) w2 hl D2.out.cur).mono ?_
      rintro e wt ⟨bb, rfl, hct, hgt⟩
      have DT : Hid (DW w g bs (.slice ua um uc) (.slice oa om oc) m xs wt) := D2.out.draw hgw hct hgt
      clear hct hgt
      cases bb with
      | false =>
       go_wp2_with fail
       go_ret
       exact ⟨_, xs, m, rfl, DT.out.len, hm1, by omega, own_mono DT.out.row (by omega), DT.out.cur, DT.out.gr⟩
      | true =>
       go_wp2_with fail
       go_at_call 87
       refine (l1From g bs (-1) 4 (by omega) (by omega) (by omega) wt hl DT.out.cur).mono ?_
       rintro e wu ⟨xa, rfl, _, _, hcu, hgu⟩
       have DU : Hid (DW w g bs (.slice ua um uc) (.slice oa om oc) m xs wu) := DT.out.draw hgw hcu hgu
       clear hcu hgu
       go_wp2_with fail
       go_at_call 87
       refine (l1From g bs (-1) 7 (by omega) (by omega) (by omega) wu hl DU.out.cur).mono ?_
       rintro e wv ⟨xb, rfl, _, _, hcv, hgv⟩
       have D3 : Hid (DW w g bs (.slice ua um uc) (.slice oa om oc) m xs wv) := DU.out.draw hgw hcv hgv
       clear hcv hgv
       have DA : Hid (DW w g bs (.slice ua um uc) (.slice oa om oc) m xs (wv.alloc (.cells #[.int .i64 xa, .int .i64 xb] 56))) := D3.out.below (by go_grown)
       have HNW : Hid _ := World.news_of_block (heap_alloc_new wv (.cells #[.int .i64 xa, .int .i64 xb] 56))
       have hm3 : w.heap.size + 1 ≤ (wv.alloc (.cells #[.int .i64 xa, .int .i64 xb] 56)).heap.size := by have := (Array.getElem?_eq_some_iff.1 DA.out.box).1; omega
       go_wp2_with (first | (at_builtin; refine wpList_append_own _ rfl (.tmp 34) (.tmp 40) 43 rfl (w.heap.size + 1) 56 ip (.agg #[.int .i64 0, .int .i64 0]) 2 16 Try.underlying43 hip hq0 hq1 hq2 rfl (by decide) (.slice oa om oc) m _ rfl DA.out.row ⟨wv.heap.size, 0, none⟩ 1 1 [.int .i64 xa, .int .i64 xb] rfl rfl HNW.out (two_one xa xb) (by unfold maxLen; omega) (by omega) hm3 ?_; intro v7 w7 own7 grow7 _; refine stopD ?_))
       unfold StopD
       have S7 : Hid _ := DA.out.app hgw grow7 own7
       clear own7 grow7
       go_wp2_with fail
       go_ret
       exact ⟨_, _, m + 1, rfl, S7.out.len, by omega, by omega, own_mono S7.out.row (by omega), S7.out.cur, S7.out.gr⟩
    · have hn0' : ((n2 : Int) == 0) = false := by simp; omega
      go_wp2_with fail
      go_at_call 86
      refine (l1Below g bs (n2 : Int) (by omega) w2 hl D2.out.cur).mono ?_
      rintro e w3 ⟨z, rfl, hz0, hz1, _, hc3, hg3⟩
      have hz2 := hz1 (by omega)
      have D3 : Hid (DW w g bs (.slice ua um uc) (.slice oa om oc) m xs w3) := D2.out.draw hgw hc3 hg3
      have OL3 : w3.ownsRow wr.heap.size 56 2 (.slice la n2 lc) n2 (ints A) := own_grown OL.out hg3 (fun k hk e => by cases e; have h1 := (OL.out.lt _ hk).1; have h2 := HD.out.gr.size; omega)
      obtain ⟨zz, rfl⟩ : ∃ zz : Nat, z = zz := ⟨z.toNat, by omega⟩
      have hzz : zz < n2 := by omega
      obtain ⟨lg, lcc, hlf, _, _⟩ := World.ownsRow.form OL3 (by omega)
      cases hlf
      have q1 : w3.cell? ⟨lg, zz * 2, none⟩ = some (.int .i64 (A.getD (zz * 2) 0)) := by rw [OL3.cellAt (zz * 2) (by omega)]; simp [ints, List.getD, show zz * 2 < A.length by omega]
      have q2 : w3.cell? ⟨lg, zz * 2 + 1, none⟩ = some (.int .i64 (A.getD (zz * 2 + 1) 0)) := by rw [OL3.cellAt (zz * 2 + 1) (by omega)]; simp [ints, List.getD, show zz * 2 + 1 < A.length by omega]
      clear OL3 OL hc3 hg3
      generalize A.getD (zz * 2) 0 = xa at *
      generalize A.getD (zz * 2 + 1) 0 = xb at *
      have hzl : (zz : Int) < (n2 : Int) := by omega
      have DA : Hid (DW w g bs (.slice ua um uc) (.slice oa om oc) m xs (w3.alloc (.cells #[.int .i64 xa, .int .i64 xb] 56))) := D3.out.below (by go_grown)
      have HNW : Hid _ := World.news_of_block (heap_alloc_new w3 (.cells #[.int .i64 xa, .int .i64 xb] 56))
      have hm3 : w.heap.size + 1 ≤ (w3.alloc (.cells #[.int .i64 xa, .int .i64 xb] 56)).heap.size := by have := (Array.getElem?_eq_some_iff.1 DA.out.box).1; omega
      go_wp2_with (first | (at_builtin; refine wpList_append_own _ rfl (.tmp 22) (.tmp 30) 43 rfl (w.heap.size + 1) 56 ip (.agg #[.int .i64 0, .int .i64 0]) 2 16 Try.underlying43 hip hq0 hq1 hq2 rfl (by decide) (.slice oa om oc) m _ rfl DA.out.row ⟨w3.heap.size, 0, none⟩ 1 1 [.int .i64 xa, .int .i64 xb] rfl rfl HNW.out (two_one xa xb) (by unfold maxLen; omega) (by omega) hm3 ?_; intro v7 w7 own7 grow7 _; refine stopD ?_))
      unfold StopD
      have S7 : Hid _ := DA.out.app hgw grow7 own7
      clear own7 grow7
      have hwy : IntKind.i64.wrap (y - 1) = y - 1 := IntWalk.i64_in _ (by omega)
      go_wp2_with fail
      go_roundw
      case rel => exact ⟨m + 1, _, y - 1, by go_num, by omega, by omega, by push_cast; omega, S7.out⟩
      case measure => simp [intOf]; omega
  · have HY : Hid (DW w g bs (.slice ua um uc) u5 m xs wr) := HD.out
    obtain ⟨oa, om, oc, hou⟩ := own_slice hD.row
    subst hou
    have D2 : Hid (DW w g bs (.slice ua um uc) (.slice oa om oc) m xs wr) := HY.out
    have hmm : m ≤ 30 := by omega
    clear hD HD HY
    go_wp2_with fail
    go_at_call 85
    refine (l1Once g bs 10 (by omega) wr hl D2.out.cur).mono ?_
    rintro e wt ⟨bb, rfl, hct, hgt⟩
    have DT : Hid (DW w g bs (.slice ua um uc) (.slice oa om oc) m xs wt) := D2.out.draw hgw hct hgt
    clear hct hgt
    cases bb with
    | false =>
     go_wp2_with fail
     go_ret
     exact ⟨_, xs, m, rfl, DT.out.len, hm1, by omega, own_mono DT.out.row (by omega), DT.out.cur, DT.out.gr⟩
    | true =>
     go_wp2_with fail
     go_at_call 87
     refine (l1From g bs (-1) 4 (by omega) (by omega) (by omega) wt hl DT.out.cur).mono ?_
     rintro e wu ⟨xa, rfl, _, _, hcu, hgu⟩
     have DU : Hid (DW w g bs (.slice ua um uc) (.slice oa om oc) m xs wu) := DT.out.draw hgw hcu hgu
     clear hcu hgu
     go_wp2_with fail
     go_at_call 87
     refine (l1From g bs (-1) 7 (by omega) (by omega) (by omega) wu hl DU.out.cur).mono ?_
     rintro e wv ⟨xb, rfl, _, _, hcv, hgv⟩
     have D3 : Hid (DW w g bs (.slice ua um uc) (.slice oa om oc) m xs wv) := DU.out.draw hgw hcv hgv
     clear hcv hgv
     have DA : Hid (DW w g bs (.slice ua um uc) (.slice oa om oc) m xs (wv.alloc (.cells #[.int .i64 xa, .int .i64 xb] 56))) := D3.out.below (by go_grown)
     have HNW : Hid _ := World.news_of_block (heap_alloc_new wv (.cells #[.int .i64 xa, .int .i64 xb] 56))
     have hm3 : w.heap.size + 1 ≤ (wv.alloc (.cells #[.int .i64 xa, .int .i64 xb] 56)).heap.size := by have := (Array.getElem?_eq_some_iff.1 DA.out.box).1; omega
     go_wp2_with (first | (at_builtin; refine wpList_append_own _ rfl (.tmp 34) (.tmp 40) 43 rfl (w.heap.size + 1) 56 ip (.agg #[.int .i64 0, .int .i64 0]) 2 16 Try.underlying43 hip hq0 hq1 hq2 rfl (by decide) (.slice oa om oc) m _ rfl DA.out.row ⟨wv.heap.size, 0, none⟩ 1 1 [.int .i64 xa, .int .i64 xb] rfl rfl HNW.out (two_one xa xb) (by unfold maxLen; omega) (by omega) hm3 ?_; intro v7 w7 own7 grow7 _; refine stopD ?_))
     unfold StopD
     have S7 : Hid _ := DA.out.app hgw grow7 own7
     clear own7 grow7
     go_wp2_with fail
     go_ret
     exact ⟨_, _, m + 1, rfl, S7.out.len, by omega, by omega, own_mono S7.out.row (by omega), S7.out.cur, S7.out.gr⟩

end Go.Proofs.Ytnjbihfceckpfaa

/-
 What the laws of chapter 12 draw: spec.DrawWalkOk, DrawSteps.
-/
namespace Go.Proofs.Ytnjbihfceckpfaa
open Go.RowKit
set_option linter.unusedVariables false
set_option linter.unusedSimpArgs false
set_option maxHeartbeats 4000000
set_option maxRecDepth 20000

end Go.Proofs.Ytnjbihfceckpfaa

/-
 What FnWalks draws: spec.DrawHolding.
-/
namespace Go.Proofs.Ytnjbihfceckpfaa
open Go.RowKit
set_option linter.unusedVariables false
set_option linter.unusedSimpArgs false
set_option maxHeartbeats 4000000
set_option maxRecDepth 20000

/-- What is drawn: a Program, a client and Places. -/
def DrawnH (w : World) (e : Ending) (w' : World) : Prop :=
 ∃ (u : Value) (L : List Nat) (c : Int) (a : Value) (xs : List Int) (n : Nat), e = .returned (.tuple #[.agg #[u], .int .i64 c, a]) ∧ L.length ≤ 5 ∧ (∀ n ∈ L, n ≤ 14) ∧ PrOk w' w.heap.size u L ∧ xs.length = 2 * n ∧ 1 ≤ n ∧ n ≤ 32 ∧ w'.ownsRow w.heap.size 56 2 a n (ints xs) ∧ Below w.heap.size w w'

theorem drawHolding (bs : List Int) (v : Value) (w : World) (hl : bs.length ≤ 1048576) (hv : Reads w v (bs.map (Value.int .u8))) :
 Calls Try.prog 33 #[v] w fun e w' => DrawnH w e w' := by
 have hb0 : Below w.heap.size w (w.alloc (.cells #[.slice none 0 0] 30)) := by go_grown
 go_enter Try.func33, Try.ntmps33
 go_wp2_with fail
 go_at_call 60
 refine (l1New bs v _ hl (reads_below hv hb0)).mono ?_
 rintro e w1 ⟨g, rfl, hg, hc1, b1⟩
 have lt1 : w.heap.size < g := by have := hg; simp at this; omega
 have R1 : w1.heap[w.heap.size]? = some (.cells #[.slice none 0 0] 30 (0, 0)) := (b1.block _ (by simp)).trans (heap_alloc_new w _)
 have L1 : Below w.heap.size w w1 := hb0.trans (b1.mono hb0.size)
 have g1 := curLt hc1
 go_wp2_with fail
 go_at_call 61
 refine (l3DrawAny g bs w1 hl hc1).mono ?_
 rintro e w2 ⟨u, L, rfl, h5, h14, pr2, hc2, hg2⟩
 obtain ⟨ua, un, uc, rfl⟩ := pr2.slice
 have s2 := hg2.size
 obtain ⟨W, hW⟩ : ∃ W, w2.alloc (.cells #[.slice ua un uc] 30) = W := ⟨_, rfl⟩
 have D3 : Hid (PB w g bs w2.heap.size w1.heap.size (.slice ua un uc) L W) := by rw [← hW]; exact PB.begin lt1 g1 R1 L1 pr2 hc2 hg2
 have hP : w.heap.size < w2.heap.size := by omega
 have hgP : g < w2.heap.size := by omega
 have hzW : w2.heap.size < W.heap.size := (Array.getElem?_eq_some_iff.1 D3.out.box).1
 obtain ⟨c3, f3⟩ := oneCell D3.out.box
 obtain ⟨r3, fr3⟩ := oneCell D3.out.res
 clear pr2 hc2 hg2 hc1 R1 L1 b1
 go_wp2_with fail
 go_at_call 62
 refine (l7DrawClient g bs W hl D3.out.cur).mono ?_
 rintro e wc ⟨cl, rfl, hcc, hgc⟩
 have DC : Hid (PB w g bs w2.heap.size w1.heap.size (.slice ua un uc) L wc) := D3.out.draw lt1 g1 hgP hcc hgc
 have hzC : w2.heap.size < wc.heap.size := (Array.getElem?_eq_some_iff.1 DC.out.box).1
 clear c3 f3 r3 fr3 D3 hcc hgc
 obtain ⟨c3, f3⟩ := oneCell DC.out.box
 obtain ⟨r3, fr3⟩ := oneCell DC.out.res
 have hsC : w1.heap.size ≤ wc.heap.size := by omega
 have hdr := l12Draw g w1.heap.size bs L (.slice ua un uc) wc.drew hl h5 h14 (cur_below DC.out.cur (by go_grown)) g1 (by simp; omega) (DC.out.pr.grown (grown_of_below (by go_grown) (some g)) (fun k hk => by cases hk; omega))
 go_wp2_with fail
 refine wp_region_held_drew (S := fun w' => w'.cell? ⟨w2.heap.size, 0, none⟩ = some (.slice ua un uc)) (by kernel_rfl) c3 (fun hHeld => ?_)
 refine wpAnyH_take (i := 0) (oi := ?oid0) (v := .agg #[.slice ua un uc]) ?hid0 (by kernel_rfl) (by kernel_rfl) (by kernel_rfl) ?hqd0 ?hyd0 hHeld ?hrd0
 case hid0 =>
  simp only [gA, gB, gC]
  rfl
 case hqd0 => exact fun _ _ _ h => h
 case hyd0 => exact Or.inl ⟨by kernel_rfl, fun w hSw => by go_simp⟩
 try simp only [Act.put, gD, gE, gF]
 refine wpAnyH_take (i := 1) (oi := ?oid1) (v := .int .i64 cl) ?hid1 (by kernel_rfl) (by kernel_rfl) (by kernel_rfl) ?hqd1 ?hyd1 hHeld ?hrd1
 case hid1 =>
  simp only [gA, gB, gC]
  rfl
 case hqd1 => exact fun _ _ _ h => h
 case hyd1 => exact Or.inl ⟨by kernel_rfl, fun w hSw => by go_simp⟩
 try simp only [Act.put, gD, gE, gF]
 refine wpAnyH_take (i := 2) (oi := ?oid2) (v := .pointer (some ⟨g, 0, none⟩)) ?hid2 (by kernel_rfl) (by kernel_rfl) (by kernel_rfl) ?hqd2 ?hyd2 hHeld ?hrd2
 case hid2 =>
  simp only [gA, gB, gC]
  rfl
 case hqd2 => exact fun _ _ _ h => h
 case hyd2 => exact Or.inl ⟨by kernel_rfl, fun w hSw => by go_simp⟩
 try simp only [Act.put, gD, gE, gF]
 refine wpAnyH_take (i := 3) (oi := ?oid3) (v := .agg #[.slice ua un uc]) ?hid3 (by kernel_rfl) (by kernel_rfl) (by kernel_rfl) ?hqd3 ?hyd3 hHeld ?hrd3
 case hid3 =>
  simp only [gA, gB, gC]
  rfl
 case hqd3 => exact fun _ _ _ h => h
 case hyd3 => exact Or.inl ⟨by kernel_rfl, fun w hSw => by go_simp⟩
 try simp only [Act.put, gD, gE, gF]
 refine wpAnyH_ready (rs := [4]) (by kernel_rfl) (by simp) ?_
 refine (AllReadyH.cons (o := ?ood4) ?hod4 (fun K hK => ?hkd4) AllReadyH.nil)
 case hod4 =>
  simp only [gA, gB, gC]
  rfl
 case hkd4 =>
  go_simp
  go_at_call 63
  refine hdr.mono ?_
  rintro e w4 ⟨a, xs, n, rfl, hxs, hn1, hn2, oa, hc4, hg4⟩
  have D4 : Hid (PB w g bs w2.heap.size w1.heap.size (.slice ua un uc) L w4) := (PB.draw DC.out lt1 g1 hgP hc4 (grown_trans (grown_of_below (by go_grown) (some g)) hg4))
  have OA : Hid (w4.ownsRow wc.heap.size 56 2 a n (ints xs)) := oa
  obtain ⟨c4, f4⟩ := oneCell D4.out.box
  obtain ⟨r4, fr4⟩ := oneCell D4.out.res
  obtain ⟨aa, am, ac, rfl⟩ := own_slice oa
  clear oa hc4 hg4
  try go_wp2_with fail
  refine hK.out _ _ c4 (fun hHeld => ?_)
  clear hK K
  try simp only [Act.put, gD, gE, gF]
  refine wpAnyH_ready (rs := [5]) (by kernel_rfl) (by simp) ?_
  refine (AllReadyH.cons (o := ?ood5) ?hod5 (fun K hK => ?hkd5) AllReadyH.nil)
  case hod5 =>
   simp only [gA, gB, gC]
   rfl
  case hkd5 =>
   go_simp
   try go_wp2_with fail
   refine hK.out _ _ ((oneCell ((Below.heap_setCell _ _ _ _ (by simp; omega)).trans D4.out.box)).1) (fun hHeld => ?_)
   clear hK K
   try simp only [Act.put, gD, gE, gF]
   refine wpAnyH_take (i := 6) (oi := ?oid6) (v := .int .i64 cl) ?hid6 (by kernel_rfl) (by kernel_rfl) (by kernel_rfl) ?hqd6 ?hyd6 hHeld ?hrd6
   case hid6 =>
    simp only [gA, gB, gC]
    rfl
   case hqd6 => exact fun _ _ _ h => h
   case hyd6 => exact Or.inl ⟨by kernel_rfl, fun w hSw => by go_simp⟩
   try simp only [Act.put, gD, gE, gF]
   refine wpAnyH_take (i := 7) (oi := ?oid7) (v := .slice aa am ac) ?hid7 (by kernel_rfl) (by kernel_rfl) (by kernel_rfl) ?hqd7 ?hyd7 hHeld ?hrd7
   case hid7 =>
    simp only [gA, gB, gC]
    rfl
   case hqd7 => exact fun _ _ _ h => h
   case hyd7 => exact Or.inl ⟨by kernel_rfl, fun w hSw => by go_simp⟩
   try simp only [Act.put, gD, gE, gF]
   refine wpAnyH_done (by kernel_rfl) ?_ _
   obtain ⟨q1, q2, q3⟩ := D4.out.ends (by omega)
   have OB : Hid _ := ownsRow_setCell_other OA.out (a := ⟨w.heap.size, 0, none⟩) (fun e => by have := (OA.out.lt _ e).1; simp only at this; omega) (.slice ua un uc)
   clear c4
   go_wp2
   refine bodyPost_ret (v := .tuple #[.agg #[.slice ua un uc], .int .i64 cl, .slice aa am ac]) (by simp [results, Try.results33, go_sem, q3]) rfl ?_
   exact ⟨_, L, cl, _, xs, n, rfl, h5, h14, q1, hxs, hn1, hn2, own_mono OB.out (by omega), q2⟩

end Go.Proofs.Ytnjbihfceckpfaa

/-
 impl.canSum: are program and client right?
-/
namespace Go.Proofs.Ytnjbihfceckpfaa
open Go.RowKit
set_option linter.unusedVariables false
set_option linter.unusedSimpArgs false
set_option maxHeartbeats 4000000
set_option maxRecDepth 20000

theorem canSum (ps : List (List Stm)) (c : Int) (v : Value) (w : World) (hl : ps.length ≤ maxLen) (hp : ∀ p ∈ ps, p.length ≤ maxLen) (hv : ReadsP w v ps) :
 Calls Try.prog 44 #[.agg #[v], .int .i64 c] w fun e w' => e = .returned (.bool (okB ps c)) ∧ Below w.heap.size w w' := by
 have b0 : Below w.heap.size w (w.alloc (.cells #[v] 30)) := by go_grown
 have H0 := heap_alloc_new w (.cells #[v] 30)
 by_cases h2 : c = 1 ∨ c = 2
 · have hf := flowsOf c h2
   have hpo := fun W h => implProgramOk ps v W hl hp h
   have e : okB ps c = programOk ps := by simp [okB, h2]
   rw [e]
   unfold flowsV at hf
   generalize markFn c = m at *
   clear e h2
   go_enter Try.func44, Try.ntmps44
   go_wp2_with fail
   go_at_call 75
   refine (hf _).mono ?_
   rintro e w1 ⟨rfl, b1⟩
   have B1 := b0.trans (b1.mono b0.size)
   have q1 := (b1.block w.heap.size (by simp)).trans H0
   have hlt : w.heap.size < w1.heap.size := (Array.getElem?_eq_some_iff.1 q1).1
   have q2 : ∀ o, (w1.alloc o).cell? ⟨w.heap.size, 0, none⟩ = some v := fun o => (one_cell ((old_block hlt).trans q1)).1
   have hpo1 := fun o => hpo (w1.alloc o) (readsP_below hv (B1.alloc B1.size _))
   clear hf H0 b1 q1
   go_wp2_with (go_at_call 76; refine (hpo1 _).mono ?_; rintro e w2 ⟨rfl, b2⟩)
   go_ret
   exact ⟨rfl, (B1.alloc B1.size _).trans (b2.mono (by have := B1.size; simp; omega))⟩
 · have e : okB ps c = false := by simp [okB, h2]
   rw [e]
   have hf := flowsOfNo c (fun h => h2 (.inl h)) (fun h => h2 (.inr h))
   clear e h2
   go_enter Try.func44, Try.ntmps44
   go_wp2_with (go_at_call 75; refine (hf _).mono ?_; rintro e w1 ⟨rfl, b1⟩)
   go_ret
   have B1 := b0.trans (b1.mono b0.size)
   exact ⟨rfl, B1.alloc B1.size _⟩

end Go.Proofs.Ytnjbihfceckpfaa
