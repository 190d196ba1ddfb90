/-
 impl.comingOrder, spec.l14Numbers: the order in which one comes to procedures.
-/
import Derived.Test.YtldagpfeaabcdaaGreatDoorG28Ord14M
import Derived.BigRegion
namespace Go.Proofs.YtldagpfeaabcdaaGreatDoor
open Go.RowKit
set_option linter.unusedVariables false
set_option linter.unusedSimpArgs false
set_option maxHeartbeats 4000000
set_option maxRecDepth 20000
theorem come14_no {out : List Int} {s : Stm} (h : ¬ s.k = 8) : jh1 out s = out := if_neg (fun hh => h hh.1)
theorem qg3 {out : List Int} {s : Stm} (h : hasI out s.y = true) : jh1 out s = out := if_neg (fun hh => by rw [h] at hh; exact absurd hh.2 (by decide))
theorem qg4 {out : List Int} {s : Stm} (hk : s.k = 8) (h : hasI out s.y = false) : jh1 out s = out ++ [s.y] := if_pos ⟨hk, h⟩
theorem qi1 (out : List Int) (p : List Stm) : ji8 out (p.take p.length) = ji8 out p := by rw [List.take_length]
theorem qd8 (out : List Int) (p : List Stm) : ji8 out (p.take 0) = out := rfl
theorem go14_step {ps : List (List Stm)} {f i : Nat} {out : List Int} {R : List Int} (h : go14 ps f i out = R) (hi : i < out.length) (hf : f + i = 5) (h4 : out.length ≤ 4) : ∃ f', f' + (i + 1) = 5 ∧ go14 ps f' (i + 1) (ji8 out (ps.getD (out.getD i 0).toNat [])) = R := by
 cases f with
 | zero => omega
 | succ f =>
  refine ⟨f, by omega, ?_⟩
  rw [← h]
  conv => rhs; unfold go14
  rw [if_pos hi]
theorem go14_end {ps : List (List Stm)} {f i : Nat} {out : List Int} {R : List Int} (h : go14 ps f i out = R) (hi : ¬ i < out.length) : out = R := by
 cases f with
 | zero => exact h
 | succ f =>
  unfold go14 at h
  rw [if_neg hi] at h
  exact h
theorem lit14 (W : World) (b : Nat) (hb : b ≤ W.heap.size) (i : Int) : (W.alloc (.cells #[.int .i64 i] 2)).ownsRow b 2 1 (.slice (some ⟨W.heap.size, 0, none⟩) 1 1) 1 (ints [i]) :=
 jc4 (World.ownsRow_lit W (e := 2) #[.int .i64 i] 1 (size := 1) (Nat.le_refl _) (by decide) (by simp)) hb
theorem own_pos {w : World} {base : Nat} {e : TypeId} {v : Value} {n : Nat} {xs : List Value} (h : w.ownsRow base e 1 v n xs) (h0 : 0 < n) : ∃ g cap, v = .slice (some ⟨g, 0, none⟩) n cap := by
 rcases h.2 with ⟨rfl, hn⟩ | ⟨g, cap, cur, rfl, _⟩
 · omega
 · exact ⟨g, cap, rfl⟩
theorem comingOrder (ps : List (List Stm)) (i : Int) (v : Value) (w : World) (hok : hasB ps i = true) (hv : jb5 w v ps) :
 Calls Tryz.prog 56 #[.agg #[v], .int .i64 i] w fun e w' => ∃ g cap, e = .returned (.slice (some ⟨g, 0, none⟩) (jg4 ps i).length cap) ∧
  w'.ownsRow w.heap.size 2 1 (.slice (some ⟨g, 0, none⟩) (jg4 ps i).length cap) (jg4 ps i).length (ints (jg4 ps i)) ∧ Below w.heap.size w w' := by
 obtain ⟨i0, hi, hz0, hz1, hz2⟩ := info_parts jy6
 obtain ⟨hok1, hwi⟩ : ja5 ps = true ∧ wiB i ps.length = true := by unfold hasB at hok; simpa using hok
 obtain ⟨h4, h1, hpr⟩ := jc1 hok1
 have hcs := js3 hok1
 have ho0 := qe0 hwi
 obtain ⟨R, hR⟩ : ∃ R, jg4 ps i = R := ⟨_, rfl⟩
 rw [hR]
 have hg0 : go14 ps 5 0 [i] = R := hR
 obtain ⟨ao, vcap, rfl, hcv⟩ := hv
 obtain ⟨W1, hW1⟩ : ∃ W1, w.alloc (.cells #[.slice ao ps.length vcap] 26) = W1 := ⟨_, rfl⟩
 have s1 : W1.heap.size = w.heap.size + 1 := by rw [← hW1]; simp
 have L0 : Below w.heap.size w (W1.alloc (.cells #[.int .i64 i] 2)) := by rw [← hW1]; go_grown
 have X0 : (W1.alloc (.cells #[.int .i64 i] 2)).heap[w.heap.size]? = some (.cells #[.slice ao ps.length vcap] 26 (0, 0)) := by
  rw [ja2 (by omega), ← hW1]
  exact heap_alloc_new w _
 have m0 := lit14 W1 (w.heap.size + 1) (by omega) i
 have HR : Hid _ := hR
 have HW1 : Hid _ := hW1
 clear hR hok hok1 hwi hW1
 go_enter Tryz.func56, Tryz.ntmps56
 go_wp2
 rw [HW1.out]
 rw [s1] at m0
 clear HW1
 go_loopw [5, 6] (fun o q wr => ∃ (out : List Int) (f i g cap : Nat), o = .slice (some ⟨g, 0, none⟩) out.length cap ∧ q = .int .i64 i ∧ i ≤ out.length ∧ f + i = 5 ∧ Hid (go14 ps f i out = R) ∧ O14 ps out ∧
  wr.ownsRow (w.heap.size + 1) 2 1 (.slice (some ⟨g, 0, none⟩) out.length cap) out.length (ints out) ∧ Below w.heap.size w wr ∧ wr.heap[w.heap.size]? = some (.cells #[.slice ao ps.length vcap] 26 (0, 0))) (fun _ q _ => 5 - (intOf q).toNat)
 case atStart => exact ⟨[i], 5, 0, w.heap.size + 1, 1, rfl, rfl, Nat.zero_le _, rfl, hg0, ho0, m0, L0, X0⟩
 case round =>
  obtain ⟨out, f, i, g, cap, rfl, rfl, hil, hf, hgo, hO, hown, hb, hX⟩ := hrel
  clear m0 L0 X0 hg0 ho0
  have hol := hO.len
  by_cases hlt : i < out.length
  · have hlt' : (i : Int) < (out.length : Int) := by omega
    obtain ⟨f', hf', hgo'⟩ := go14_step hgo.out hlt hf (by omega)
    have hxg : out.getD i 0 = out[i] := by simp [List.getD_eq_getElem?_getD, List.getElem?_eq_getElem hlt]
    obtain ⟨hx0, hx1⟩ := hO.inn out[i] (List.getElem_mem hlt)
    obtain ⟨hxl, hxe⟩ := jv5 hx0 hx1
    have hca := hcs.at hx0 hx1
    rw [hxg, hxe] at hgo'
    rw [hxe] at hca
    have hpo := hpr _ (List.getElem_mem hxl)
    have hpl := jj5 hpo.1
    obtain ⟨gv, off, u, rfl, q0, r0⟩ := hcv (out[i].toNat) ps[out[i].toNat] (by simp)
    have q1 := (hb.cell (World.block_lt_of_cell? w _ q0)).trans q0
    have e0 : wr.cell? ⟨g, i, none⟩ = some (.int .i64 out[i]) := by
     rw [hown.cellAt i (by omega)]
     simp [ints]
    obtain ⟨c0, _⟩ := ja4 hX
    have hxt : ((out[i].toNat : Nat) : Int) = out[i] := by omega
    generalize ps[out[i].toNat] = p at *
    obtain ⟨t, ht⟩ : ∃ t : Nat, out[i].toNat = t := ⟨_, rfl⟩
    rw [ht] at hxt hxl q0 q1
    rw [← hxt] at e0
    have hxl' : (t : Int) < (ps.length : Int) := by omega
    obtain ⟨ua, uc, rfl, hcu⟩ := r0
    have HXG : Hid _ := hxt
    clear hxe hxg hx0 hx1 hxt ht hpo hcv q0
    go_wp2_with fail
    go_region
    have hbd : Below w.heap.size w wr.drew := hb.drew
    have hwd : wr.drew.ownsRow (w.heap.size + 1) 2 1 (.slice (some ⟨g, 0, none⟩) out.length cap) out.length (ints out) := hown
    have hXd : wr.drew.heap[w.heap.size]? = some (.cells #[.slice (some ⟨gv, off, none⟩) ps.length vcap] 26 (0, 0)) := hX
    obtain ⟨wo, hwo⟩ : ∃ wo, wr.drew = wo := ⟨_, rfl⟩
    rw [hwo] at hbd hwd hXd
    try rw [hwo]
    clear hb hown hX e0 c0 q1 hwo
    have hX2 : Hid _ := hXd
    have HCU : Hid _ := hcu
    go_wp2
    go_loopw [5, 27] (fun o q wr => ∃ (k g cap : Nat) (out' : List Int), k ≤ p.length ∧ q = .int .i64 k ∧ o = .slice (some ⟨g, 0, none⟩) out'.length cap ∧ Hid (ji8 out (p.take k) = out') ∧ O14 ps out' ∧
     wr.ownsRow (w.heap.size + 1) 2 1 (.slice (some ⟨g, 0, none⟩) out'.length cap) out'.length (ints out') ∧ Below w.heap.size w wr ∧ wr.heap[w.heap.size]? = some (.cells #[.slice (some ⟨gv, off, none⟩) ps.length vcap] 26 (0, 0))) (fun _ q _ => p.length - (intOf q).toNat)
    case atStart => exact ⟨0, g, cap, out, Nat.zero_le _, rfl, rfl, qd8 _ _, hO, hwd, hbd, hXd⟩
    case round =>
     obtain ⟨k, g', cap', out', hk, rfl, rfl, hsc, hO', own', hb', hX'⟩ := hrel
     clear hwd hbd hXd hX2
     have hol' := hO'.len
     by_cases hkl : k < p.length
     · have hkl' : (k : Int) < (p.length : Int) := by omega
       have hsn := qd2 out p k hkl
       rw [hsc.out] at hsn
       obtain ⟨gu, ou, rfl, y0, y1, y2⟩ := hcu k p[k] (by simp)
       have hB := World.block_lt_of_cell? w _ y0
       have a0 := (hb'.cell hB).trans y0
       have a1 := (hb'.cell (p := ⟨gu, ou + k * 3 + 1, none⟩) hB).trans y1
       have a2 := (hb'.cell (p := ⟨gu, ou + k * 3 + 2, none⟩) hB).trans y2
       have hcom := hO'.come (hca p[k] (List.getElem_mem hkl))
       have hc1 := @come14_no out' p[k]
       have hc2 := @qg3 out' p[k]
       have hc3 := @qg4 out' p[k]
       clear hcu hca y0 y1 y2
       generalize p[k] = t1 at *
       obtain ⟨sk, sx, sy⟩ := t1
       simp only at a0 a1 a2 hc1 hc2 hc3
       have bA : Below wr.heap.size wr (wr.alloc (.cells #[.int .i64 sk, .int .i64 sx, .int .i64 sy] 52)) := by go_grown
       have HBA : Hid (Below w.heap.size w (wr.alloc (.cells #[.int .i64 sk, .int .i64 sx, .int .i64 sy] 52))) := hb'.trans (bA.mono hb'.size)
       have HOA : Hid ((wr.alloc (.cells #[.int .i64 sk, .int .i64 sx, .int .i64 sy] 52)).ownsRow (w.heap.size + 1) 2 1 (.slice (some ⟨g', 0, none⟩) out'.length cap') out'.length (ints out')) := jc0 own' bA
       have hXl := (Array.getElem?_eq_some_iff.1 hX').1
       have HXA : Hid _ := (bA.block _ hXl).trans hX'
       have hcon := sliceContains out' sy (.slice (some ⟨g', 0, none⟩) out'.length cap') _ (by unfold maxLen; omega) (jc5 HOA.out)
       have HSN : Hid _ := hsn
       have HCOM : Hid _ := hcom
       have HC1 : Hid _ := hc1
       have HC2 : Hid _ := hc2
       have HC3 : Hid _ := hc3
       clear hsn hcom hc1 hc2 hc3 hsc own' bA
       by_cases h8 : sk = 8
       · subst h8
         cases hhas : hasI out' sy
         · rw [hhas] at hcon
           have HE : Hid (jh1 out' ⟨8, sx, sy⟩ = out' ++ [sy]) := HC3.out rfl hhas
           clear hhas HC1 HC2 HC3
           have Z0 : Hid _ := heap_alloc_new wr (.cells #[.int .i64 8, .int .i64 sx, .int .i64 sy] 52)
           have hsA : wr.heap.size < (wr.alloc (.cells #[.int .i64 8, .int .i64 sx, .int .i64 sy] 52)).heap.size := by simp
           go_wp2_with fail
           go_at_call 75
           refine hcon.mono ?_
           rintro e w2 ⟨rfl, rfl⟩
           clear hcon
           generalize wr.alloc (.cells #[.int .i64 8, .int .i64 sx, .int .i64 sy] 52) = wA at *
           obtain ⟨z0, z1, z2⟩ := three_cells' Z0.out
           have HAA : Hid (Below w.heap.size w (wA.alloc (.cells #[.int .i64 sy] 2))) := HBA.out.alloc HBA.out.size _
           have HSZ : Hid (w.heap.size + 1 ≤ (wA.alloc (.cells #[.int .i64 sy] 2)).heap.size) := by
            show w.heap.size + 1 ≤ _
            simp; omega
           have HXX : Hid ((wA.alloc (.cells #[.int .i64 sy] 2)).heap[w.heap.size]? = some (.cells #[.slice (some ⟨gv, off, none⟩) ps.length vcap] 26 (0, 0))) := (ja2 (by omega)).trans HXA.out
           go_wp2_with (first
            | (at_builtin; refine wpList_append_own _ rfl (.tmp 41) (.tmp 44) 38 rfl (w.heap.size + 1) 2 i0 (.int .i64 0) 1 8 Tryz.underlying38 hi hz0 hz1 hz2 rfl (by decide) _ _ _ rfl (World.ownsRow.alloc HOA.out _) ⟨wA.heap.size, 0, none⟩ 1 _ [.int .i64 sy] rfl rfl (cell_one _ sy) (jm5 [sy]) (by unfold maxLen; omega) (by omega) HSZ.out ?_; intro v6 w6 own6 grow6 _; have L6 := jw3 HAA.out grow6 (fun q hq => by have := (World.ownsRow.lt HOA.out q hq).1; omega); have X6 := (grow6.block w.heap.size (by simp; omega) (fun e => by have := (World.ownsRow.lt HOA.out w.heap.size e.symm).1; omega)).trans HXX.out)
            | go_in)
           have own7 : Hid (w6.ownsRow (w.heap.size + 1) 2 1 v6 (out' ++ [sy]).length (ints (out' ++ [sy]))) := by
            show w6.ownsRow (w.heap.size + 1) 2 1 v6 (out' ++ [sy]).length (ints (out' ++ [sy]))
            simpa [ints] using own6
           obtain ⟨g6, c6, rfl⟩ := own_pos own7.out (by simp)
           clear own6
           go_wp2
           go_roundw
           case rel => exact ⟨k + 1, g6, c6, out' ++ [sy], by omega, by go_num, rfl, HSN.out.trans HE.out, by rw [← HE.out]; exact HCOM.out, own7.out, L6, X6⟩
           case measure => simp [intOf]; omega
         · rw [hhas] at hcon
           have HE : Hid (jh1 out' ⟨8, sx, sy⟩ = out') := HC2.out hhas
           clear hhas HC1 HC2 HC3
           go_wp2_with (go_at_call 75; refine hcon.mono ?_; rintro e w2 ⟨rfl, rfl⟩)
           go_roundw
           case rel => exact ⟨k + 1, g', cap', out', by omega, by go_num, rfl, HSN.out.trans HE.out, by rw [← HE.out]; exact HCOM.out, HOA.out, HBA.out, HXA.out⟩
           case measure => simp [intOf]; omega
       · have h8' : (sk == 8) = false := by simpa using h8
         have HE : Hid (jh1 out' ⟨sk, sx, sy⟩ = out') := HC1.out h8
         clear HC1 HC2 HC3 h8
         go_wp2
         go_roundw
         case rel => exact ⟨k + 1, g', cap', out', by omega, by go_num, rfl, HSN.out.trans HE.out, by rw [← HE.out]; exact HCOM.out, HOA.out, HBA.out, HXA.out⟩
         case measure => simp [intOf]; omega
     · have hkk : k = p.length := by omega
       subst hkk
       have hsc2 := hsc.out
       rw [qi1] at hsc2
       have HG : Hid (go14 ps f' (i + 1) out' = R) := by rw [← hsc2]; exact hgo'
       have hle : i + 1 ≤ out'.length := by
        have := jn2 p (List.getElem?_eq_getElem hlt)
        rw [hsc2] at this
        exact (List.getElem?_eq_some_iff.1 this).1
       clear hsc hsc2 hgo' hgo
       go_wp2
       go_roundw
       case rel => exact ⟨out', f', i + 1, g', cap', rfl, by go_num, hle, hf', HG.out, hO', own', hb', hX'⟩
       case measure => simp [intOf]; omega
  · have he := go14_end hgo.out hlt
    subst he
    go_wp2
    go_ret
    exact ⟨g, cap, rfl, jc4 hown (by omega), hb⟩
theorem l14Numbers (ps : List (List Stm)) (i : Int) (v : Value) (w : World) (hok : hasB ps i = true) (hv : jb5 w v ps) :
 Calls Tryz.prog 60 #[.agg #[v], .int .i64 i] w fun e w' => ∃ g cap, e = .returned (.slice (some ⟨g, 0, none⟩) (jg4 ps i).length cap) ∧
  w'.ownsRow w.heap.size 2 1 (.slice (some ⟨g, 0, none⟩) (jg4 ps i).length cap) (jg4 ps i).length (ints (jg4 ps i)) ∧ Below w.heap.size w w' := by
 obtain ⟨i0, hi, hz0, hz1, hz2⟩ := info_parts jy6
 obtain ⟨hok1, hwi⟩ : ja5 ps = true ∧ wiB i ps.length = true := by unfold hasB at hok; simpa using hok
 obtain ⟨h4, h1, hpr⟩ := jc1 hok1
 have hcs := js3 hok1
 have ho0 := qe0 hwi
 obtain ⟨R, hR⟩ : ∃ R, jg4 ps i = R := ⟨_, rfl⟩
 rw [hR]
 have hg0 : go14 ps 5 0 [i] = R := hR
 obtain ⟨ao, vcap, rfl, hcv⟩ := hv
 obtain ⟨W1, hW1⟩ : ∃ W1, w.alloc (.cells #[.slice ao ps.length vcap] 26) = W1 := ⟨_, rfl⟩
 have s1 : W1.heap.size = w.heap.size + 1 := by rw [← hW1]; simp
 have L0 : Below w.heap.size w (W1.alloc (.cells #[.int .i64 i] 2)) := by rw [← hW1]; go_grown
 have X0 : (W1.alloc (.cells #[.int .i64 i] 2)).heap[w.heap.size]? = some (.cells #[.slice ao ps.length vcap] 26 (0, 0)) := by
  rw [ja2 (by omega), ← hW1]
  exact heap_alloc_new w _
 have m0 := lit14 W1 (w.heap.size + 1) (by omega) i
 have HR : Hid _ := hR
 have HW1 : Hid _ := hW1
 clear hR hok hok1 hwi hW1
 go_enter Tryz.func60, Tryz.ntmps60
 go_wp2
 rw [HW1.out]
 rw [s1] at m0
 clear HW1
 go_loopw [5, 6] (fun o q wr => ∃ (out : List Int) (f i g cap : Nat), o = .slice (some ⟨g, 0, none⟩) out.length cap ∧ q = .int .i64 i ∧ i ≤ out.length ∧ f + i = 5 ∧ Hid (go14 ps f i out = R) ∧ O14 ps out ∧
  wr.ownsRow (w.heap.size + 1) 2 1 (.slice (some ⟨g, 0, none⟩) out.length cap) out.length (ints out) ∧ Below w.heap.size w wr ∧ wr.heap[w.heap.size]? = some (.cells #[.slice ao ps.length vcap] 26 (0, 0))) (fun _ q _ => 5 - (intOf q).toNat)
 case atStart => exact ⟨[i], 5, 0, w.heap.size + 1, 1, rfl, rfl, Nat.zero_le _, rfl, hg0, ho0, m0, L0, X0⟩
 case round =>
  obtain ⟨out, f, i, g, cap, rfl, rfl, hil, hf, hgo, hO, hown, hb, hX⟩ := hrel
  clear m0 L0 X0 hg0 ho0
  have hol := hO.len
  by_cases hlt : i < out.length
  · have hlt' : (i : Int) < (out.length : Int) := by omega
    obtain ⟨f', hf', hgo'⟩ := go14_step hgo.out hlt hf (by omega)
    have hxg : out.getD i 0 = out[i] := by simp [List.getD_eq_getElem?_getD, List.getElem?_eq_getElem hlt]
    obtain ⟨hx0, hx1⟩ := hO.inn out[i] (List.getElem_mem hlt)
    obtain ⟨hxl, hxe⟩ := jv5 hx0 hx1
    have hca := hcs.at hx0 hx1
    rw [hxg, hxe] at hgo'
    rw [hxe] at hca
    have hpo := hpr _ (List.getElem_mem hxl)
    have hpl := jj5 hpo.1
    obtain ⟨gv, off, u, rfl, q0, r0⟩ := hcv (out[i].toNat) ps[out[i].toNat] (by simp)
    have q1 := (hb.cell (World.block_lt_of_cell? w _ q0)).trans q0
    have e0 : wr.cell? ⟨g, i, none⟩ = some (.int .i64 out[i]) := by
     rw [hown.cellAt i (by omega)]
     simp [ints]
    obtain ⟨c0, _⟩ := ja4 hX
    have hxt : ((out[i].toNat : Nat) : Int) = out[i] := by omega
    generalize ps[out[i].toNat] = p at *
    obtain ⟨t, ht⟩ : ∃ t : Nat, out[i].toNat = t := ⟨_, rfl⟩
    rw [ht] at hxt hxl q0 q1
    rw [← hxt] at e0
    have hxl' : (t : Int) < (ps.length : Int) := by omega
    obtain ⟨ua, uc, rfl, hcu⟩ := r0
    have HXG : Hid _ := hxt
    clear hxe hxg hx0 hx1 hxt ht hpo hcv q0
    go_wp2_with fail
    go_region
    have hbd : Below w.heap.size w wr.drew := hb.drew
    have hwd : wr.drew.ownsRow (w.heap.size + 1) 2 1 (.slice (some ⟨g, 0, none⟩) out.length cap) out.length (ints out) := hown
    have hXd : wr.drew.heap[w.heap.size]? = some (.cells #[.slice (some ⟨gv, off, none⟩) ps.length vcap] 26 (0, 0)) := hX
    obtain ⟨wo, hwo⟩ : ∃ wo, wr.drew = wo := ⟨_, rfl⟩
    rw [hwo] at hbd hwd hXd
    try rw [hwo]
    clear hb hown hX e0 c0 q1 hwo
    have hX2 : Hid _ := hXd
    have HCU : Hid _ := hcu
    go_wp2
    go_loopw [5, 8] (fun o q wr => ∃ (k g cap : Nat) (out' : List Int), k ≤ p.length ∧ q = .int .i64 k ∧ o = .slice (some ⟨g, 0, none⟩) out'.length cap ∧ Hid (ji8 out (p.take k) = out') ∧ O14 ps out' ∧
     wr.ownsRow (w.heap.size + 1) 2 1 (.slice (some ⟨g, 0, none⟩) out'.length cap) out'.length (ints out') ∧ Below w.heap.size w wr ∧ wr.heap[w.heap.size]? = some (.cells #[.slice (some ⟨gv, off, none⟩) ps.length vcap] 26 (0, 0))) (fun _ q _ => p.length - (intOf q).toNat)
    case atStart => exact ⟨0, g, cap, out, Nat.zero_le _, rfl, rfl, qd8 _ _, hO, hwd, hbd, hXd⟩
    case round =>
     obtain ⟨k, g', cap', out', hk, rfl, rfl, hsc, hO', own', hb', hX'⟩ := hrel
     clear hwd hbd hXd hX2
     have hol' := hO'.len
     by_cases hkl : k < p.length
     · have hkl' : (k : Int) < (p.length : Int) := by omega
       have hsn := qd2 out p k hkl
       rw [hsc.out] at hsn
       obtain ⟨gu, ou, rfl, y0, y1, y2⟩ := hcu k p[k] (by simp)
       have hB := World.block_lt_of_cell? w _ y0
       have a0 := (hb'.cell hB).trans y0
       have a1 := (hb'.cell (p := ⟨gu, ou + k * 3 + 1, none⟩) hB).trans y1
       have a2 := (hb'.cell (p := ⟨gu, ou + k * 3 + 2, none⟩) hB).trans y2
       have hcom := hO'.come (hca p[k] (List.getElem_mem hkl))
       have hc1 := @come14_no out' p[k]
       have hc2 := @qg3 out' p[k]
       have hc3 := @qg4 out' p[k]
       clear hcu hca y0 y1 y2
       generalize p[k] = t1 at *
       obtain ⟨sk, sx, sy⟩ := t1
       simp only at a0 a1 a2 hc1 hc2 hc3
       have hXl := (Array.getElem?_eq_some_iff.1 hX').1
       have hcon := l1Has out' sy (.slice (some ⟨g', 0, none⟩) out'.length cap') wr (by unfold maxLen; omega) (jc5 own')
       have hcon : Calls Tryz.prog 79 #[.slice (some ⟨g', 0, none⟩) out'.length cap', .int .i64 sy] wr fun e w' => e = .returned (.bool (hasI out' sy)) ∧ Below wr.heap.size wr w' := hcon
       have HSN : Hid _ := hsn
       have HCOM : Hid _ := hcom
       have HC1 : Hid _ := hc1
       have HC2 : Hid _ := hc2
       have HC3 : Hid _ := hc3
       have hguB : gu < wr.heap.size := Nat.lt_of_lt_of_le hB hb'.size
       clear hsn hcom hc1 hc2 hc3 hsc
       by_cases h8 : sk = 8
       · subst h8
         cases hhas : hasI out' sy
         · rw [hhas] at hcon
           have HE : Hid (jh1 out' ⟨8, sx, sy⟩ = out' ++ [sy]) := HC3.out rfl hhas
           clear hhas HC1 HC2 HC3
           go_wp2_with fail
           go_at_call 79
           refine hcon.mono ?_
           rintro e wA ⟨rfl, bA⟩
           clear hcon
           have sA := bA.size
           have z0 := (bA.cell (p := ⟨gu, ou + k * 3, none⟩) hguB).trans a0
           have z1 := (bA.cell (p := ⟨gu, ou + k * 3 + 1, none⟩) hguB).trans a1
           have z2 := (bA.cell (p := ⟨gu, ou + k * 3 + 2, none⟩) hguB).trans a2
           have HBA : Hid (Below w.heap.size w wA) := hb'.trans (bA.mono hb'.size)
           have HOA : Hid (wA.ownsRow (w.heap.size + 1) 2 1 (.slice (some ⟨g', 0, none⟩) out'.length cap') out'.length (ints out')) := jc0 own' bA
           have HXA : Hid _ := (bA.block _ hXl).trans hX'
           have HAA : Hid (Below w.heap.size w (wA.alloc (.cells #[.int .i64 sy] 2))) := HBA.out.alloc HBA.out.size _
           have HSZ : Hid (w.heap.size + 1 ≤ (wA.alloc (.cells #[.int .i64 sy] 2)).heap.size) := by
            show w.heap.size + 1 ≤ _
            simp; omega
           have HXX : Hid ((wA.alloc (.cells #[.int .i64 sy] 2)).heap[w.heap.size]? = some (.cells #[.slice (some ⟨gv, off, none⟩) ps.length vcap] 26 (0, 0))) := (ja2 (by omega)).trans HXA.out
           clear a0 a1 a2 hX' own'
           go_wp2_with (first
            | (at_builtin; refine wpList_append_own _ rfl (.tmp 48) (.tmp 54) 38 rfl (w.heap.size + 1) 2 i0 (.int .i64 0) 1 8 Tryz.underlying38 hi hz0 hz1 hz2 rfl (by decide) _ _ _ rfl (World.ownsRow.alloc HOA.out _) ⟨wA.heap.size, 0, none⟩ 1 _ [.int .i64 sy] rfl rfl (cell_one _ sy) (jm5 [sy]) (by unfold maxLen; omega) (by omega) HSZ.out ?_; intro v6 w6 own6 grow6 _; have L6 := jw3 HAA.out grow6 (fun q hq => by have := (World.ownsRow.lt HOA.out q hq).1; omega); have X6 := (grow6.block w.heap.size (by simp; omega) (fun e => by have := (World.ownsRow.lt HOA.out w.heap.size e.symm).1; omega)).trans HXX.out)
            | go_in)
           have own7 : Hid (w6.ownsRow (w.heap.size + 1) 2 1 v6 (out' ++ [sy]).length (ints (out' ++ [sy]))) := by
            show w6.ownsRow (w.heap.size + 1) 2 1 v6 (out' ++ [sy]).length (ints (out' ++ [sy]))
            simpa [ints] using own6
           obtain ⟨g6, c6, rfl⟩ := own_pos own7.out (by simp)
           clear own6
           go_wp2
           go_roundw
           case rel => exact ⟨k + 1, g6, c6, out' ++ [sy], by omega, by go_num, rfl, HSN.out.trans HE.out, by rw [← HE.out]; exact HCOM.out, own7.out, L6, X6⟩
           case measure => simp [intOf]; omega
         · rw [hhas] at hcon
           have HE : Hid (jh1 out' ⟨8, sx, sy⟩ = out') := HC2.out hhas
           clear hhas HC1 HC2 HC3
           go_wp2_with fail
           go_at_call 79
           refine hcon.mono ?_
           rintro e wA ⟨rfl, bA⟩
           have HBA : Hid (Below w.heap.size w wA) := hb'.trans (bA.mono hb'.size)
           have HOA : Hid (wA.ownsRow (w.heap.size + 1) 2 1 (.slice (some ⟨g', 0, none⟩) out'.length cap') out'.length (ints out')) := jc0 own' bA
           have HXA : Hid _ := (bA.block _ hXl).trans hX'
           clear hX' own' hcon
           go_wp2
           go_roundw
           case rel => exact ⟨k + 1, g', cap', out', by omega, by go_num, rfl, HSN.out.trans HE.out, by rw [← HE.out]; exact HCOM.out, HOA.out, HBA.out, HXA.out⟩
           case measure => simp [intOf]; omega
       · have h8' : (sk == 8) = false := by simpa using h8
         have HE : Hid (jh1 out' ⟨sk, sx, sy⟩ = out') := HC1.out h8
         have HX' : Hid _ := hX'
         clear HC1 HC2 HC3 h8 hcon hX'
         go_wp2
         go_roundw
         case rel => exact ⟨k + 1, g', cap', out', by omega, by go_num, rfl, HSN.out.trans HE.out, by rw [← HE.out]; exact HCOM.out, own', hb', HX'.out⟩
         case measure => simp [intOf]; omega
     · have hkk : k = p.length := by omega
       subst hkk
       have hsc2 := hsc.out
       rw [qi1] at hsc2
       have HG : Hid (go14 ps f' (i + 1) out' = R) := by rw [← hsc2]; exact hgo'
       have hle : i + 1 ≤ out'.length := by
        have := jn2 p (List.getElem?_eq_getElem hlt)
        rw [hsc2] at this
        exact (List.getElem?_eq_some_iff.1 this).1
       clear hsc hsc2 hgo' hgo
       go_wp2
       go_roundw
       case rel => exact ⟨out', f', i + 1, g', cap', rfl, by go_num, hle, hf', HG.out, hO', own', hb', hX'⟩
       case measure => simp [intOf]; omega
  · have he := go14_end hgo.out hlt
    subst he
    go_wp2
    go_ret
    exact ⟨g, cap, rfl, jc4 hown (by omega), hb⟩
end Go.Proofs.YtldagpfeaabcdaaGreatDoor
