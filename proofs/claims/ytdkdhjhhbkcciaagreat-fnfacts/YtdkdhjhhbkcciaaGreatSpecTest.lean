/-
 Chapter 11, the specification's side: Tests.
-/
import Derived.Test.YtdkdhjhhbkcciaaGreatG00Put
import Derived.Test.YtdkdhjhhbkcciaaGreatG27WaysM
import Derived.Test.YtdkdhjhhbkcciaaGreatImplAsk
namespace Go.Proofs.YtdkdhjhhbkcciaaGreat
open Go.RowKit
set_option linter.unusedVariables false
set_option linter.unusedSimpArgs false
set_option maxHeartbeats 8000000
set_option maxRecDepth 20000
theorem tmod_bit {x : Int} {n : Nat} (h : (x / 2 ^ n).tmod 2 = if bit x n = true then 1 else 0) : ((x / 2 ^ n).tmod 2 == 1) = bit x n := by
 rw [h]
 cases bit x n <;> rfl
theorem specTests (ps : List (List Stm)) (c : Int) (X : List Int) (hX : PlA ps c testF X) (v : Value) (w : World) (hl : ps.length ≤ maxLen) (hp : ∀ p ∈ ps, p.length ≤ maxLen) (hv : ReadsP w v ps) :
 Calls Tryz.prog 14 #[.agg #[v], .int .i64 c] w fun e w' => ∃ u, e = .returned u ∧ OwnPl w' w.heap.size u X ∧ Below w.heap.size w w' := by
 obtain ⟨ip, hip, hq0, hq1, hq2⟩ := info_parts infoPlace
 obtain ⟨W0, hW0⟩ : ∃ W0, (w.alloc (.cells #[v] 26)).alloc (.cells #[] 48) = W0 := ⟨_, rfl⟩
 have hb0 : Below w.heap.size w W0 := by rw [← hW0]; go_grown
 have hs0 : W0.heap.size = w.heap.size + 1 + 1 := by rw [← hW0]; simp
 have hsP : (w.alloc (.cells #[v] 26)).heap.size = w.heap.size + 1 := by simp
 have hP0 : W0.heap[w.heap.size]? = some (.cells #[v] 26 (0, 0)) := by
  rw [← hW0, old_block (by simp)]; exact heap_alloc_new w _
 have HO0 : Hid (OwnPl W0 (w.heap.size + 1) (.slice (some ⟨w.heap.size + 1, 0, none⟩) 0 0) []) := by
  have := made0P (w.alloc (.cells #[v] 26))
  rw [hW0, hsP] at this
  exact this
 obtain ⟨A, hA⟩ := factA_some ps c
 have hff := specFacts ps c A hA v W0 hl hp (readsP_below hv hb0)
 have hc0 := (one_cell hP0).1
 go_enter Tryz.func14, Tryz.ntmps14
 go_wp2_with fail
 go_at_call 10
 refine hff.mono ?_
 rintro e w1 ⟨fv, us, rfl, oF, b1⟩
 have HO1 : Hid _ := HO0.out.below b1
 have HF1 : Hid _ := oF
 have HB1 : Hid (Below w.heap.size w w1) := hb0.trans (b1.mono hb0.size)
 obtain ⟨af, cf, hfv, _⟩ := oF.reads
 obtain ⟨n, hn⟩ : ∃ n, A.length = n := ⟨_, rfl⟩
 rw [hn] at hfv
 subst hfv
 have HP : Hid (okB ps c = true ∧ (∃ I E, FA ps c I E ∧ A = factL ps I E ∧ X = allPl (selP ps testF I E) ps ps.length ∧ n = ps.length) ∨ (n = 0 ∧ X = [])) := by
  cases ho : okB ps c with
  | false => right; have := hA.2 ho; subst this; exact ⟨hn.symm, hX.2 ho⟩
  | true =>
   left
   obtain ⟨I, E, hI, e1⟩ := hX.1 ho
   obtain ⟨J, F, hJ, rfl⟩ := hA.1 ho
   obtain ⟨_, _, hcp, _⟩ := okB_parts ho
   refine ⟨rfl, J, F, hJ, rfl, ?_, by rw [← hn, factL_len]⟩
   rw [e1]
   exact allPl_congr _ (Nat.le_refl _) (fun j hj q hq => by unfold selP; rw [hI.rows hcp hJ.inn hJ.ent hj hq])
 have HP1 : Hid (w1.heap[w.heap.size]? = some (.cells #[v] 26 (0, 0))) := (b1.block _ (by omega)).trans hP0
 clear hW0 HO0 hff oF b1 hX hA hc0 hP0
 rcases HP.out with ⟨ho, I, E, hI, rfl, rfl, rfl⟩ | ⟨rfl, rfl⟩
 · obtain ⟨_, _, hcp, h4⟩ := okB_parts ho
   obtain ⟨ao, cap, rfl, hcell⟩ := id hv
   have h12 : ∀ i (hi : i < ps.length), ps[i].length ≤ 12 := fun i hi => (procOk_parts (hcp i hi).1).2.1
   have hlenb := fun i (hi : i ≤ ps.length) => allPl_len (selP ps testF I E) h12 i hi
   have hrowb := fun i k => rowPl_len (selP ps testF I E) i k
   clear HP
   go_wp2_with fail
   go_loopw [5, 7] (fun ov iv wr => ∃ i : Nat, i ≤ ps.length ∧ iv = .int .i64 i ∧ OwnPl wr (w.heap.size + 1) ov (allPl (selP ps testF I E) ps i) ∧ OwnSS wr W0.heap.size (.slice af ps.length cf) us (factL ps I E) ∧ Below w.heap.size w wr ∧ wr.heap[w.heap.size]? = some (.cells #[.slice ao ps.length cap] 26 (0, 0))) (fun _ iv _ => ps.length - (intOf iv).toNat)
   case atStart => exact ⟨0, Nat.zero_le _, rfl, HO1.out, HF1.out, HB1.out, HP1.out⟩
   case round =>
    obtain ⟨i, hi, rfl, hO, hF, hB, hPP⟩ := hrel
    have HO : Hid _ := hO
    have HF : Hid _ := hF
    have HB : Hid _ := hB
    have HPi : Hid (_ = some (Obj.cells #[.slice ao ps.length cap] 26 (0, 0))) := hPP
    clear HO1 HF1 HB1 HP1 hO hB hPP
    by_cases hlt : i < ps.length
    · have hlt' : (i : Int) < (ps.length : Int) := by omega
      have h12i := h12 i hlt
      have hsz : ps.getD i [] = ps[i] := by simp [List.getD, hlt]
      go_wp2_with fail
      go_loopw [5, 8] (fun ov kv wr => ∃ k : Nat, k ≤ ps[i].length ∧ kv = .int .i64 k ∧ OwnPl wr (w.heap.size + 1) ov (allPl (selP ps testF I E) ps i ++ rowPl (selP ps testF I E) i k) ∧ OwnSS wr W0.heap.size (.slice af ps.length cf) us (factL ps I E) ∧ Below w.heap.size w wr ∧ wr.heap[w.heap.size]? = some (.cells #[.slice ao ps.length cap] 26 (0, 0))) (fun _ kv _ => ps[i].length - (intOf kv).toNat)
      case atStart => exact ⟨0, Nat.zero_le _, rfl, by unfold rowPl; rw [List.append_nil]; exact HO.out, HF.out, HB.out, HPi.out⟩
      case round =>
       obtain ⟨k, hk, rfl, hO, hF, hB, hPP⟩ := hrel
       obtain ⟨a9, c9, e9, hrd⟩ := hF.reads
       rw [factL_len] at e9
       cases e9
       obtain ⟨g4, p4, v4, rfl, hc4, hR4⟩ := hrd i (rowF I E i ps[i].length) (factL_get hlt)
       obtain ⟨a5, c5, hv4, hcx⟩ := hR4
       rw [ints_length, rowF_len] at hv4
       subst hv4
       have HOk : Hid _ := hO
       have HFk : Hid _ := hF
       have HBk : Hid _ := hB
       have HPk : Hid (_ = some (Obj.cells #[.slice ao ps.length cap] 26 (0, 0))) := hPP
       clear HO HF HB hO hF hB hrd HPi hPP
       by_cases hkl : k < ps[i].length
       · have hkl' : (k : Int) < (ps[i].length : Int) := by omega
         obtain ⟨g5, p5, rfl, hc5⟩ := hcx k (.int .i64 (img (I i k) (E.getD i 0))) (by simp [ints, rowF, hkl])
         obtain ⟨gp, op, u, rfl, hu0, au, cu, rfl, hc3⟩ := hcell i ps[i] (by simp [hlt])
         obtain ⟨gs3, off3, rfl, k0, k1, k2⟩ := hc3 k ps[i][k] (by simp [hkl])
         have M0 := HBk.out
         have hu := (M0.cell (World.block_lt_of_cell? w _ hu0)).trans hu0
         have k0 := (M0.cell (World.block_lt_of_cell? w _ k0)).trans k0
         have k1 := (M0.cell (World.block_lt_of_cell? w _ k1)).trans k1
         have k2 := (M0.cell (World.block_lt_of_cell? w _ k2)).trans k2
         have hPc := (one_cell HPk.out).1
         have HOKS : stmtOk ps[i][k].k ps[i][k].x ps[i][k].y = true := ((hcp i hlt).2 _ (List.getElem_mem hkl)).1
         have hsz2 : (ps.getD i []).getD k ⟨0, 0, 0⟩ = ps[i][k] := by rw [hsz]; simp [List.getD, hkl]
         have hPk : selP ps testF I E i k = testF ps[i][k] (img (I i k) (E.getD i 0)) := by unfold selP; rw [hsz2]
         have hxs : Small (img (I i k) (E.getD i 0)) := img_small (hI.inn.good i hlt k hkl) _
         have hstep : rowPl (selP ps testF I E) i (k + 1) = rowPl (selP ps testF I E) i k ++ (if selP ps testF I E i k then [(i : Int), (k : Int)] else []) := rfl
         generalize img (I i k) (E.getD i 0) = x at *
         rw [hPk] at hstep
         obtain ⟨⟨sk, sx, sy⟩, hst⟩ : ∃ s, ps[i][k] = s := ⟨_, rfl⟩
         rw [hst] at k0 k1 k2 HOKS hstep
         simp only at k0 k1 k2 HOKS
         have bW : Below wr.heap.size wr (wr.alloc (.cells #[.int .i64 sk, .int .i64 sx, .int .i64 sy] 43)) := by go_grown
         have HX := heap_alloc_new wr (.cells #[.int .i64 sk, .int .i64 sx, .int .i64 sy] 43)
         obtain ⟨t0, t1, t2⟩ := three9 HX
         have c4 := (bW.cell (World.block_lt_of_cell? wr _ hc4)).trans hc4
         have c5x := (bW.cell (World.block_lt_of_cell? wr _ hc5)).trans hc5
         have HO6 : Hid _ := HOk.out.below (bW.trans (Below.drew (Below.refl _ _)))
         have HF6 : Hid _ := HFk.out.below (bW.trans (Below.drew (Below.refl _ _)))
         have HB6 : Hid (Below w.heap.size w (wr.alloc (.cells #[.int .i64 sk, .int .i64 sx, .int .i64 sy] 43)).drew) := HBk.out.trans ((Below.drew bW).mono HBk.out.size)
         have HP6 : Hid ((wr.alloc (.cells #[.int .i64 sk, .int .i64 sx, .int .i64 sy] 43)).drew.heap[w.heap.size]? = some (Obj.cells #[.slice (some ⟨gp, op, none⟩) ps.length cap] 26 (0, 0))) := (bW.block _ (Array.getElem?_eq_some_iff.1 HPk.out).1).trans HPk.out
         have hzz : w.heap.size + 1 ≤ wr.heap.size := (Array.getElem?_eq_some_iff.1 HPk.out).1
         have hz6 : wr.heap.size ≤ (wr.alloc (.cells #[.int .i64 sk, .int .i64 sx, .int .i64 sy] 43)).drew.heap.size := bW.size
         have HST : Hid _ := hstep
         clear hstep hPk hst hsz2 HX hcx
         go_wp2_with fail
         clear k0 k1 k2 hu hPc
         generalize hWd : wr.alloc (.cells #[.int .i64 sk, .int .i64 sx, .int .i64 sy] 43) = WA at *
         by_cases h6 : sk = 6
         · subst h6
           obtain ⟨n, hn, hn6⟩ := stmtOk_x6 HOKS
           subst hn
           have hbt := bit_tmod (n + 1) hxs
           have hbb0 := tmod_bit hbt
           have hte : testF ⟨6, (n : Int), sy⟩ x = bit x (n + 1) := by
            unfold testF
            have : ((n : Int) + 1).toNat = n + 1 := by omega
            simp [this]
           rw [hte] at HST
           obtain ⟨bb, hbq⟩ : ∃ bb, bit x (n + 1) = bb := ⟨_, rfl⟩
           rw [hbq] at HST hbb0
           clear hte hbt hbq HOKS
           have hcs : n = 0 ∨ n = 1 ∨ n = 2 ∨ n = 3 ∨ n = 4 ∨ n = 5 := by omega
           rcases hcs with rfl | rfl | rfl | rfl | rfl | rfl
           · have hbb : ((x / 2).tmod 2 == 1) = bb := by simpa using hbb0
             clear hbb0
             refine wp_region_held_drew (S := fun w' => ((w'.cell? ⟨wr.heap.size, 0, none⟩ = some (.int .i64 6) ∧ w'.cell? ⟨wr.heap.size, 1, none⟩ = some (.int .i64 0)) ∧ w'.cell? ⟨g4, p4 + i, none⟩ = some (.slice (some ⟨g5, p5, none⟩) ps[i].length c5)) ∧ w'.cell? ⟨g5, p5 + k, none⟩ = some (.int .i64 x)) (by kernel_rfl) ⟨⟨⟨t0, t1⟩, c4⟩, c5x⟩ (fun hHeld => ?_)
             refine wpAnyH_take (i := 0) (oi := ?oiy00) (v := .pointer (some ⟨wr.heap.size, 0, none⟩)) ?hiy00 (by kernel_rfl) (by kernel_rfl) (by kernel_rfl) ?hqy00 ?hyy00 hHeld ?hry00
             case hiy00 =>
              simp only [gA, gB, gC]
              rfl
             case hqy00 => exact fun _ _ _ h => h
             case hyy00 => exact Or.inl ⟨by kernel_rfl, fun w hSw => by go_simp⟩
             try simp only [Act.put, gD, gE, gF]
             refine wpAnyH_take (i := 1) (oi := ?oiy01) (v := .int .i64 6) ?hiy01 (by kernel_rfl) (by kernel_rfl) (by kernel_rfl) ?hqy01 ?hyy01 hHeld ?hry01
             case hiy01 =>
              simp only [gA, gB, gC]
              rfl
             case hqy01 => exact fun _ _ _ h => h
             case hyy01 => exact Or.inl ⟨by kernel_rfl, fun w hSw => by obtain ⟨⟨⟨s1, s2⟩, s3⟩, s4⟩ := hSw; go_simp⟩
             try simp only [Act.put, gD, gE, gF]
             refine wpAnyH_take (i := 2) (oi := ?oiy02) (v := .bool true) ?hiy02 (by kernel_rfl) (by kernel_rfl) (by kernel_rfl) ?hqy02 ?hyy02 hHeld ?hry02
             case hiy02 =>
              simp only [gA, gB, gC]
              rfl
             case hqy02 => exact fun _ _ _ h => h
             case hyy02 => exact Or.inl ⟨by kernel_rfl, fun w hSw => by go_simp⟩
             try simp only [Act.put, gD, gE, gF]
             refine wpAnyH_take (i := 3) (oi := ?oiy03) (v := .bool true) ?hiy03 (by kernel_rfl) (by kernel_rfl) (by kernel_rfl) ?hqy03 ?hyy03 hHeld ?hry03
             case hiy03 =>
              simp only [gA, gB, gC]
              rfl
             case hqy03 => exact fun _ _ _ h => h
             case hyy03 => exact Or.inl ⟨by kernel_rfl, fun w hSw => by go_simp⟩
             try simp only [Act.put, gD, gE, gF]
             refine wpAnyH_take (i := 4) (oi := ?oiy04) (v := .slice (some ⟨g4, p4, none⟩) ps.length cf) ?hiy04 (by kernel_rfl) (by kernel_rfl) (by kernel_rfl) ?hqy04 ?hyy04 hHeld ?hry04
             case hiy04 =>
              simp only [gA, gB, gC]
              rfl
             case hqy04 => exact fun _ _ _ h => h
             case hyy04 => exact Or.inl ⟨by kernel_rfl, fun w hSw => by go_simp⟩
             try simp only [Act.put, gD, gE, gF]
             refine wpAnyH_take (i := 5) (oi := ?oiy05) (v := .int .i64 (i : Int)) ?hiy05 (by kernel_rfl) (by kernel_rfl) (by kernel_rfl) ?hqy05 ?hyy05 hHeld ?hry05
             case hiy05 =>
              simp only [gA, gB, gC]
              rfl
             case hqy05 => exact fun _ _ _ h => h
             case hyy05 => exact Or.inl ⟨by kernel_rfl, fun w hSw => by go_simp⟩
             try simp only [Act.put, gD, gE, gF]
             refine wpAnyH_take (i := 6) (oi := ?oiy06) (v := .pointer (some ⟨g4, p4 + i, none⟩)) ?hiy06 (by kernel_rfl) (by kernel_rfl) (by kernel_rfl) ?hqy06 ?hyy06 hHeld ?hry06
             case hiy06 =>
              simp only [gA, gB, gC]
              rfl
             case hqy06 => exact fun _ _ _ h => h
             case hyy06 => exact Or.inl ⟨by kernel_rfl, fun w hSw => by go_simp⟩
             try simp only [Act.put, gD, gE, gF]
             refine wpAnyH_take (i := 7) (oi := ?oiy07) (v := .slice (some ⟨g5, p5, none⟩) ps[i].length c5) ?hiy07 (by kernel_rfl) (by kernel_rfl) (by kernel_rfl) ?hqy07 ?hyy07 hHeld ?hry07
             case hiy07 =>
              simp only [gA, gB, gC]
              rfl
             case hqy07 => exact fun _ _ _ h => h
             case hyy07 => exact Or.inl ⟨by kernel_rfl, fun w hSw => by obtain ⟨⟨⟨s1, s2⟩, s3⟩, s4⟩ := hSw; go_simp⟩
             try simp only [Act.put, gD, gE, gF]
             refine wpAnyH_take (i := 8) (oi := ?oiy08) (v := .int .i64 (k : Int)) ?hiy08 (by kernel_rfl) (by kernel_rfl) (by kernel_rfl) ?hqy08 ?hyy08 hHeld ?hry08
             case hiy08 =>
              simp only [gA, gB, gC]
              rfl
             case hqy08 => exact fun _ _ _ h => h
             case hyy08 => exact Or.inl ⟨by kernel_rfl, fun w hSw => by go_simp⟩
             try simp only [Act.put, gD, gE, gF]
             refine wpAnyH_take (i := 9) (oi := ?oiy09) (v := .pointer (some ⟨g5, p5 + k, none⟩)) ?hiy09 (by kernel_rfl) (by kernel_rfl) (by kernel_rfl) ?hqy09 ?hyy09 hHeld ?hry09
             case hiy09 =>
              simp only [gA, gB, gC]
              rfl
             case hqy09 => exact fun _ _ _ h => h
             case hyy09 => exact Or.inl ⟨by kernel_rfl, fun w hSw => by go_simp⟩
             try simp only [Act.put, gD, gE, gF]
             refine wpAnyH_take (i := 10) (oi := ?oiy010) (v := .int .i64 x) ?hiy010 (by kernel_rfl) (by kernel_rfl) (by kernel_rfl) ?hqy010 ?hyy010 hHeld ?hry010
             case hiy010 =>
              simp only [gA, gB, gC]
              rfl
             case hqy010 => exact fun _ _ _ h => h
             case hyy010 => exact Or.inl ⟨by kernel_rfl, fun w hSw => by obtain ⟨⟨⟨s1, s2⟩, s3⟩, s4⟩ := hSw; go_simp⟩
             try simp only [Act.put, gD, gE, gF]
             refine wpAnyH_take (i := 11) (oi := ?oiy011) (v := .pointer (some ⟨wr.heap.size, 1, none⟩)) ?hiy011 (by kernel_rfl) (by kernel_rfl) (by kernel_rfl) ?hqy011 ?hyy011 hHeld ?hry011
             case hiy011 =>
              simp only [gA, gB, gC]
              rfl
             case hqy011 => exact fun _ _ _ h => h
             case hyy011 => exact Or.inl ⟨by kernel_rfl, fun w hSw => by go_simp⟩
             try simp only [Act.put, gD, gE, gF]
             refine wpAnyH_take (i := 12) (oi := ?oiy012) (v := .int .i64 0) ?hiy012 (by kernel_rfl) (by kernel_rfl) (by kernel_rfl) ?hqy012 ?hyy012 hHeld ?hry012
             case hiy012 =>
              simp only [gA, gB, gC]
              rfl
             case hqy012 => exact fun _ _ _ h => h
             case hyy012 => exact Or.inl ⟨by kernel_rfl, fun w hSw => by obtain ⟨⟨⟨s1, s2⟩, s3⟩, s4⟩ := hSw; go_simp⟩
             try simp only [Act.put, gD, gE, gF]
             refine wpAnyH_take (i := 13) (oi := ?oiy013) (v := .int .i64 1) ?hiy013 (by kernel_rfl) (by kernel_rfl) (by kernel_rfl) ?hqy013 ?hyy013 hHeld ?hry013
             case hiy013 =>
              simp only [gA, gB, gC]
              rfl
             case hqy013 => exact fun _ _ _ h => h
             case hyy013 => exact Or.inl ⟨by kernel_rfl, fun w hSw => by go_simp <;> rfl⟩
             try simp only [Act.put, gD, gE, gF]
             refine wpAnyH_take (i := 14) (oi := ?oiy014) (v := .int .u64 1) ?hiy014 (by kernel_rfl) (by kernel_rfl) (by kernel_rfl) ?hqy014 ?hyy014 hHeld ?hry014
             case hiy014 =>
              simp only [gA, gB, gC]
              rfl
             case hqy014 => exact fun _ _ _ h => h
             case hyy014 => exact Or.inl ⟨by kernel_rfl, fun w hSw => by go_simp <;> rfl⟩
             try simp only [Act.put, gD, gE, gF]
             refine wpAnyH_take (i := 15) (oi := ?oiy015) (v := .int .i64 (x / 2)) ?hiy015 (by kernel_rfl) (by kernel_rfl) (by kernel_rfl) ?hqy015 ?hyy015 hHeld ?hry015
             case hiy015 =>
              simp only [gA, gB, gC]
              rfl
             case hqy015 => exact fun _ _ _ h => h
             case hyy015 => exact Or.inl ⟨by kernel_rfl, fun w hSw => by go_simp⟩
             try simp only [Act.put, gD, gE, gF]
             refine wpAnyH_take (i := 16) (oi := ?oiy016) (v := .int .i64 ((x / 2).tmod 2)) ?hiy016 (by kernel_rfl) (by kernel_rfl) (by kernel_rfl) ?hqy016 ?hyy016 hHeld ?hry016
             case hiy016 =>
              simp only [gA, gB, gC]
              rfl
             case hqy016 => exact fun _ _ _ h => h
             case hyy016 => exact Or.inl ⟨by kernel_rfl, fun w hSw => by go_simp⟩
             try simp only [Act.put, gD, gE, gF]
             refine wpAnyH_take (i := 17) (oi := ?oiy017) (v := .bool bb) ?hiy017 (by kernel_rfl) (by kernel_rfl) (by kernel_rfl) ?hqy017 ?hyy017 hHeld ?hry017
             case hiy017 =>
              simp only [gA, gB, gC]
              rfl
             case hqy017 => exact fun _ _ _ h => h
             case hyy017 => exact Or.inl ⟨by kernel_rfl, fun w hSw => by go_simp <;> exact hbb⟩
             try simp only [Act.put, gD, gE, gF]
             refine wpAnyH_take (i := 18) (oi := ?oiy018) (v := .bool bb) ?hiy018 (by kernel_rfl) (by kernel_rfl) (by kernel_rfl) ?hqy018 ?hyy018 hHeld ?hry018
             case hiy018 =>
              simp only [gA, gB, gC]
              rfl
             case hqy018 => exact fun _ _ _ h => h
             case hyy018 => exact Or.inl ⟨by kernel_rfl, fun w hSw => by go_simp⟩
             try simp only [Act.put, gD, gE, gF]
             refine wpAnyH_done (by kernel_rfl) ?_ _
             cases bb
             · go_wp2_with fail
               go_roundw
               case rel => exact ⟨k + 1, by omega, by go_num, by rw [HST.out]; simpa using HO6.out, HF6.out, HB6.out, HP6.out⟩
               case measure => simp [intOf]; omega
             · obtain ⟨m, hm, hown⟩ := HO6.out.ex
               obtain ⟨m1, q1, q2⟩ := hlenb i (by omega)
               obtain ⟨m2, q3, q4⟩ := hrowb i k
               have hmb : m ≤ 1000 := by rw [List.length_append] at hm; omega
               have HNB : Hid _ := heap_alloc_new WA.drew (.cells #[.int .i64 (i : Int), .int .i64 (k : Int)] 48)
               have HMB : Hid _ := hm
               clear hm
               have HAL : Hid _ := hown.alloc (.cells #[.int .i64 (i : Int), .int .i64 (k : Int)] 48)
               have bA : Below WA.drew.heap.size WA.drew (WA.drew.alloc (.cells #[.int .i64 (i : Int), .int .i64 (k : Int)] 48)) := by go_grown
               have HFA : Hid _ := HF6.out.below bA
               have HOA : Hid _ := HO6.out.below bA
               have HBA : Hid (Below w.heap.size w (WA.drew.alloc (.cells #[.int .i64 (i : Int), .int .i64 (k : Int)] 48))) := HB6.out.trans (bA.mono HB6.out.size)
               have hm1 : m + 1 ≤ maxLen := by unfold maxLen; omega
               have hm2 : (m + 1) * 16 ≤ 140737488355328 := by omega
               have hm3 : w.heap.size + 1 ≤ (WA.drew.alloc (.cells #[.int .i64 (i : Int), .int .i64 (k : Int)] 48)).heap.size := by have := bA.size; omega
               have hnews := World.news_of_block HNB.out
               have HNW : Hid _ := hnews
               clear hnews
               go_wp2_with (first
                | (at_builtin; refine wpList_append_own _ rfl (.tmp 57) (.tmp 61) 33 rfl (w.heap.size + 1) 48 ip (.agg #[.int .i64 0, .int .i64 0]) 2 16 Tryz.underlying33 hip hq0 hq1 hq2 rfl (by decide) u5 m _ rfl HAL.out ⟨WA.heap.size, 0, none⟩ 1 1 [.int .i64 (i : Int), .int .i64 (k : Int)] rfl rfl HNW.out (two_one i k) hm1 hm2 hm3 ?_; intro v7 w7 own7 grow7 _; refine stop_of ?_))
               unfold Stop
               have S7 : Hid _ := OwnPl.app HMB.out own7
               have F7 : Hid _ := OwnSS.kind HFA.out HOA.out grow7
               have B7 : Hid (Below w.heap.size w w7) := HBA.out.grown grow7 HBA.out.size (fun q hq => by have := (hown.lt q hq).1; omega)
               have P7 : Hid (w7.heap[w.heap.size]? = some (Obj.cells #[.slice (some ⟨gp, op, none⟩) ps.length cap] 26 (0, 0))) := (grow7.block _ (Nat.lt_of_lt_of_le (Array.getElem?_eq_some_iff.1 HP6.out).1 bA.size) (fun e => by have := (hown.lt _ e.symm).1; omega)).trans ((bA.block _ (Array.getElem?_eq_some_iff.1 HP6.out).1).trans HP6.out)
               clear own7 grow7
               go_wp2_with fail
               go_roundw
               case rel => exact ⟨k + 1, by omega, by go_num, by rw [HST.out, ← List.append_assoc]; exact S7.out, F7.out, B7.out, P7.out⟩
               case measure => simp [intOf]; omega
           · have hbb : ((x / 4).tmod 2 == 1) = bb := by simpa using hbb0
             clear hbb0
             refine wp_region_held_drew (S := fun w' => ((w'.cell? ⟨wr.heap.size, 0, none⟩ = some (.int .i64 6) ∧ w'.cell? ⟨wr.heap.size, 1, none⟩ = some (.int .i64 1)) ∧ w'.cell? ⟨g4, p4 + i, none⟩ = some (.slice (some ⟨g5, p5, none⟩) ps[i].length c5)) ∧ w'.cell? ⟨g5, p5 + k, none⟩ = some (.int .i64 x)) (by kernel_rfl) ⟨⟨⟨t0, t1⟩, c4⟩, c5x⟩ (fun hHeld => ?_)
             refine wpAnyH_take (i := 0) (oi := ?oiy10) (v := .pointer (some ⟨wr.heap.size, 0, none⟩)) ?hiy10 (by kernel_rfl) (by kernel_rfl) (by kernel_rfl) ?hqy10 ?hyy10 hHeld ?hry10
             case hiy10 =>
              simp only [gA, gB, gC]
              rfl
             case hqy10 => exact fun _ _ _ h => h
             case hyy10 => exact Or.inl ⟨by kernel_rfl, fun w hSw => by go_simp⟩
             try simp only [Act.put, gD, gE, gF]
             refine wpAnyH_take (i := 1) (oi := ?oiy11) (v := .int .i64 6) ?hiy11 (by kernel_rfl) (by kernel_rfl) (by kernel_rfl) ?hqy11 ?hyy11 hHeld ?hry11
             case hiy11 =>
              simp only [gA, gB, gC]
              rfl
             case hqy11 => exact fun _ _ _ h => h
             case hyy11 => exact Or.inl ⟨by kernel_rfl, fun w hSw => by obtain ⟨⟨⟨s1, s2⟩, s3⟩, s4⟩ := hSw; go_simp⟩
             try simp only [Act.put, gD, gE, gF]
             refine wpAnyH_take (i := 2) (oi := ?oiy12) (v := .bool true) ?hiy12 (by kernel_rfl) (by kernel_rfl) (by kernel_rfl) ?hqy12 ?hyy12 hHeld ?hry12
             case hiy12 =>
              simp only [gA, gB, gC]
              rfl
             case hqy12 => exact fun _ _ _ h => h
             case hyy12 => exact Or.inl ⟨by kernel_rfl, fun w hSw => by go_simp⟩
             try simp only [Act.put, gD, gE, gF]
             refine wpAnyH_take (i := 3) (oi := ?oiy13) (v := .bool true) ?hiy13 (by kernel_rfl) (by kernel_rfl) (by kernel_rfl) ?hqy13 ?hyy13 hHeld ?hry13
             case hiy13 =>
              simp only [gA, gB, gC]
              rfl
             case hqy13 => exact fun _ _ _ h => h
             case hyy13 => exact Or.inl ⟨by kernel_rfl, fun w hSw => by go_simp⟩
             try simp only [Act.put, gD, gE, gF]
             refine wpAnyH_take (i := 4) (oi := ?oiy14) (v := .slice (some ⟨g4, p4, none⟩) ps.length cf) ?hiy14 (by kernel_rfl) (by kernel_rfl) (by kernel_rfl) ?hqy14 ?hyy14 hHeld ?hry14
             case hiy14 =>
              simp only [gA, gB, gC]
              rfl
             case hqy14 => exact fun _ _ _ h => h
             case hyy14 => exact Or.inl ⟨by kernel_rfl, fun w hSw => by go_simp⟩
             try simp only [Act.put, gD, gE, gF]
             refine wpAnyH_take (i := 5) (oi := ?oiy15) (v := .int .i64 (i : Int)) ?hiy15 (by kernel_rfl) (by kernel_rfl) (by kernel_rfl) ?hqy15 ?hyy15 hHeld ?hry15
             case hiy15 =>
              simp only [gA, gB, gC]
              rfl
             case hqy15 => exact fun _ _ _ h => h
             case hyy15 => exact Or.inl ⟨by kernel_rfl, fun w hSw => by go_simp⟩
             try simp only [Act.put, gD, gE, gF]
             refine wpAnyH_take (i := 6) (oi := ?oiy16) (v := .pointer (some ⟨g4, p4 + i, none⟩)) ?hiy16 (by kernel_rfl) (by kernel_rfl) (by kernel_rfl) ?hqy16 ?hyy16 hHeld ?hry16
             case hiy16 =>
              simp only [gA, gB, gC]
              rfl
             case hqy16 => exact fun _ _ _ h => h
             case hyy16 => exact Or.inl ⟨by kernel_rfl, fun w hSw => by go_simp⟩
             try simp only [Act.put, gD, gE, gF]
             refine wpAnyH_take (i := 7) (oi := ?oiy17) (v := .slice (some ⟨g5, p5, none⟩) ps[i].length c5) ?hiy17 (by kernel_rfl) (by kernel_rfl) (by kernel_rfl) ?hqy17 ?hyy17 hHeld ?hry17
             case hiy17 =>
              simp only [gA, gB, gC]
              rfl
             case hqy17 => exact fun _ _ _ h => h
             case hyy17 => exact Or.inl ⟨by kernel_rfl, fun w hSw => by obtain ⟨⟨⟨s1, s2⟩, s3⟩, s4⟩ := hSw; go_simp⟩
             try simp only [Act.put, gD, gE, gF]
             refine wpAnyH_take (i := 8) (oi := ?oiy18) (v := .int .i64 (k : Int)) ?hiy18 (by kernel_rfl) (by kernel_rfl) (by kernel_rfl) ?hqy18 ?hyy18 hHeld ?hry18
             case hiy18 =>
              simp only [gA, gB, gC]
              rfl
             case hqy18 => exact fun _ _ _ h => h
             case hyy18 => exact Or.inl ⟨by kernel_rfl, fun w hSw => by go_simp⟩
             try simp only [Act.put, gD, gE, gF]
             refine wpAnyH_take (i := 9) (oi := ?oiy19) (v := .pointer (some ⟨g5, p5 + k, none⟩)) ?hiy19 (by kernel_rfl) (by kernel_rfl) (by kernel_rfl) ?hqy19 ?hyy19 hHeld ?hry19
             case hiy19 =>
              simp only [gA, gB, gC]
              rfl
             case hqy19 => exact fun _ _ _ h => h
             case hyy19 => exact Or.inl ⟨by kernel_rfl, fun w hSw => by go_simp⟩
             try simp only [Act.put, gD, gE, gF]
             refine wpAnyH_take (i := 10) (oi := ?oiy110) (v := .int .i64 x) ?hiy110 (by kernel_rfl) (by kernel_rfl) (by kernel_rfl) ?hqy110 ?hyy110 hHeld ?hry110
             case hiy110 =>
              simp only [gA, gB, gC]
              rfl
             case hqy110 => exact fun _ _ _ h => h
             case hyy110 => exact Or.inl ⟨by kernel_rfl, fun w hSw => by obtain ⟨⟨⟨s1, s2⟩, s3⟩, s4⟩ := hSw; go_simp⟩
             try simp only [Act.put, gD, gE, gF]
             refine wpAnyH_take (i := 11) (oi := ?oiy111) (v := .pointer (some ⟨wr.heap.size, 1, none⟩)) ?hiy111 (by kernel_rfl) (by kernel_rfl) (by kernel_rfl) ?hqy111 ?hyy111 hHeld ?hry111
             case hiy111 =>
              simp only [gA, gB, gC]
              rfl
             case hqy111 => exact fun _ _ _ h => h
             case hyy111 => exact Or.inl ⟨by kernel_rfl, fun w hSw => by go_simp⟩
             try simp only [Act.put, gD, gE, gF]
             refine wpAnyH_take (i := 12) (oi := ?oiy112) (v := .int .i64 1) ?hiy112 (by kernel_rfl) (by kernel_rfl) (by kernel_rfl) ?hqy112 ?hyy112 hHeld ?hry112
             case hiy112 =>
              simp only [gA, gB, gC]
              rfl
             case hqy112 => exact fun _ _ _ h => h
             case hyy112 => exact Or.inl ⟨by kernel_rfl, fun w hSw => by obtain ⟨⟨⟨s1, s2⟩, s3⟩, s4⟩ := hSw; go_simp⟩
             try simp only [Act.put, gD, gE, gF]
             refine wpAnyH_take (i := 13) (oi := ?oiy113) (v := .int .i64 2) ?hiy113 (by kernel_rfl) (by kernel_rfl) (by kernel_rfl) ?hqy113 ?hyy113 hHeld ?hry113
             case hiy113 =>
              simp only [gA, gB, gC]
              rfl
             case hqy113 => exact fun _ _ _ h => h
             case hyy113 => exact Or.inl ⟨by kernel_rfl, fun w hSw => by go_simp <;> rfl⟩
             try simp only [Act.put, gD, gE, gF]
             refine wpAnyH_take (i := 14) (oi := ?oiy114) (v := .int .u64 2) ?hiy114 (by kernel_rfl) (by kernel_rfl) (by kernel_rfl) ?hqy114 ?hyy114 hHeld ?hry114
             case hiy114 =>
              simp only [gA, gB, gC]
              rfl
             case hqy114 => exact fun _ _ _ h => h
             case hyy114 => exact Or.inl ⟨by kernel_rfl, fun w hSw => by go_simp <;> rfl⟩
             try simp only [Act.put, gD, gE, gF]
             refine wpAnyH_take (i := 15) (oi := ?oiy115) (v := .int .i64 (x / 4)) ?hiy115 (by kernel_rfl) (by kernel_rfl) (by kernel_rfl) ?hqy115 ?hyy115 hHeld ?hry115
             case hiy115 =>
              simp only [gA, gB, gC]
              rfl
             case hqy115 => exact fun _ _ _ h => h
             case hyy115 => exact Or.inl ⟨by kernel_rfl, fun w hSw => by go_simp⟩
             try simp only [Act.put, gD, gE, gF]
             refine wpAnyH_take (i := 16) (oi := ?oiy116) (v := .int .i64 ((x / 4).tmod 2)) ?hiy116 (by kernel_rfl) (by kernel_rfl) (by kernel_rfl) ?hqy116 ?hyy116 hHeld ?hry116
             case hiy116 =>
              simp only [gA, gB, gC]
              rfl
             case hqy116 => exact fun _ _ _ h => h
             case hyy116 => exact Or.inl ⟨by kernel_rfl, fun w hSw => by go_simp⟩
             try simp only [Act.put, gD, gE, gF]
             refine wpAnyH_take (i := 17) (oi := ?oiy117) (v := .bool bb) ?hiy117 (by kernel_rfl) (by kernel_rfl) (by kernel_rfl) ?hqy117 ?hyy117 hHeld ?hry117
             case hiy117 =>
              simp only [gA, gB, gC]
              rfl
             case hqy117 => exact fun _ _ _ h => h
             case hyy117 => exact Or.inl ⟨by kernel_rfl, fun w hSw => by go_simp <;> exact hbb⟩
             try simp only [Act.put, gD, gE, gF]
             refine wpAnyH_take (i := 18) (oi := ?oiy118) (v := .bool bb) ?hiy118 (by kernel_rfl) (by kernel_rfl) (by kernel_rfl) ?hqy118 ?hyy118 hHeld ?hry118
             case hiy118 =>
              simp only [gA, gB, gC]
              rfl
             case hqy118 => exact fun _ _ _ h => h
             case hyy118 => exact Or.inl ⟨by kernel_rfl, fun w hSw => by go_simp⟩
             try simp only [Act.put, gD, gE, gF]
             refine wpAnyH_done (by kernel_rfl) ?_ _
             cases bb
             · go_wp2_with fail
               go_roundw
               case rel => exact ⟨k + 1, by omega, by go_num, by rw [HST.out]; simpa using HO6.out, HF6.out, HB6.out, HP6.out⟩
               case measure => simp [intOf]; omega
             · obtain ⟨m, hm, hown⟩ := HO6.out.ex
               obtain ⟨m1, q1, q2⟩ := hlenb i (by omega)
               obtain ⟨m2, q3, q4⟩ := hrowb i k
               have hmb : m ≤ 1000 := by rw [List.length_append] at hm; omega
               have HNB : Hid _ := heap_alloc_new WA.drew (.cells #[.int .i64 (i : Int), .int .i64 (k : Int)] 48)
               have HMB : Hid _ := hm
               clear hm
               have HAL : Hid _ := hown.alloc (.cells #[.int .i64 (i : Int), .int .i64 (k : Int)] 48)
               have bA : Below WA.drew.heap.size WA.drew (WA.drew.alloc (.cells #[.int .i64 (i : Int), .int .i64 (k : Int)] 48)) := by go_grown
               have HFA : Hid _ := HF6.out.below bA
               have HOA : Hid _ := HO6.out.below bA
               have HBA : Hid (Below w.heap.size w (WA.drew.alloc (.cells #[.int .i64 (i : Int), .int .i64 (k : Int)] 48))) := HB6.out.trans (bA.mono HB6.out.size)
               have hm1 : m + 1 ≤ maxLen := by unfold maxLen; omega
               have hm2 : (m + 1) * 16 ≤ 140737488355328 := by omega
               have hm3 : w.heap.size + 1 ≤ (WA.drew.alloc (.cells #[.int .i64 (i : Int), .int .i64 (k : Int)] 48)).heap.size := by have := bA.size; omega
               have hnews := World.news_of_block HNB.out
               have HNW : Hid _ := hnews
               clear hnews
               go_wp2_with (first
                | (at_builtin; refine wpList_append_own _ rfl (.tmp 57) (.tmp 61) 33 rfl (w.heap.size + 1) 48 ip (.agg #[.int .i64 0, .int .i64 0]) 2 16 Tryz.underlying33 hip hq0 hq1 hq2 rfl (by decide) u5 m _ rfl HAL.out ⟨WA.heap.size, 0, none⟩ 1 1 [.int .i64 (i : Int), .int .i64 (k : Int)] rfl rfl HNW.out (two_one i k) hm1 hm2 hm3 ?_; intro v7 w7 own7 grow7 _; refine stop_of ?_))
               unfold Stop
               have S7 : Hid _ := OwnPl.app HMB.out own7
               have F7 : Hid _ := OwnSS.kind HFA.out HOA.out grow7
               have B7 : Hid (Below w.heap.size w w7) := HBA.out.grown grow7 HBA.out.size (fun q hq => by have := (hown.lt q hq).1; omega)
               have P7 : Hid (w7.heap[w.heap.size]? = some (Obj.cells #[.slice (some ⟨gp, op, none⟩) ps.length cap] 26 (0, 0))) := (grow7.block _ (Nat.lt_of_lt_of_le (Array.getElem?_eq_some_iff.1 HP6.out).1 bA.size) (fun e => by have := (hown.lt _ e.symm).1; omega)).trans ((bA.block _ (Array.getElem?_eq_some_iff.1 HP6.out).1).trans HP6.out)
               clear own7 grow7
               go_wp2_with fail
               go_roundw
               case rel => exact ⟨k + 1, by omega, by go_num, by rw [HST.out, ← List.append_assoc]; exact S7.out, F7.out, B7.out, P7.out⟩
               case measure => simp [intOf]; omega
           · have hbb : ((x / 8).tmod 2 == 1) = bb := by simpa using hbb0
             clear hbb0
             refine wp_region_held_drew (S := fun w' => ((w'.cell? ⟨wr.heap.size, 0, none⟩ = some (.int .i64 6) ∧ w'.cell? ⟨wr.heap.size, 1, none⟩ = some (.int .i64 2)) ∧ w'.cell? ⟨g4, p4 + i, none⟩ = some (.slice (some ⟨g5, p5, none⟩) ps[i].length c5)) ∧ w'.cell? ⟨g5, p5 + k, none⟩ = some (.int .i64 x)) (by kernel_rfl) ⟨⟨⟨t0, t1⟩, c4⟩, c5x⟩ (fun hHeld => ?_)
             refine wpAnyH_take (i := 0) (oi := ?oiy20) (v := .pointer (some ⟨wr.heap.size, 0, none⟩)) ?hiy20 (by kernel_rfl) (by kernel_rfl) (by kernel_rfl) ?hqy20 ?hyy20 hHeld ?hry20
             case hiy20 =>
              simp only [gA, gB, gC]
              rfl
             case hqy20 => exact fun _ _ _ h => h
             case hyy20 => exact Or.inl ⟨by kernel_rfl, fun w hSw => by go_simp⟩
             try simp only [Act.put, gD, gE, gF]
             refine wpAnyH_take (i := 1) (oi := ?oiy21) (v := .int .i64 6) ?hiy21 (by kernel_rfl) (by kernel_rfl) (by kernel_rfl) ?hqy21 ?hyy21 hHeld ?hry21
             case hiy21 =>
              simp only [gA, gB, gC]
              rfl
             case hqy21 => exact fun _ _ _ h => h
             case hyy21 => exact Or.inl ⟨by kernel_rfl, fun w hSw => by obtain ⟨⟨⟨s1, s2⟩, s3⟩, s4⟩ := hSw; go_simp⟩
             try simp only [Act.put, gD, gE, gF]
             refine wpAnyH_take (i := 2) (oi := ?oiy22) (v := .bool true) ?hiy22 (by kernel_rfl) (by kernel_rfl) (by kernel_rfl) ?hqy22 ?hyy22 hHeld ?hry22
             case hiy22 =>
              simp only [gA, gB, gC]
              rfl
             case hqy22 => exact fun _ _ _ h => h
             case hyy22 => exact Or.inl ⟨by kernel_rfl, fun w hSw => by go_simp⟩
             try simp only [Act.put, gD, gE, gF]
             refine wpAnyH_take (i := 3) (oi := ?oiy23) (v := .bool true) ?hiy23 (by kernel_rfl) (by kernel_rfl) (by kernel_rfl) ?hqy23 ?hyy23 hHeld ?hry23
             case hiy23 =>
              simp only [gA, gB, gC]
              rfl
             case hqy23 => exact fun _ _ _ h => h
             case hyy23 => exact Or.inl ⟨by kernel_rfl, fun w hSw => by go_simp⟩
             try simp only [Act.put, gD, gE, gF]
             refine wpAnyH_take (i := 4) (oi := ?oiy24) (v := .slice (some ⟨g4, p4, none⟩) ps.length cf) ?hiy24 (by kernel_rfl) (by kernel_rfl) (by kernel_rfl) ?hqy24 ?hyy24 hHeld ?hry24
             case hiy24 =>
              simp only [gA, gB, gC]
              rfl
             case hqy24 => exact fun _ _ _ h => h
             case hyy24 => exact Or.inl ⟨by kernel_rfl, fun w hSw => by go_simp⟩
             try simp only [Act.put, gD, gE, gF]
             refine wpAnyH_take (i := 5) (oi := ?oiy25) (v := .int .i64 (i : Int)) ?hiy25 (by kernel_rfl) (by kernel_rfl) (by kernel_rfl) ?hqy25 ?hyy25 hHeld ?hry25
             case hiy25 =>
              simp only [gA, gB, gC]
              rfl
             case hqy25 => exact fun _ _ _ h => h
             case hyy25 => exact Or.inl ⟨by kernel_rfl, fun w hSw => by go_simp⟩
             try simp only [Act.put, gD, gE, gF]
             refine wpAnyH_take (i := 6) (oi := ?oiy26) (v := .pointer (some ⟨g4, p4 + i, none⟩)) ?hiy26 (by kernel_rfl) (by kernel_rfl) (by kernel_rfl) ?hqy26 ?hyy26 hHeld ?hry26
             case hiy26 =>
              simp only [gA, gB, gC]
              rfl
             case hqy26 => exact fun _ _ _ h => h
             case hyy26 => exact Or.inl ⟨by kernel_rfl, fun w hSw => by go_simp⟩
             try simp only [Act.put, gD, gE, gF]
             refine wpAnyH_take (i := 7) (oi := ?oiy27) (v := .slice (some ⟨g5, p5, none⟩) ps[i].length c5) ?hiy27 (by kernel_rfl) (by kernel_rfl) (by kernel_rfl) ?hqy27 ?hyy27 hHeld ?hry27
             case hiy27 =>
              simp only [gA, gB, gC]
              rfl
             case hqy27 => exact fun _ _ _ h => h
             case hyy27 => exact Or.inl ⟨by kernel_rfl, fun w hSw => by obtain ⟨⟨⟨s1, s2⟩, s3⟩, s4⟩ := hSw; go_simp⟩
             try simp only [Act.put, gD, gE, gF]
             refine wpAnyH_take (i := 8) (oi := ?oiy28) (v := .int .i64 (k : Int)) ?hiy28 (by kernel_rfl) (by kernel_rfl) (by kernel_rfl) ?hqy28 ?hyy28 hHeld ?hry28
             case hiy28 =>
              simp only [gA, gB, gC]
              rfl
             case hqy28 => exact fun _ _ _ h => h
             case hyy28 => exact Or.inl ⟨by kernel_rfl, fun w hSw => by go_simp⟩
             try simp only [Act.put, gD, gE, gF]
             refine wpAnyH_take (i := 9) (oi := ?oiy29) (v := .pointer (some ⟨g5, p5 + k, none⟩)) ?hiy29 (by kernel_rfl) (by kernel_rfl) (by kernel_rfl) ?hqy29 ?hyy29 hHeld ?hry29
             case hiy29 =>
              simp only [gA, gB, gC]
              rfl
             case hqy29 => exact fun _ _ _ h => h
             case hyy29 => exact Or.inl ⟨by kernel_rfl, fun w hSw => by go_simp⟩
             try simp only [Act.put, gD, gE, gF]
             refine wpAnyH_take (i := 10) (oi := ?oiy210) (v := .int .i64 x) ?hiy210 (by kernel_rfl) (by kernel_rfl) (by kernel_rfl) ?hqy210 ?hyy210 hHeld ?hry210
             case hiy210 =>
              simp only [gA, gB, gC]
              rfl
             case hqy210 => exact fun _ _ _ h => h
             case hyy210 => exact Or.inl ⟨by kernel_rfl, fun w hSw => by obtain ⟨⟨⟨s1, s2⟩, s3⟩, s4⟩ := hSw; go_simp⟩
             try simp only [Act.put, gD, gE, gF]
             refine wpAnyH_take (i := 11) (oi := ?oiy211) (v := .pointer (some ⟨wr.heap.size, 1, none⟩)) ?hiy211 (by kernel_rfl) (by kernel_rfl) (by kernel_rfl) ?hqy211 ?hyy211 hHeld ?hry211
             case hiy211 =>
              simp only [gA, gB, gC]
              rfl
             case hqy211 => exact fun _ _ _ h => h
             case hyy211 => exact Or.inl ⟨by kernel_rfl, fun w hSw => by go_simp⟩
             try simp only [Act.put, gD, gE, gF]
             refine wpAnyH_take (i := 12) (oi := ?oiy212) (v := .int .i64 2) ?hiy212 (by kernel_rfl) (by kernel_rfl) (by kernel_rfl) ?hqy212 ?hyy212 hHeld ?hry212
             case hiy212 =>
              simp only [gA, gB, gC]
              rfl
             case hqy212 => exact fun _ _ _ h => h
             case hyy212 => exact Or.inl ⟨by kernel_rfl, fun w hSw => by obtain ⟨⟨⟨s1, s2⟩, s3⟩, s4⟩ := hSw; go_simp⟩
             try simp only [Act.put, gD, gE, gF]
             refine wpAnyH_take (i := 13) (oi := ?oiy213) (v := .int .i64 3) ?hiy213 (by kernel_rfl) (by kernel_rfl) (by kernel_rfl) ?hqy213 ?hyy213 hHeld ?hry213
             case hiy213 =>
              simp only [gA, gB, gC]
              rfl
             case hqy213 => exact fun _ _ _ h => h
             case hyy213 => exact Or.inl ⟨by kernel_rfl, fun w hSw => by go_simp <;> rfl⟩
             try simp only [Act.put, gD, gE, gF]
             refine wpAnyH_take (i := 14) (oi := ?oiy214) (v := .int .u64 3) ?hiy214 (by kernel_rfl) (by kernel_rfl) (by kernel_rfl) ?hqy214 ?hyy214 hHeld ?hry214
             case hiy214 =>
              simp only [gA, gB, gC]
              rfl
             case hqy214 => exact fun _ _ _ h => h
             case hyy214 => exact Or.inl ⟨by kernel_rfl, fun w hSw => by go_simp <;> rfl⟩
             try simp only [Act.put, gD, gE, gF]
             refine wpAnyH_take (i := 15) (oi := ?oiy215) (v := .int .i64 (x / 8)) ?hiy215 (by kernel_rfl) (by kernel_rfl) (by kernel_rfl) ?hqy215 ?hyy215 hHeld ?hry215
             case hiy215 =>
              simp only [gA, gB, gC]
              rfl
             case hqy215 => exact fun _ _ _ h => h
             case hyy215 => exact Or.inl ⟨by kernel_rfl, fun w hSw => by go_simp⟩
             try simp only [Act.put, gD, gE, gF]
             refine wpAnyH_take (i := 16) (oi := ?oiy216) (v := .int .i64 ((x / 8).tmod 2)) ?hiy216 (by kernel_rfl) (by kernel_rfl) (by kernel_rfl) ?hqy216 ?hyy216 hHeld ?hry216
             case hiy216 =>
              simp only [gA, gB, gC]
              rfl
             case hqy216 => exact fun _ _ _ h => h
             case hyy216 => exact Or.inl ⟨by kernel_rfl, fun w hSw => by go_simp⟩
             try simp only [Act.put, gD, gE, gF]
             refine wpAnyH_take (i := 17) (oi := ?oiy217) (v := .bool bb) ?hiy217 (by kernel_rfl) (by kernel_rfl) (by kernel_rfl) ?hqy217 ?hyy217 hHeld ?hry217
             case hiy217 =>
              simp only [gA, gB, gC]
              rfl
             case hqy217 => exact fun _ _ _ h => h
             case hyy217 => exact Or.inl ⟨by kernel_rfl, fun w hSw => by go_simp <;> exact hbb⟩
             try simp only [Act.put, gD, gE, gF]
             refine wpAnyH_take (i := 18) (oi := ?oiy218) (v := .bool bb) ?hiy218 (by kernel_rfl) (by kernel_rfl) (by kernel_rfl) ?hqy218 ?hyy218 hHeld ?hry218
             case hiy218 =>
              simp only [gA, gB, gC]
              rfl
             case hqy218 => exact fun _ _ _ h => h
             case hyy218 => exact Or.inl ⟨by kernel_rfl, fun w hSw => by go_simp⟩
             try simp only [Act.put, gD, gE, gF]
             refine wpAnyH_done (by kernel_rfl) ?_ _
             cases bb
             · go_wp2_with fail
               go_roundw
               case rel => exact ⟨k + 1, by omega, by go_num, by rw [HST.out]; simpa using HO6.out, HF6.out, HB6.out, HP6.out⟩
               case measure => simp [intOf]; omega
             · obtain ⟨m, hm, hown⟩ := HO6.out.ex
               obtain ⟨m1, q1, q2⟩ := hlenb i (by omega)
               obtain ⟨m2, q3, q4⟩ := hrowb i k
               have hmb : m ≤ 1000 := by rw [List.length_append] at hm; omega
               have HNB : Hid _ := heap_alloc_new WA.drew (.cells #[.int .i64 (i : Int), .int .i64 (k : Int)] 48)
               have HMB : Hid _ := hm
               clear hm
               have HAL : Hid _ := hown.alloc (.cells #[.int .i64 (i : Int), .int .i64 (k : Int)] 48)
               have bA : Below WA.drew.heap.size WA.drew (WA.drew.alloc (.cells #[.int .i64 (i : Int), .int .i64 (k : Int)] 48)) := by go_grown
               have HFA : Hid _ := HF6.out.below bA
               have HOA : Hid _ := HO6.out.below bA
               have HBA : Hid (Below w.heap.size w (WA.drew.alloc (.cells #[.int .i64 (i : Int), .int .i64 (k : Int)] 48))) := HB6.out.trans (bA.mono HB6.out.size)
               have hm1 : m + 1 ≤ maxLen := by unfold maxLen; omega
               have hm2 : (m + 1) * 16 ≤ 140737488355328 := by omega
               have hm3 : w.heap.size + 1 ≤ (WA.drew.alloc (.cells #[.int .i64 (i : Int), .int .i64 (k : Int)] 48)).heap.size := by have := bA.size; omega
               have hnews := World.news_of_block HNB.out
               have HNW : Hid _ := hnews
               clear hnews
               go_wp2_with (first
                | (at_builtin; refine wpList_append_own _ rfl (.tmp 57) (.tmp 61) 33 rfl (w.heap.size + 1) 48 ip (.agg #[.int .i64 0, .int .i64 0]) 2 16 Tryz.underlying33 hip hq0 hq1 hq2 rfl (by decide) u5 m _ rfl HAL.out ⟨WA.heap.size, 0, none⟩ 1 1 [.int .i64 (i : Int), .int .i64 (k : Int)] rfl rfl HNW.out (two_one i k) hm1 hm2 hm3 ?_; intro v7 w7 own7 grow7 _; refine stop_of ?_))
               unfold Stop
               have S7 : Hid _ := OwnPl.app HMB.out own7
               have F7 : Hid _ := OwnSS.kind HFA.out HOA.out grow7
               have B7 : Hid (Below w.heap.size w w7) := HBA.out.grown grow7 HBA.out.size (fun q hq => by have := (hown.lt q hq).1; omega)
               have P7 : Hid (w7.heap[w.heap.size]? = some (Obj.cells #[.slice (some ⟨gp, op, none⟩) ps.length cap] 26 (0, 0))) := (grow7.block _ (Nat.lt_of_lt_of_le (Array.getElem?_eq_some_iff.1 HP6.out).1 bA.size) (fun e => by have := (hown.lt _ e.symm).1; omega)).trans ((bA.block _ (Array.getElem?_eq_some_iff.1 HP6.out).1).trans HP6.out)
               clear own7 grow7
               go_wp2_with fail
               go_roundw
               case rel => exact ⟨k + 1, by omega, by go_num, by rw [HST.out, ← List.append_assoc]; exact S7.out, F7.out, B7.out, P7.out⟩
               case measure => simp [intOf]; omega
           · have hbb : ((x / 16).tmod 2 == 1) = bb := by simpa using hbb0
             clear hbb0
             refine wp_region_held_drew (S := fun w' => ((w'.cell? ⟨wr.heap.size, 0, none⟩ = some (.int .i64 6) ∧ w'.cell? ⟨wr.heap.size, 1, none⟩ = some (.int .i64 3)) ∧ w'.cell? ⟨g4, p4 + i, none⟩ = some (.slice (some ⟨g5, p5, none⟩) ps[i].length c5)) ∧ w'.cell? ⟨g5, p5 + k, none⟩ = some (.int .i64 x)) (by kernel_rfl) ⟨⟨⟨t0, t1⟩, c4⟩, c5x⟩ (fun hHeld => ?_)
             refine wpAnyH_take (i := 0) (oi := ?oiy30) (v := .pointer (some ⟨wr.heap.size, 0, none⟩)) ?hiy30 (by kernel_rfl) (by kernel_rfl) (by kernel_rfl) ?hqy30 ?hyy30 hHeld ?hry30
             case hiy30 =>
              simp only [gA, gB, gC]
              rfl
             case hqy30 => exact fun _ _ _ h => h
             case hyy30 => exact Or.inl ⟨by kernel_rfl, fun w hSw => by go_simp⟩
             try simp only [Act.put, gD, gE, gF]
             refine wpAnyH_take (i := 1) (oi := ?oiy31) (v := .int .i64 6) ?hiy31 (by kernel_rfl) (by kernel_rfl) (by kernel_rfl) ?hqy31 ?hyy31 hHeld ?hry31
             case hiy31 =>
              simp only [gA, gB, gC]
              rfl
             case hqy31 => exact fun _ _ _ h => h
             case hyy31 => exact Or.inl ⟨by kernel_rfl, fun w hSw => by obtain ⟨⟨⟨s1, s2⟩, s3⟩, s4⟩ := hSw; go_simp⟩
             try simp only [Act.put, gD, gE, gF]
             refine wpAnyH_take (i := 2) (oi := ?oiy32) (v := .bool true) ?hiy32 (by kernel_rfl) (by kernel_rfl) (by kernel_rfl) ?hqy32 ?hyy32 hHeld ?hry32
             case hiy32 =>
              simp only [gA, gB, gC]
              rfl
             case hqy32 => exact fun _ _ _ h => h
             case hyy32 => exact Or.inl ⟨by kernel_rfl, fun w hSw => by go_simp⟩
             try simp only [Act.put, gD, gE, gF]
             refine wpAnyH_take (i := 3) (oi := ?oiy33) (v := .bool true) ?hiy33 (by kernel_rfl) (by kernel_rfl) (by kernel_rfl) ?hqy33 ?hyy33 hHeld ?hry33
             case hiy33 =>
              simp only [gA, gB, gC]
              rfl
             case hqy33 => exact fun _ _ _ h => h
             case hyy33 => exact Or.inl ⟨by kernel_rfl, fun w hSw => by go_simp⟩
             try simp only [Act.put, gD, gE, gF]
             refine wpAnyH_take (i := 4) (oi := ?oiy34) (v := .slice (some ⟨g4, p4, none⟩) ps.length cf) ?hiy34 (by kernel_rfl) (by kernel_rfl) (by kernel_rfl) ?hqy34 ?hyy34 hHeld ?hry34
             case hiy34 =>
              simp only [gA, gB, gC]
              rfl
             case hqy34 => exact fun _ _ _ h => h
             case hyy34 => exact Or.inl ⟨by kernel_rfl, fun w hSw => by go_simp⟩
             try simp only [Act.put, gD, gE, gF]
             refine wpAnyH_take (i := 5) (oi := ?oiy35) (v := .int .i64 (i : Int)) ?hiy35 (by kernel_rfl) (by kernel_rfl) (by kernel_rfl) ?hqy35 ?hyy35 hHeld ?hry35
             case hiy35 =>
              simp only [gA, gB, gC]
              rfl
             case hqy35 => exact fun _ _ _ h => h
             case hyy35 => exact Or.inl ⟨by kernel_rfl, fun w hSw => by go_simp⟩
             try simp only [Act.put, gD, gE, gF]
             refine wpAnyH_take (i := 6) (oi := ?oiy36) (v := .pointer (some ⟨g4, p4 + i, none⟩)) ?hiy36 (by kernel_rfl) (by kernel_rfl) (by kernel_rfl) ?hqy36 ?hyy36 hHeld ?hry36
             case hiy36 =>
              simp only [gA, gB, gC]
              rfl
             case hqy36 => exact fun _ _ _ h => h
             case hyy36 => exact Or.inl ⟨by kernel_rfl, fun w hSw => by go_simp⟩
             try simp only [Act.put, gD, gE, gF]
             refine wpAnyH_take (i := 7) (oi := ?oiy37) (v := .slice (some ⟨g5, p5, none⟩) ps[i].length c5) ?hiy37 (by kernel_rfl) (by kernel_rfl) (by kernel_rfl) ?hqy37 ?hyy37 hHeld ?hry37
             case hiy37 =>
              simp only [gA, gB, gC]
              rfl
             case hqy37 => exact fun _ _ _ h => h
             case hyy37 => exact Or.inl ⟨by kernel_rfl, fun w hSw => by obtain ⟨⟨⟨s1, s2⟩, s3⟩, s4⟩ := hSw; go_simp⟩
             try simp only [Act.put, gD, gE, gF]
             refine wpAnyH_take (i := 8) (oi := ?oiy38) (v := .int .i64 (k : Int)) ?hiy38 (by kernel_rfl) (by kernel_rfl) (by kernel_rfl) ?hqy38 ?hyy38 hHeld ?hry38
             case hiy38 =>
              simp only [gA, gB, gC]
              rfl
             case hqy38 => exact fun _ _ _ h => h
             case hyy38 => exact Or.inl ⟨by kernel_rfl, fun w hSw => by go_simp⟩
             try simp only [Act.put, gD, gE, gF]
             refine wpAnyH_take (i := 9) (oi := ?oiy39) (v := .pointer (some ⟨g5, p5 + k, none⟩)) ?hiy39 (by kernel_rfl) (by kernel_rfl) (by kernel_rfl) ?hqy39 ?hyy39 hHeld ?hry39
             case hiy39 =>
              simp only [gA, gB, gC]
              rfl
             case hqy39 => exact fun _ _ _ h => h
             case hyy39 => exact Or.inl ⟨by kernel_rfl, fun w hSw => by go_simp⟩
             try simp only [Act.put, gD, gE, gF]
             refine wpAnyH_take (i := 10) (oi := ?oiy310) (v := .int .i64 x) ?hiy310 (by kernel_rfl) (by kernel_rfl) (by kernel_rfl) ?hqy310 ?hyy310 hHeld ?hry310
             case hiy310 =>
              simp only [gA, gB, gC]
              rfl
             case hqy310 => exact fun _ _ _ h => h
             case hyy310 => exact Or.inl ⟨by kernel_rfl, fun w hSw => by obtain ⟨⟨⟨s1, s2⟩, s3⟩, s4⟩ := hSw; go_simp⟩
             try simp only [Act.put, gD, gE, gF]
             refine wpAnyH_take (i := 11) (oi := ?oiy311) (v := .pointer (some ⟨wr.heap.size, 1, none⟩)) ?hiy311 (by kernel_rfl) (by kernel_rfl) (by kernel_rfl) ?hqy311 ?hyy311 hHeld ?hry311
             case hiy311 =>
              simp only [gA, gB, gC]
              rfl
             case hqy311 => exact fun _ _ _ h => h
             case hyy311 => exact Or.inl ⟨by kernel_rfl, fun w hSw => by go_simp⟩
             try simp only [Act.put, gD, gE, gF]
             refine wpAnyH_take (i := 12) (oi := ?oiy312) (v := .int .i64 3) ?hiy312 (by kernel_rfl) (by kernel_rfl) (by kernel_rfl) ?hqy312 ?hyy312 hHeld ?hry312
             case hiy312 =>
              simp only [gA, gB, gC]
              rfl
             case hqy312 => exact fun _ _ _ h => h
             case hyy312 => exact Or.inl ⟨by kernel_rfl, fun w hSw => by obtain ⟨⟨⟨s1, s2⟩, s3⟩, s4⟩ := hSw; go_simp⟩
             try simp only [Act.put, gD, gE, gF]
             refine wpAnyH_take (i := 13) (oi := ?oiy313) (v := .int .i64 4) ?hiy313 (by kernel_rfl) (by kernel_rfl) (by kernel_rfl) ?hqy313 ?hyy313 hHeld ?hry313
             case hiy313 =>
              simp only [gA, gB, gC]
              rfl
             case hqy313 => exact fun _ _ _ h => h
             case hyy313 => exact Or.inl ⟨by kernel_rfl, fun w hSw => by go_simp <;> rfl⟩
             try simp only [Act.put, gD, gE, gF]
             refine wpAnyH_take (i := 14) (oi := ?oiy314) (v := .int .u64 4) ?hiy314 (by kernel_rfl) (by kernel_rfl) (by kernel_rfl) ?hqy314 ?hyy314 hHeld ?hry314
             case hiy314 =>
              simp only [gA, gB, gC]
              rfl
             case hqy314 => exact fun _ _ _ h => h
             case hyy314 => exact Or.inl ⟨by kernel_rfl, fun w hSw => by go_simp <;> rfl⟩
             try simp only [Act.put, gD, gE, gF]
             refine wpAnyH_take (i := 15) (oi := ?oiy315) (v := .int .i64 (x / 16)) ?hiy315 (by kernel_rfl) (by kernel_rfl) (by kernel_rfl) ?hqy315 ?hyy315 hHeld ?hry315
             case hiy315 =>
              simp only [gA, gB, gC]
              rfl
             case hqy315 => exact fun _ _ _ h => h
             case hyy315 => exact Or.inl ⟨by kernel_rfl, fun w hSw => by go_simp⟩
             try simp only [Act.put, gD, gE, gF]
             refine wpAnyH_take (i := 16) (oi := ?oiy316) (v := .int .i64 ((x / 16).tmod 2)) ?hiy316 (by kernel_rfl) (by kernel_rfl) (by kernel_rfl) ?hqy316 ?hyy316 hHeld ?hry316
             case hiy316 =>
              simp only [gA, gB, gC]
              rfl
             case hqy316 => exact fun _ _ _ h => h
             case hyy316 => exact Or.inl ⟨by kernel_rfl, fun w hSw => by go_simp⟩
             try simp only [Act.put, gD, gE, gF]
             refine wpAnyH_take (i := 17) (oi := ?oiy317) (v := .bool bb) ?hiy317 (by kernel_rfl) (by kernel_rfl) (by kernel_rfl) ?hqy317 ?hyy317 hHeld ?hry317
             case hiy317 =>
              simp only [gA, gB, gC]
              rfl
             case hqy317 => exact fun _ _ _ h => h
             case hyy317 => exact Or.inl ⟨by kernel_rfl, fun w hSw => by go_simp <;> exact hbb⟩
             try simp only [Act.put, gD, gE, gF]
             refine wpAnyH_take (i := 18) (oi := ?oiy318) (v := .bool bb) ?hiy318 (by kernel_rfl) (by kernel_rfl) (by kernel_rfl) ?hqy318 ?hyy318 hHeld ?hry318
             case hiy318 =>
              simp only [gA, gB, gC]
              rfl
             case hqy318 => exact fun _ _ _ h => h
             case hyy318 => exact Or.inl ⟨by kernel_rfl, fun w hSw => by go_simp⟩
             try simp only [Act.put, gD, gE, gF]
             refine wpAnyH_done (by kernel_rfl) ?_ _
             cases bb
             · go_wp2_with fail
               go_roundw
               case rel => exact ⟨k + 1, by omega, by go_num, by rw [HST.out]; simpa using HO6.out, HF6.out, HB6.out, HP6.out⟩
               case measure => simp [intOf]; omega
             · obtain ⟨m, hm, hown⟩ := HO6.out.ex
               obtain ⟨m1, q1, q2⟩ := hlenb i (by omega)
               obtain ⟨m2, q3, q4⟩ := hrowb i k
               have hmb : m ≤ 1000 := by rw [List.length_append] at hm; omega
               have HNB : Hid _ := heap_alloc_new WA.drew (.cells #[.int .i64 (i : Int), .int .i64 (k : Int)] 48)
               have HMB : Hid _ := hm
               clear hm
               have HAL : Hid _ := hown.alloc (.cells #[.int .i64 (i : Int), .int .i64 (k : Int)] 48)
               have bA : Below WA.drew.heap.size WA.drew (WA.drew.alloc (.cells #[.int .i64 (i : Int), .int .i64 (k : Int)] 48)) := by go_grown
               have HFA : Hid _ := HF6.out.below bA
               have HOA : Hid _ := HO6.out.below bA
               have HBA : Hid (Below w.heap.size w (WA.drew.alloc (.cells #[.int .i64 (i : Int), .int .i64 (k : Int)] 48))) := HB6.out.trans (bA.mono HB6.out.size)
               have hm1 : m + 1 ≤ maxLen := by unfold maxLen; omega
               have hm2 : (m + 1) * 16 ≤ 140737488355328 := by omega
               have hm3 : w.heap.size + 1 ≤ (WA.drew.alloc (.cells #[.int .i64 (i : Int), .int .i64 (k : Int)] 48)).heap.size := by have := bA.size; omega
               have hnews := World.news_of_block HNB.out
               have HNW : Hid _ := hnews
               clear hnews
               go_wp2_with (first
                | (at_builtin; refine wpList_append_own _ rfl (.tmp 57) (.tmp 61) 33 rfl (w.heap.size + 1) 48 ip (.agg #[.int .i64 0, .int .i64 0]) 2 16 Tryz.underlying33 hip hq0 hq1 hq2 rfl (by decide) u5 m _ rfl HAL.out ⟨WA.heap.size, 0, none⟩ 1 1 [.int .i64 (i : Int), .int .i64 (k : Int)] rfl rfl HNW.out (two_one i k) hm1 hm2 hm3 ?_; intro v7 w7 own7 grow7 _; refine stop_of ?_))
               unfold Stop
               have S7 : Hid _ := OwnPl.app HMB.out own7
               have F7 : Hid _ := OwnSS.kind HFA.out HOA.out grow7
               have B7 : Hid (Below w.heap.size w w7) := HBA.out.grown grow7 HBA.out.size (fun q hq => by have := (hown.lt q hq).1; omega)
               have P7 : Hid (w7.heap[w.heap.size]? = some (Obj.cells #[.slice (some ⟨gp, op, none⟩) ps.length cap] 26 (0, 0))) := (grow7.block _ (Nat.lt_of_lt_of_le (Array.getElem?_eq_some_iff.1 HP6.out).1 bA.size) (fun e => by have := (hown.lt _ e.symm).1; omega)).trans ((bA.block _ (Array.getElem?_eq_some_iff.1 HP6.out).1).trans HP6.out)
               clear own7 grow7
               go_wp2_with fail
               go_roundw
               case rel => exact ⟨k + 1, by omega, by go_num, by rw [HST.out, ← List.append_assoc]; exact S7.out, F7.out, B7.out, P7.out⟩
               case measure => simp [intOf]; omega
           · have hbb : ((x / 32).tmod 2 == 1) = bb := by simpa using hbb0
             clear hbb0
             refine wp_region_held_drew (S := fun w' => ((w'.cell? ⟨wr.heap.size, 0, none⟩ = some (.int .i64 6) ∧ w'.cell? ⟨wr.heap.size, 1, none⟩ = some (.int .i64 4)) ∧ w'.cell? ⟨g4, p4 + i, none⟩ = some (.slice (some ⟨g5, p5, none⟩) ps[i].length c5)) ∧ w'.cell? ⟨g5, p5 + k, none⟩ = some (.int .i64 x)) (by kernel_rfl) ⟨⟨⟨t0, t1⟩, c4⟩, c5x⟩ (fun hHeld => ?_)
             refine wpAnyH_take (i := 0) (oi := ?oiy40) (v := .pointer (some ⟨wr.heap.size, 0, none⟩)) ?hiy40 (by kernel_rfl) (by kernel_rfl) (by kernel_rfl) ?hqy40 ?hyy40 hHeld ?hry40
             case hiy40 =>
              simp only [gA, gB, gC]
              rfl
             case hqy40 => exact fun _ _ _ h => h
             case hyy40 => exact Or.inl ⟨by kernel_rfl, fun w hSw => by go_simp⟩
             try simp only [Act.put, gD, gE, gF]
             refine wpAnyH_take (i := 1) (oi := ?oiy41) (v := .int .i64 6) ?hiy41 (by kernel_rfl) (by kernel_rfl) (by kernel_rfl) ?hqy41 ?hyy41 hHeld ?hry41
             case hiy41 =>
              simp only [gA, gB, gC]
              rfl
             case hqy41 => exact fun _ _ _ h => h
             case hyy41 => exact Or.inl ⟨by kernel_rfl, fun w hSw => by obtain ⟨⟨⟨s1, s2⟩, s3⟩, s4⟩ := hSw; go_simp⟩
             try simp only [Act.put, gD, gE, gF]
             refine wpAnyH_take (i := 2) (oi := ?oiy42) (v := .bool true) ?hiy42 (by kernel_rfl) (by kernel_rfl) (by kernel_rfl) ?hqy42 ?hyy42 hHeld ?hry42
             case hiy42 =>
              simp only [gA, gB, gC]
              rfl
             case hqy42 => exact fun _ _ _ h => h
             case hyy42 => exact Or.inl ⟨by kernel_rfl, fun w hSw => by go_simp⟩
             try simp only [Act.put, gD, gE, gF]
             refine wpAnyH_take (i := 3) (oi := ?oiy43) (v := .bool true) ?hiy43 (by kernel_rfl) (by kernel_rfl) (by kernel_rfl) ?hqy43 ?hyy43 hHeld ?hry43
             case hiy43 =>
              simp only [gA, gB, gC]
              rfl
             case hqy43 => exact fun _ _ _ h => h
             case hyy43 => exact Or.inl ⟨by kernel_rfl, fun w hSw => by go_simp⟩
             try simp only [Act.put, gD, gE, gF]
             refine wpAnyH_take (i := 4) (oi := ?oiy44) (v := .slice (some ⟨g4, p4, none⟩) ps.length cf) ?hiy44 (by kernel_rfl) (by kernel_rfl) (by kernel_rfl) ?hqy44 ?hyy44 hHeld ?hry44
             case hiy44 =>
              simp only [gA, gB, gC]
              rfl
             case hqy44 => exact fun _ _ _ h => h
             case hyy44 => exact Or.inl ⟨by kernel_rfl, fun w hSw => by go_simp⟩
             try simp only [Act.put, gD, gE, gF]
             refine wpAnyH_take (i := 5) (oi := ?oiy45) (v := .int .i64 (i : Int)) ?hiy45 (by kernel_rfl) (by kernel_rfl) (by kernel_rfl) ?hqy45 ?hyy45 hHeld ?hry45
             case hiy45 =>
              simp only [gA, gB, gC]
              rfl
             case hqy45 => exact fun _ _ _ h => h
             case hyy45 => exact Or.inl ⟨by kernel_rfl, fun w hSw => by go_simp⟩
             try simp only [Act.put, gD, gE, gF]
             refine wpAnyH_take (i := 6) (oi := ?oiy46) (v := .pointer (some ⟨g4, p4 + i, none⟩)) ?hiy46 (by kernel_rfl) (by kernel_rfl) (by kernel_rfl) ?hqy46 ?hyy46 hHeld ?hry46
             case hiy46 =>
              simp only [gA, gB, gC]
              rfl
             case hqy46 => exact fun _ _ _ h => h
             case hyy46 => exact Or.inl ⟨by kernel_rfl, fun w hSw => by go_simp⟩
             try simp only [Act.put, gD, gE, gF]
             refine wpAnyH_take (i := 7) (oi := ?oiy47) (v := .slice (some ⟨g5, p5, none⟩) ps[i].length c5) ?hiy47 (by kernel_rfl) (by kernel_rfl) (by kernel_rfl) ?hqy47 ?hyy47 hHeld ?hry47
             case hiy47 =>
              simp only [gA, gB, gC]
              rfl
             case hqy47 => exact fun _ _ _ h => h
             case hyy47 => exact Or.inl ⟨by kernel_rfl, fun w hSw => by obtain ⟨⟨⟨s1, s2⟩, s3⟩, s4⟩ := hSw; go_simp⟩
             try simp only [Act.put, gD, gE, gF]
             refine wpAnyH_take (i := 8) (oi := ?oiy48) (v := .int .i64 (k : Int)) ?hiy48 (by kernel_rfl) (by kernel_rfl) (by kernel_rfl) ?hqy48 ?hyy48 hHeld ?hry48
             case hiy48 =>
              simp only [gA, gB, gC]
              rfl
             case hqy48 => exact fun _ _ _ h => h
             case hyy48 => exact Or.inl ⟨by kernel_rfl, fun w hSw => by go_simp⟩
             try simp only [Act.put, gD, gE, gF]
             refine wpAnyH_take (i := 9) (oi := ?oiy49) (v := .pointer (some ⟨g5, p5 + k, none⟩)) ?hiy49 (by kernel_rfl) (by kernel_rfl) (by kernel_rfl) ?hqy49 ?hyy49 hHeld ?hry49
             case hiy49 =>
              simp only [gA, gB, gC]
              rfl
             case hqy49 => exact fun _ _ _ h => h
             case hyy49 => exact Or.inl ⟨by kernel_rfl, fun w hSw => by go_simp⟩
             try simp only [Act.put, gD, gE, gF]
             refine wpAnyH_take (i := 10) (oi := ?oiy410) (v := .int .i64 x) ?hiy410 (by kernel_rfl) (by kernel_rfl) (by kernel_rfl) ?hqy410 ?hyy410 hHeld ?hry410
             case hiy410 =>
              simp only [gA, gB, gC]
              rfl
             case hqy410 => exact fun _ _ _ h => h
             case hyy410 => exact Or.inl ⟨by kernel_rfl, fun w hSw => by obtain ⟨⟨⟨s1, s2⟩, s3⟩, s4⟩ := hSw; go_simp⟩
             try simp only [Act.put, gD, gE, gF]
             refine wpAnyH_take (i := 11) (oi := ?oiy411) (v := .pointer (some ⟨wr.heap.size, 1, none⟩)) ?hiy411 (by kernel_rfl) (by kernel_rfl) (by kernel_rfl) ?hqy411 ?hyy411 hHeld ?hry411
             case hiy411 =>
              simp only [gA, gB, gC]
              rfl
             case hqy411 => exact fun _ _ _ h => h
             case hyy411 => exact Or.inl ⟨by kernel_rfl, fun w hSw => by go_simp⟩
             try simp only [Act.put, gD, gE, gF]
             refine wpAnyH_take (i := 12) (oi := ?oiy412) (v := .int .i64 4) ?hiy412 (by kernel_rfl) (by kernel_rfl) (by kernel_rfl) ?hqy412 ?hyy412 hHeld ?hry412
             case hiy412 =>
              simp only [gA, gB, gC]
              rfl
             case hqy412 => exact fun _ _ _ h => h
             case hyy412 => exact Or.inl ⟨by kernel_rfl, fun w hSw => by obtain ⟨⟨⟨s1, s2⟩, s3⟩, s4⟩ := hSw; go_simp⟩
             try simp only [Act.put, gD, gE, gF]
             refine wpAnyH_take (i := 13) (oi := ?oiy413) (v := .int .i64 5) ?hiy413 (by kernel_rfl) (by kernel_rfl) (by kernel_rfl) ?hqy413 ?hyy413 hHeld ?hry413
             case hiy413 =>
              simp only [gA, gB, gC]
              rfl
             case hqy413 => exact fun _ _ _ h => h
             case hyy413 => exact Or.inl ⟨by kernel_rfl, fun w hSw => by go_simp <;> rfl⟩
             try simp only [Act.put, gD, gE, gF]
             refine wpAnyH_take (i := 14) (oi := ?oiy414) (v := .int .u64 5) ?hiy414 (by kernel_rfl) (by kernel_rfl) (by kernel_rfl) ?hqy414 ?hyy414 hHeld ?hry414
             case hiy414 =>
              simp only [gA, gB, gC]
              rfl
             case hqy414 => exact fun _ _ _ h => h
             case hyy414 => exact Or.inl ⟨by kernel_rfl, fun w hSw => by go_simp <;> rfl⟩
             try simp only [Act.put, gD, gE, gF]
             refine wpAnyH_take (i := 15) (oi := ?oiy415) (v := .int .i64 (x / 32)) ?hiy415 (by kernel_rfl) (by kernel_rfl) (by kernel_rfl) ?hqy415 ?hyy415 hHeld ?hry415
             case hiy415 =>
              simp only [gA, gB, gC]
              rfl
             case hqy415 => exact fun _ _ _ h => h
             case hyy415 => exact Or.inl ⟨by kernel_rfl, fun w hSw => by go_simp⟩
             try simp only [Act.put, gD, gE, gF]
             refine wpAnyH_take (i := 16) (oi := ?oiy416) (v := .int .i64 ((x / 32).tmod 2)) ?hiy416 (by kernel_rfl) (by kernel_rfl) (by kernel_rfl) ?hqy416 ?hyy416 hHeld ?hry416
             case hiy416 =>
              simp only [gA, gB, gC]
              rfl
             case hqy416 => exact fun _ _ _ h => h
             case hyy416 => exact Or.inl ⟨by kernel_rfl, fun w hSw => by go_simp⟩
             try simp only [Act.put, gD, gE, gF]
             refine wpAnyH_take (i := 17) (oi := ?oiy417) (v := .bool bb) ?hiy417 (by kernel_rfl) (by kernel_rfl) (by kernel_rfl) ?hqy417 ?hyy417 hHeld ?hry417
             case hiy417 =>
              simp only [gA, gB, gC]
              rfl
             case hqy417 => exact fun _ _ _ h => h
             case hyy417 => exact Or.inl ⟨by kernel_rfl, fun w hSw => by go_simp <;> exact hbb⟩
             try simp only [Act.put, gD, gE, gF]
             refine wpAnyH_take (i := 18) (oi := ?oiy418) (v := .bool bb) ?hiy418 (by kernel_rfl) (by kernel_rfl) (by kernel_rfl) ?hqy418 ?hyy418 hHeld ?hry418
             case hiy418 =>
              simp only [gA, gB, gC]
              rfl
             case hqy418 => exact fun _ _ _ h => h
             case hyy418 => exact Or.inl ⟨by kernel_rfl, fun w hSw => by go_simp⟩
             try simp only [Act.put, gD, gE, gF]
             refine wpAnyH_done (by kernel_rfl) ?_ _
             cases bb
             · go_wp2_with fail
               go_roundw
               case rel => exact ⟨k + 1, by omega, by go_num, by rw [HST.out]; simpa using HO6.out, HF6.out, HB6.out, HP6.out⟩
               case measure => simp [intOf]; omega
             · obtain ⟨m, hm, hown⟩ := HO6.out.ex
               obtain ⟨m1, q1, q2⟩ := hlenb i (by omega)
               obtain ⟨m2, q3, q4⟩ := hrowb i k
               have hmb : m ≤ 1000 := by rw [List.length_append] at hm; omega
               have HNB : Hid _ := heap_alloc_new WA.drew (.cells #[.int .i64 (i : Int), .int .i64 (k : Int)] 48)
               have HMB : Hid _ := hm
               clear hm
               have HAL : Hid _ := hown.alloc (.cells #[.int .i64 (i : Int), .int .i64 (k : Int)] 48)
               have bA : Below WA.drew.heap.size WA.drew (WA.drew.alloc (.cells #[.int .i64 (i : Int), .int .i64 (k : Int)] 48)) := by go_grown
               have HFA : Hid _ := HF6.out.below bA
               have HOA : Hid _ := HO6.out.below bA
               have HBA : Hid (Below w.heap.size w (WA.drew.alloc (.cells #[.int .i64 (i : Int), .int .i64 (k : Int)] 48))) := HB6.out.trans (bA.mono HB6.out.size)
               have hm1 : m + 1 ≤ maxLen := by unfold maxLen; omega
               have hm2 : (m + 1) * 16 ≤ 140737488355328 := by omega
               have hm3 : w.heap.size + 1 ≤ (WA.drew.alloc (.cells #[.int .i64 (i : Int), .int .i64 (k : Int)] 48)).heap.size := by have := bA.size; omega
               have hnews := World.news_of_block HNB.out
               have HNW : Hid _ := hnews
               clear hnews
               go_wp2_with (first
                | (at_builtin; refine wpList_append_own _ rfl (.tmp 57) (.tmp 61) 33 rfl (w.heap.size + 1) 48 ip (.agg #[.int .i64 0, .int .i64 0]) 2 16 Tryz.underlying33 hip hq0 hq1 hq2 rfl (by decide) u5 m _ rfl HAL.out ⟨WA.heap.size, 0, none⟩ 1 1 [.int .i64 (i : Int), .int .i64 (k : Int)] rfl rfl HNW.out (two_one i k) hm1 hm2 hm3 ?_; intro v7 w7 own7 grow7 _; refine stop_of ?_))
               unfold Stop
               have S7 : Hid _ := OwnPl.app HMB.out own7
               have F7 : Hid _ := OwnSS.kind HFA.out HOA.out grow7
               have B7 : Hid (Below w.heap.size w w7) := HBA.out.grown grow7 HBA.out.size (fun q hq => by have := (hown.lt q hq).1; omega)
               have P7 : Hid (w7.heap[w.heap.size]? = some (Obj.cells #[.slice (some ⟨gp, op, none⟩) ps.length cap] 26 (0, 0))) := (grow7.block _ (Nat.lt_of_lt_of_le (Array.getElem?_eq_some_iff.1 HP6.out).1 bA.size) (fun e => by have := (hown.lt _ e.symm).1; omega)).trans ((bA.block _ (Array.getElem?_eq_some_iff.1 HP6.out).1).trans HP6.out)
               clear own7 grow7
               go_wp2_with fail
               go_roundw
               case rel => exact ⟨k + 1, by omega, by go_num, by rw [HST.out, ← List.append_assoc]; exact S7.out, F7.out, B7.out, P7.out⟩
               case measure => simp [intOf]; omega
           · have hbb : ((x / 64).tmod 2 == 1) = bb := by simpa using hbb0
             clear hbb0
             refine wp_region_held_drew (S := fun w' => ((w'.cell? ⟨wr.heap.size, 0, none⟩ = some (.int .i64 6) ∧ w'.cell? ⟨wr.heap.size, 1, none⟩ = some (.int .i64 5)) ∧ w'.cell? ⟨g4, p4 + i, none⟩ = some (.slice (some ⟨g5, p5, none⟩) ps[i].length c5)) ∧ w'.cell? ⟨g5, p5 + k, none⟩ = some (.int .i64 x)) (by kernel_rfl) ⟨⟨⟨t0, t1⟩, c4⟩, c5x⟩ (fun hHeld => ?_)
             refine wpAnyH_take (i := 0) (oi := ?oiy50) (v := .pointer (some ⟨wr.heap.size, 0, none⟩)) ?hiy50 (by kernel_rfl) (by kernel_rfl) (by kernel_rfl) ?hqy50 ?hyy50 hHeld ?hry50
             case hiy50 =>
              simp only [gA, gB, gC]
              rfl
             case hqy50 => exact fun _ _ _ h => h
             case hyy50 => exact Or.inl ⟨by kernel_rfl, fun w hSw => by go_simp⟩
             try simp only [Act.put, gD, gE, gF]
             refine wpAnyH_take (i := 1) (oi := ?oiy51) (v := .int .i64 6) ?hiy51 (by kernel_rfl) (by kernel_rfl) (by kernel_rfl) ?hqy51 ?hyy51 hHeld ?hry51
             case hiy51 =>
              simp only [gA, gB, gC]
              rfl
             case hqy51 => exact fun _ _ _ h => h
             case hyy51 => exact Or.inl ⟨by kernel_rfl, fun w hSw => by obtain ⟨⟨⟨s1, s2⟩, s3⟩, s4⟩ := hSw; go_simp⟩
             try simp only [Act.put, gD, gE, gF]
             refine wpAnyH_take (i := 2) (oi := ?oiy52) (v := .bool true) ?hiy52 (by kernel_rfl) (by kernel_rfl) (by kernel_rfl) ?hqy52 ?hyy52 hHeld ?hry52
             case hiy52 =>
              simp only [gA, gB, gC]
              rfl
             case hqy52 => exact fun _ _ _ h => h
             case hyy52 => exact Or.inl ⟨by kernel_rfl, fun w hSw => by go_simp⟩
             try simp only [Act.put, gD, gE, gF]
             refine wpAnyH_take (i := 3) (oi := ?oiy53) (v := .bool true) ?hiy53 (by kernel_rfl) (by kernel_rfl) (by kernel_rfl) ?hqy53 ?hyy53 hHeld ?hry53
             case hiy53 =>
              simp only [gA, gB, gC]
              rfl
             case hqy53 => exact fun _ _ _ h => h
             case hyy53 => exact Or.inl ⟨by kernel_rfl, fun w hSw => by go_simp⟩
             try simp only [Act.put, gD, gE, gF]
             refine wpAnyH_take (i := 4) (oi := ?oiy54) (v := .slice (some ⟨g4, p4, none⟩) ps.length cf) ?hiy54 (by kernel_rfl) (by kernel_rfl) (by kernel_rfl) ?hqy54 ?hyy54 hHeld ?hry54
             case hiy54 =>
              simp only [gA, gB, gC]
              rfl
             case hqy54 => exact fun _ _ _ h => h
             case hyy54 => exact Or.inl ⟨by kernel_rfl, fun w hSw => by go_simp⟩
             try simp only [Act.put, gD, gE, gF]
             refine wpAnyH_take (i := 5) (oi := ?oiy55) (v := .int .i64 (i : Int)) ?hiy55 (by kernel_rfl) (by kernel_rfl) (by kernel_rfl) ?hqy55 ?hyy55 hHeld ?hry55
             case hiy55 =>
              simp only [gA, gB, gC]
              rfl
             case hqy55 => exact fun _ _ _ h => h
             case hyy55 => exact Or.inl ⟨by kernel_rfl, fun w hSw => by go_simp⟩
             try simp only [Act.put, gD, gE, gF]
             refine wpAnyH_take (i := 6) (oi := ?oiy56) (v := .pointer (some ⟨g4, p4 + i, none⟩)) ?hiy56 (by kernel_rfl) (by kernel_rfl) (by kernel_rfl) ?hqy56 ?hyy56 hHeld ?hry56
             case hiy56 =>
              simp only [gA, gB, gC]
              rfl
             case hqy56 => exact fun _ _ _ h => h
             case hyy56 => exact Or.inl ⟨by kernel_rfl, fun w hSw => by go_simp⟩
             try simp only [Act.put, gD, gE, gF]
             refine wpAnyH_take (i := 7) (oi := ?oiy57) (v := .slice (some ⟨g5, p5, none⟩) ps[i].length c5) ?hiy57 (by kernel_rfl) (by kernel_rfl) (by kernel_rfl) ?hqy57 ?hyy57 hHeld ?hry57
             case hiy57 =>
              simp only [gA, gB, gC]
              rfl
             case hqy57 => exact fun _ _ _ h => h
             case hyy57 => exact Or.inl ⟨by kernel_rfl, fun w hSw => by obtain ⟨⟨⟨s1, s2⟩, s3⟩, s4⟩ := hSw; go_simp⟩
             try simp only [Act.put, gD, gE, gF]
             refine wpAnyH_take (i := 8) (oi := ?oiy58) (v := .int .i64 (k : Int)) ?hiy58 (by kernel_rfl) (by kernel_rfl) (by kernel_rfl) ?hqy58 ?hyy58 hHeld ?hry58
             case hiy58 =>
              simp only [gA, gB, gC]
              rfl
             case hqy58 => exact fun _ _ _ h => h
             case hyy58 => exact Or.inl ⟨by kernel_rfl, fun w hSw => by go_simp⟩
             try simp only [Act.put, gD, gE, gF]
             refine wpAnyH_take (i := 9) (oi := ?oiy59) (v := .pointer (some ⟨g5, p5 + k, none⟩)) ?hiy59 (by kernel_rfl) (by kernel_rfl) (by kernel_rfl) ?hqy59 ?hyy59 hHeld ?hry59
             case hiy59 =>
              simp only [gA, gB, gC]
              rfl
             case hqy59 => exact fun _ _ _ h => h
             case hyy59 => exact Or.inl ⟨by kernel_rfl, fun w hSw => by go_simp⟩
             try simp only [Act.put, gD, gE, gF]
             refine wpAnyH_take (i := 10) (oi := ?oiy510) (v := .int .i64 x) ?hiy510 (by kernel_rfl) (by kernel_rfl) (by kernel_rfl) ?hqy510 ?hyy510 hHeld ?hry510
             case hiy510 =>
              simp only [gA, gB, gC]
              rfl
             case hqy510 => exact fun _ _ _ h => h
             case hyy510 => exact Or.inl ⟨by kernel_rfl, fun w hSw => by obtain ⟨⟨⟨s1, s2⟩, s3⟩, s4⟩ := hSw; go_simp⟩
             try simp only [Act.put, gD, gE, gF]
             refine wpAnyH_take (i := 11) (oi := ?oiy511) (v := .pointer (some ⟨wr.heap.size, 1, none⟩)) ?hiy511 (by kernel_rfl) (by kernel_rfl) (by kernel_rfl) ?hqy511 ?hyy511 hHeld ?hry511
             case hiy511 =>
              simp only [gA, gB, gC]
              rfl
             case hqy511 => exact fun _ _ _ h => h
             case hyy511 => exact Or.inl ⟨by kernel_rfl, fun w hSw => by go_simp⟩
             try simp only [Act.put, gD, gE, gF]
             refine wpAnyH_take (i := 12) (oi := ?oiy512) (v := .int .i64 5) ?hiy512 (by kernel_rfl) (by kernel_rfl) (by kernel_rfl) ?hqy512 ?hyy512 hHeld ?hry512
             case hiy512 =>
              simp only [gA, gB, gC]
              rfl
             case hqy512 => exact fun _ _ _ h => h
             case hyy512 => exact Or.inl ⟨by kernel_rfl, fun w hSw => by obtain ⟨⟨⟨s1, s2⟩, s3⟩, s4⟩ := hSw; go_simp⟩
             try simp only [Act.put, gD, gE, gF]
             refine wpAnyH_take (i := 13) (oi := ?oiy513) (v := .int .i64 6) ?hiy513 (by kernel_rfl) (by kernel_rfl) (by kernel_rfl) ?hqy513 ?hyy513 hHeld ?hry513
             case hiy513 =>
              simp only [gA, gB, gC]
              rfl
             case hqy513 => exact fun _ _ _ h => h
             case hyy513 => exact Or.inl ⟨by kernel_rfl, fun w hSw => by go_simp <;> rfl⟩
             try simp only [Act.put, gD, gE, gF]
             refine wpAnyH_take (i := 14) (oi := ?oiy514) (v := .int .u64 6) ?hiy514 (by kernel_rfl) (by kernel_rfl) (by kernel_rfl) ?hqy514 ?hyy514 hHeld ?hry514
             case hiy514 =>
              simp only [gA, gB, gC]
              rfl
             case hqy514 => exact fun _ _ _ h => h
             case hyy514 => exact Or.inl ⟨by kernel_rfl, fun w hSw => by go_simp <;> rfl⟩
             try simp only [Act.put, gD, gE, gF]
             refine wpAnyH_take (i := 15) (oi := ?oiy515) (v := .int .i64 (x / 64)) ?hiy515 (by kernel_rfl) (by kernel_rfl) (by kernel_rfl) ?hqy515 ?hyy515 hHeld ?hry515
             case hiy515 =>
              simp only [gA, gB, gC]
              rfl
             case hqy515 => exact fun _ _ _ h => h
             case hyy515 => exact Or.inl ⟨by kernel_rfl, fun w hSw => by go_simp⟩
             try simp only [Act.put, gD, gE, gF]
             refine wpAnyH_take (i := 16) (oi := ?oiy516) (v := .int .i64 ((x / 64).tmod 2)) ?hiy516 (by kernel_rfl) (by kernel_rfl) (by kernel_rfl) ?hqy516 ?hyy516 hHeld ?hry516
             case hiy516 =>
              simp only [gA, gB, gC]
              rfl
             case hqy516 => exact fun _ _ _ h => h
             case hyy516 => exact Or.inl ⟨by kernel_rfl, fun w hSw => by go_simp⟩
             try simp only [Act.put, gD, gE, gF]
             refine wpAnyH_take (i := 17) (oi := ?oiy517) (v := .bool bb) ?hiy517 (by kernel_rfl) (by kernel_rfl) (by kernel_rfl) ?hqy517 ?hyy517 hHeld ?hry517
             case hiy517 =>
              simp only [gA, gB, gC]
              rfl
             case hqy517 => exact fun _ _ _ h => h
             case hyy517 => exact Or.inl ⟨by kernel_rfl, fun w hSw => by go_simp <;> exact hbb⟩
             try simp only [Act.put, gD, gE, gF]
             refine wpAnyH_take (i := 18) (oi := ?oiy518) (v := .bool bb) ?hiy518 (by kernel_rfl) (by kernel_rfl) (by kernel_rfl) ?hqy518 ?hyy518 hHeld ?hry518
             case hiy518 =>
              simp only [gA, gB, gC]
              rfl
             case hqy518 => exact fun _ _ _ h => h
             case hyy518 => exact Or.inl ⟨by kernel_rfl, fun w hSw => by go_simp⟩
             try simp only [Act.put, gD, gE, gF]
             refine wpAnyH_done (by kernel_rfl) ?_ _
             cases bb
             · go_wp2_with fail
               go_roundw
               case rel => exact ⟨k + 1, by omega, by go_num, by rw [HST.out]; simpa using HO6.out, HF6.out, HB6.out, HP6.out⟩
               case measure => simp [intOf]; omega
             · obtain ⟨m, hm, hown⟩ := HO6.out.ex
               obtain ⟨m1, q1, q2⟩ := hlenb i (by omega)
               obtain ⟨m2, q3, q4⟩ := hrowb i k
               have hmb : m ≤ 1000 := by rw [List.length_append] at hm; omega
               have HNB : Hid _ := heap_alloc_new WA.drew (.cells #[.int .i64 (i : Int), .int .i64 (k : Int)] 48)
               have HMB : Hid _ := hm
               clear hm
               have HAL : Hid _ := hown.alloc (.cells #[.int .i64 (i : Int), .int .i64 (k : Int)] 48)
               have bA : Below WA.drew.heap.size WA.drew (WA.drew.alloc (.cells #[.int .i64 (i : Int), .int .i64 (k : Int)] 48)) := by go_grown
               have HFA : Hid _ := HF6.out.below bA
               have HOA : Hid _ := HO6.out.below bA
               have HBA : Hid (Below w.heap.size w (WA.drew.alloc (.cells #[.int .i64 (i : Int), .int .i64 (k : Int)] 48))) := HB6.out.trans (bA.mono HB6.out.size)
               have hm1 : m + 1 ≤ maxLen := by unfold maxLen; omega
               have hm2 : (m + 1) * 16 ≤ 140737488355328 := by omega
               have hm3 : w.heap.size + 1 ≤ (WA.drew.alloc (.cells #[.int .i64 (i : Int), .int .i64 (k : Int)] 48)).heap.size := by have := bA.size; omega
               have hnews := World.news_of_block HNB.out
               have HNW : Hid _ := hnews
               clear hnews
               go_wp2_with (first
                | (at_builtin; refine wpList_append_own _ rfl (.tmp 57) (.tmp 61) 33 rfl (w.heap.size + 1) 48 ip (.agg #[.int .i64 0, .int .i64 0]) 2 16 Tryz.underlying33 hip hq0 hq1 hq2 rfl (by decide) u5 m _ rfl HAL.out ⟨WA.heap.size, 0, none⟩ 1 1 [.int .i64 (i : Int), .int .i64 (k : Int)] rfl rfl HNW.out (two_one i k) hm1 hm2 hm3 ?_; intro v7 w7 own7 grow7 _; refine stop_of ?_))
               unfold Stop
               have S7 : Hid _ := OwnPl.app HMB.out own7
               have F7 : Hid _ := OwnSS.kind HFA.out HOA.out grow7
               have B7 : Hid (Below w.heap.size w w7) := HBA.out.grown grow7 HBA.out.size (fun q hq => by have := (hown.lt q hq).1; omega)
               have P7 : Hid (w7.heap[w.heap.size]? = some (Obj.cells #[.slice (some ⟨gp, op, none⟩) ps.length cap] 26 (0, 0))) := (grow7.block _ (Nat.lt_of_lt_of_le (Array.getElem?_eq_some_iff.1 HP6.out).1 bA.size) (fun e => by have := (hown.lt _ e.symm).1; omega)).trans ((bA.block _ (Array.getElem?_eq_some_iff.1 HP6.out).1).trans HP6.out)
               clear own7 grow7
               go_wp2_with fail
               go_roundw
               case rel => exact ⟨k + 1, by omega, by go_num, by rw [HST.out, ← List.append_assoc]; exact S7.out, F7.out, B7.out, P7.out⟩
               case measure => simp [intOf]; omega
         · have hte : testF ⟨sk, sx, sy⟩ x = false := by unfold testF; simp [h6]
           rw [hte] at HST
           refine wp_region_held_drew (S := fun w' => ((w'.cell? ⟨wr.heap.size, 0, none⟩ = some (.int .i64 sk) ∧ w'.cell? ⟨wr.heap.size, 1, none⟩ = some (.int .i64 sx)) ∧ w'.cell? ⟨g4, p4 + i, none⟩ = some (.slice (some ⟨g5, p5, none⟩) ps[i].length c5)) ∧ w'.cell? ⟨g5, p5 + k, none⟩ = some (.int .i64 x)) (by kernel_rfl) ⟨⟨⟨t0, t1⟩, c4⟩, c5x⟩ (fun hHeld => ?_)
           refine wpAnyH_take (i := 0) (oi := ?oino0) (v := .pointer (some ⟨wr.heap.size, 0, none⟩)) ?hino0 (by kernel_rfl) (by kernel_rfl) (by kernel_rfl) ?hqno0 ?hyno0 hHeld ?hrno0
           case hino0 =>
            simp only [gA, gB, gC]
            rfl
           case hqno0 => exact fun _ _ _ h => h
           case hyno0 => exact Or.inl ⟨by kernel_rfl, fun w hSw => by go_simp⟩
           try simp only [Act.put, gD, gE, gF]
           refine wpAnyH_take (i := 1) (oi := ?oino1) (v := .int .i64 sk) ?hino1 (by kernel_rfl) (by kernel_rfl) (by kernel_rfl) ?hqno1 ?hyno1 hHeld ?hrno1
           case hino1 =>
            simp only [gA, gB, gC]
            rfl
           case hqno1 => exact fun _ _ _ h => h
           case hyno1 => exact Or.inl ⟨by kernel_rfl, fun w hSw => by obtain ⟨⟨⟨s1, s2⟩, s3⟩, s4⟩ := hSw; go_simp⟩
           try simp only [Act.put, gD, gE, gF]
           refine wpAnyH_take (i := 2) (oi := ?oino2) (v := .bool false) ?hino2 (by kernel_rfl) (by kernel_rfl) (by kernel_rfl) ?hqno2 ?hyno2 hHeld ?hrno2
           case hino2 =>
            simp only [gA, gB, gC]
            rfl
           case hqno2 => exact fun _ _ _ h => h
           case hyno2 => exact Or.inl ⟨by kernel_rfl, fun w hSw => by go_simp⟩
           try simp only [Act.put, gD, gE, gF]
           refine wpAnyH_take (i := 3) (oi := ?oino3) (v := .bool false) ?hino3 (by kernel_rfl) (by kernel_rfl) (by kernel_rfl) ?hqno3 ?hyno3 hHeld ?hrno3
           case hino3 =>
            simp only [gA, gB, gC]
            rfl
           case hqno3 => exact fun _ _ _ h => h
           case hyno3 => exact Or.inl ⟨by kernel_rfl, fun w hSw => by go_simp⟩
           try simp only [Act.put, gD, gE, gF]
           refine wpAnyH_take (i := 4) (oi := ?oino4) (v := undef) ?hino4 (by kernel_rfl) (by kernel_rfl) (by kernel_rfl) ?hqno4 ?hyno4 hHeld ?hrno4
           case hino4 =>
            simp only [gA, gB, gC]
            rfl
           case hqno4 => exact fun _ _ _ h => h
           case hyno4 => exact Or.inr ⟨by kernel_rfl, rfl⟩
           try simp only [Act.put, gD, gE, gF]
           refine wpAnyH_take (i := 5) (oi := ?oino5) (v := undef) ?hino5 (by kernel_rfl) (by kernel_rfl) (by kernel_rfl) ?hqno5 ?hyno5 hHeld ?hrno5
           case hino5 =>
            simp only [gA, gB, gC]
            rfl
           case hqno5 => exact fun _ _ _ h => h
           case hyno5 => exact Or.inr ⟨by kernel_rfl, rfl⟩
           try simp only [Act.put, gD, gE, gF]
           refine wpAnyH_take (i := 6) (oi := ?oino6) (v := undef) ?hino6 (by kernel_rfl) (by kernel_rfl) (by kernel_rfl) ?hqno6 ?hyno6 hHeld ?hrno6
           case hino6 =>
            simp only [gA, gB, gC]
            rfl
           case hqno6 => exact fun _ _ _ h => h
           case hyno6 => exact Or.inr ⟨by kernel_rfl, rfl⟩
           try simp only [Act.put, gD, gE, gF]
           refine wpAnyH_take (i := 7) (oi := ?oino7) (v := undef) ?hino7 (by kernel_rfl) (by kernel_rfl) (by kernel_rfl) ?hqno7 ?hyno7 hHeld ?hrno7
           case hino7 =>
            simp only [gA, gB, gC]
            rfl
           case hqno7 => exact fun _ _ _ h => h
           case hyno7 => exact Or.inr ⟨by kernel_rfl, rfl⟩
           try simp only [Act.put, gD, gE, gF]
           refine wpAnyH_take (i := 8) (oi := ?oino8) (v := undef) ?hino8 (by kernel_rfl) (by kernel_rfl) (by kernel_rfl) ?hqno8 ?hyno8 hHeld ?hrno8
           case hino8 =>
            simp only [gA, gB, gC]
            rfl
           case hqno8 => exact fun _ _ _ h => h
           case hyno8 => exact Or.inr ⟨by kernel_rfl, rfl⟩
           try simp only [Act.put, gD, gE, gF]
           refine wpAnyH_take (i := 9) (oi := ?oino9) (v := undef) ?hino9 (by kernel_rfl) (by kernel_rfl) (by kernel_rfl) ?hqno9 ?hyno9 hHeld ?hrno9
           case hino9 =>
            simp only [gA, gB, gC]
            rfl
           case hqno9 => exact fun _ _ _ h => h
           case hyno9 => exact Or.inr ⟨by kernel_rfl, rfl⟩
           try simp only [Act.put, gD, gE, gF]
           refine wpAnyH_take (i := 10) (oi := ?oino10) (v := undef) ?hino10 (by kernel_rfl) (by kernel_rfl) (by kernel_rfl) ?hqno10 ?hyno10 hHeld ?hrno10
           case hino10 =>
            simp only [gA, gB, gC]
            rfl
           case hqno10 => exact fun _ _ _ h => h
           case hyno10 => exact Or.inr ⟨by kernel_rfl, rfl⟩
           try simp only [Act.put, gD, gE, gF]
           refine wpAnyH_take (i := 11) (oi := ?oino11) (v := undef) ?hino11 (by kernel_rfl) (by kernel_rfl) (by kernel_rfl) ?hqno11 ?hyno11 hHeld ?hrno11
           case hino11 =>
            simp only [gA, gB, gC]
            rfl
           case hqno11 => exact fun _ _ _ h => h
           case hyno11 => exact Or.inr ⟨by kernel_rfl, rfl⟩
           try simp only [Act.put, gD, gE, gF]
           refine wpAnyH_take (i := 12) (oi := ?oino12) (v := undef) ?hino12 (by kernel_rfl) (by kernel_rfl) (by kernel_rfl) ?hqno12 ?hyno12 hHeld ?hrno12
           case hino12 =>
            simp only [gA, gB, gC]
            rfl
           case hqno12 => exact fun _ _ _ h => h
           case hyno12 => exact Or.inr ⟨by kernel_rfl, rfl⟩
           try simp only [Act.put, gD, gE, gF]
           refine wpAnyH_take (i := 13) (oi := ?oino13) (v := undef) ?hino13 (by kernel_rfl) (by kernel_rfl) (by kernel_rfl) ?hqno13 ?hyno13 hHeld ?hrno13
           case hino13 =>
            simp only [gA, gB, gC]
            rfl
           case hqno13 => exact fun _ _ _ h => h
           case hyno13 => exact Or.inr ⟨by kernel_rfl, rfl⟩
           try simp only [Act.put, gD, gE, gF]
           refine wpAnyH_take (i := 14) (oi := ?oino14) (v := undef) ?hino14 (by kernel_rfl) (by kernel_rfl) (by kernel_rfl) ?hqno14 ?hyno14 hHeld ?hrno14
           case hino14 =>
            simp only [gA, gB, gC]
            rfl
           case hqno14 => exact fun _ _ _ h => h
           case hyno14 => exact Or.inr ⟨by kernel_rfl, rfl⟩
           try simp only [Act.put, gD, gE, gF]
           refine wpAnyH_take (i := 15) (oi := ?oino15) (v := undef) ?hino15 (by kernel_rfl) (by kernel_rfl) (by kernel_rfl) ?hqno15 ?hyno15 hHeld ?hrno15
           case hino15 =>
            simp only [gA, gB, gC]
            rfl
           case hqno15 => exact fun _ _ _ h => h
           case hyno15 => exact Or.inr ⟨by kernel_rfl, rfl⟩
           try simp only [Act.put, gD, gE, gF]
           refine wpAnyH_take (i := 16) (oi := ?oino16) (v := undef) ?hino16 (by kernel_rfl) (by kernel_rfl) (by kernel_rfl) ?hqno16 ?hyno16 hHeld ?hrno16
           case hino16 =>
            simp only [gA, gB, gC]
            rfl
           case hqno16 => exact fun _ _ _ h => h
           case hyno16 => exact Or.inr ⟨by kernel_rfl, rfl⟩
           try simp only [Act.put, gD, gE, gF]
           refine wpAnyH_take (i := 17) (oi := ?oino17) (v := undef) ?hino17 (by kernel_rfl) (by kernel_rfl) (by kernel_rfl) ?hqno17 ?hyno17 hHeld ?hrno17
           case hino17 =>
            simp only [gA, gB, gC]
            rfl
           case hqno17 => exact fun _ _ _ h => h
           case hyno17 => exact Or.inr ⟨by kernel_rfl, rfl⟩
           try simp only [Act.put, gD, gE, gF]
           refine wpAnyH_take (i := 18) (oi := ?oino18) (v := .bool false) ?hino18 (by kernel_rfl) (by kernel_rfl) (by kernel_rfl) ?hqno18 ?hyno18 hHeld ?hrno18
           case hino18 =>
            simp only [gA, gB, gC]
            rfl
           case hqno18 => exact fun _ _ _ h => h
           case hyno18 => exact Or.inl ⟨by kernel_rfl, fun w hSw => by go_simp⟩
           try simp only [Act.put, gD, gE, gF]
           refine wpAnyH_done (by kernel_rfl) ?_ _
           go_wp2_with fail
           go_roundw
           case rel => exact ⟨k + 1, by omega, by go_num, by rw [HST.out]; simpa using HO6.out, HF6.out, HB6.out, HP6.out⟩
           case measure => simp [intOf]; omega
       · have hkk : k = ps[i].length := by omega
         subst hkk
         go_wp2_with fail
         go_roundw
         case rel => exact ⟨i + 1, by omega, by go_num, by unfold allPl; rw [hsz]; exact HOk.out, HFk.out, HBk.out, HPk.out⟩
         case measure => simp [intOf]; omega
    · have hii : i = ps.length := by omega
      subst hii
      go_wp2_with fail
      go_ret
      exact ⟨_, rfl, HO.out.mono (by omega), HB.out⟩
 · clear HP
   go_wp2_with fail
   refine wp_loop_rounds 1 ?_
   rw [rounds_succ]
   go_wp2_with fail
   go_ret
   exact ⟨_, rfl, HO1.out.mono (by omega), HB1.out⟩
end Go.Proofs.YtdkdhjhhbkcciaaGreat
