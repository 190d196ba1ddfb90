/-
 Chapter 11, the specification's side: Tests.
-/
import Derived.Test.YtdkdhjhhbkcciaaGreatImplAsk
namespace Go.Proofs.YtdkdhjhhbkcciaaGreat
open Go.RowKit
set_option linter.unusedVariables false
set_option linter.unusedSimpArgs false
set_option maxHeartbeats 8000000
set_option maxRecDepth 20000
theorem tmod_bit {x : Int} {n : Nat} (h : (x / 2 ^ n).tmod 2 = if bit x n = true then 1 else 0) : ((x / 2 ^ n).tmod 2 == 1) = bit x n := by
 rw [h]
 cases bit x n <;> rfl
theorem specTests (ps : List (List Stm)) (c : Int) (X : List Int) (hX : PlA ps c jh0 X) (v : Value) (w : World) (hl : ps.length ≤ maxLen) (hp : ∀ p ∈ ps, p.length ≤ maxLen) (hv : jc5 w v ps) :
 Calls Tryz.prog 14 #[.agg #[v], .int .i64 c] w fun e w' => ∃ u, e = .returned u ∧ OwnPl w' w.heap.size u X ∧ Below w.heap.size w w' := by
 obtain ⟨ip, hip, hq0, hq1, hq2⟩ := info_parts qd1
 obtain ⟨W0, hW0⟩ : ∃ W0, (w.alloc (.cells #[v] 26)).alloc (.cells #[] 48) = W0 := ⟨_, rfl⟩
 have hb0 : Below w.heap.size w W0 := by rw [← hW0]; go_grown
 have hs0 : W0.heap.size = w.heap.size + 1 + 1 := by rw [← hW0]; simp
 have hsP : (w.alloc (.cells #[v] 26)).heap.size = w.heap.size + 1 := by simp
 have hP0 : W0.heap[w.heap.size]? = some (.cells #[v] 26 (0, 0)) := by
  rw [← hW0, ja1 (by simp)]; exact heap_alloc_new w _
 have HO0 : Hid (OwnPl W0 (w.heap.size + 1) (.slice (some ⟨w.heap.size + 1, 0, none⟩) 0 0) []) := by
  have := made0P (w.alloc (.cells #[v] 26))
  rw [hW0, hsP] at this
  exact this
 obtain ⟨A, hA⟩ := jx5 ps c
 have hff := qd2 ps c A hA v W0 hl hp (ja0 hv hb0)
 have hc0 := (ja6 hP0).1
 go_enter Tryz.func14, Tryz.ntmps14
 go_wp2_with fail
 go_at_call 10
 refine hff.mono ?_
 rintro e w1 ⟨fv, us, rfl, oF, b1⟩
 have HO1 : Hid _ := HO0.out.below b1
 have HF1 : Hid _ := oF
 have HB1 : Hid (Below w.heap.size w w1) := hb0.trans (b1.mono hb0.size)
 obtain ⟨af, cf, hfv, _⟩ := oF.reads
 obtain ⟨n, hn⟩ : ∃ n, A.length = n := ⟨_, rfl⟩
 rw [hn] at hfv
 subst hfv
 have HP : Hid (okB ps c = true ∧ (∃ I E, FA ps c I E ∧ A = jg7 ps I E ∧ X = jn8 (selP ps jh0 I E) ps ps.length ∧ n = ps.length) ∨ (n = 0 ∧ X = [])) := by
  cases ho : okB ps c with
  | false => right; have := hA.2 ho; subst this; exact ⟨hn.symm, hX.2 ho⟩
  | true =>
   left
   obtain ⟨I, E, hI, e1⟩ := hX.1 ho
   obtain ⟨J, F, hJ, rfl⟩ := hA.1 ho
   obtain ⟨_, _, hcp, _⟩ := je9 ho
   refine ⟨rfl, J, F, hJ, rfl, ?_, by rw [← hn, jj2]⟩
   rw [e1]
   exact qd9 _ (Nat.le_refl _) (fun j hj q hq => by unfold selP; rw [hI.rows hcp hJ.inn hJ.ent hj hq])
 have HP1 : Hid (w1.heap[w.heap.size]? = some (.cells #[v] 26 (0, 0))) := (b1.block _ (by omega)).trans hP0
 clear hW0 HO0 hff oF b1 hX hA hc0 hP0
 rcases HP.out with ⟨ho, I, E, hI, rfl, rfl, rfl⟩ | ⟨rfl, rfl⟩
 · obtain ⟨_, _, hcp, h4⟩ := je9 ho
   obtain ⟨ao, cap, rfl, hcell⟩ := id hv
   have h12 : ∀ i (hi : i < ps.length), ps[i].length ≤ 12 := fun i hi => (jb3 (hcp i hi).1).2.1
   have hlenb := fun i (hi : i ≤ ps.length) => jq9 (selP ps jh0 I E) h12 i hi
   have hrowb := fun i k => jr6 (selP ps jh0 I E) i k
   clear HP
   go_wp2_with fail
   go_loopw [5, 7] (fun ov iv wr => ∃ i : Nat, i ≤ ps.length ∧ iv = .int .i64 i ∧ OwnPl wr (w.heap.size + 1) ov (jn8 (selP ps jh0 I E) ps i) ∧ OwnSS wr W0.heap.size (.slice af ps.length cf) us (jg7 ps I E) ∧ Below w.heap.size w wr ∧ wr.heap[w.heap.size]? = some (.cells #[.slice ao ps.length cap] 26 (0, 0))) (fun _ iv _ => ps.length - (intOf iv).toNat)
   case atStart => exact ⟨0, Nat.zero_le _, rfl, HO1.out, HF1.out, HB1.out, HP1.out⟩
   case round =>
    obtain ⟨i, hi, rfl, hO, hF, hB, hPP⟩ := hrel
    have HO : Hid _ := hO
    have HF : Hid _ := hF
    have HB : Hid _ := hB
    have HPi : Hid (_ = some (Obj.cells #[.slice ao ps.length cap] 26 (0, 0))) := hPP
    clear HO1 HF1 HB1 HP1 hO hB hPP
    by_cases hlt : i < ps.length
    · have hlt' : (i : Int) < (ps.length : Int) := by omega
      have h12i := h12 i hlt
      have hsz : ps.getD i [] = ps[i] := by simp [List.getD, hlt]
      go_wp2_with fail
      go_loopw [5, 8] (fun ov kv wr => ∃ k : Nat, k ≤ ps[i].length ∧ kv = .int .i64 k ∧ OwnPl wr (w.heap.size + 1) ov (jn8 (selP ps jh0 I E) ps i ++ jn9 (selP ps jh0 I E) i k) ∧ OwnSS wr W0.heap.size (.slice af ps.length cf) us (jg7 ps I E) ∧ Below w.heap.size w wr ∧ wr.heap[w.heap.size]? = some (.cells #[.slice ao ps.length cap] 26 (0, 0))) (fun _ kv _ => ps[i].length - (intOf kv).toNat)
      case atStart => exact ⟨0, Nat.zero_le _, rfl, by unfold jn9; rw [List.append_nil]; exact HO.out, HF.out, HB.out, HPi.out⟩
      case round =>
       obtain ⟨k, hk, rfl, hO, hF, hB, hPP⟩ := hrel
       obtain ⟨a9, c9, e9, hrd⟩ := hF.reads
       rw [jj2] at e9
       cases e9
       obtain ⟨g4, p4, v4, rfl, hc4, hR4⟩ := hrd i (rowF I E i ps[i].length) (jj5 hlt)
       obtain ⟨a5, c5, hv4, hcx⟩ := hR4
       rw [ja2, jj1] at hv4
       subst hv4
       have HOk : Hid _ := hO
       have HFk : Hid _ := hF
       have HBk : Hid _ := hB
       have HPk : Hid (_ = some (Obj.cells #[.slice ao ps.length cap] 26 (0, 0))) := hPP
       clear HO HF HB hO hF hB hrd HPi hPP
       by_cases hkl : k < ps[i].length
       · have hkl' : (k : Int) < (ps[i].length : Int) := by omega
         obtain ⟨g5, p5, rfl, hc5⟩ := hcx k (.int .i64 (img (I i k) (E.getD i 0))) (by simp [ints, rowF, hkl])
         obtain ⟨gp, op, u, rfl, hu0, au, cu, rfl, hc3⟩ := hcell i ps[i] (by simp [hlt])
         obtain ⟨gs3, off3, rfl, k0, k1, k2⟩ := hc3 k ps[i][k] (by simp [hkl])
         have M0 := HBk.out
         have hu := (M0.cell (World.block_lt_of_cell? w _ hu0)).trans hu0
         have k0 := (M0.cell (World.block_lt_of_cell? w _ k0)).trans k0
         have k1 := (M0.cell (World.block_lt_of_cell? w _ k1)).trans k1
         have k2 := (M0.cell (World.block_lt_of_cell? w _ k2)).trans k2
         have hPc := (ja6 HPk.out).1
         have HOKS : je8 ps[i][k].k ps[i][k].x ps[i][k].y = true := ((hcp i hlt).2 _ (List.getElem_mem hkl)).1
         have hsz2 : (ps.getD i []).getD k ⟨0, 0, 0⟩ = ps[i][k] := by rw [hsz]; simp [List.getD, hkl]
         have hPk : selP ps jh0 I E i k = jh0 ps[i][k] (img (I i k) (E.getD i 0)) := by unfold selP; rw [hsz2]
         have hxs : jb5 (img (I i k) (E.getD i 0)) := jd0 (hI.inn.good i hlt k hkl) _
         have hstep : jn9 (selP ps jh0 I E) i (k + 1) = jn9 (selP ps jh0 I E) i k ++ (if selP ps jh0 I E i k then [(i : Int), (k : Int)] else []) := rfl
         generalize img (I i k) (E.getD i 0) = x at *
         rw [hPk] at hstep
         obtain ⟨⟨sk, sx, sy⟩, hst⟩ : ∃ s, ps[i][k] = s := ⟨_, rfl⟩
         rw [hst] at k0 k1 k2 HOKS hstep
         simp only at k0 k1 k2 HOKS
         have bW : Below wr.heap.size wr (wr.alloc (.cells #[.int .i64 sk, .int .i64 sx, .int .i64 sy] 43)) := by go_grown
         have HX := heap_alloc_new wr (.cells #[.int .i64 sk, .int .i64 sx, .int .i64 sy] 43)
         obtain ⟨t0, t1, t2⟩ := three9 HX
         have c4 := (bW.cell (World.block_lt_of_cell? wr _ hc4)).trans hc4
         have c5x := (bW.cell (World.block_lt_of_cell? wr _ hc5)).trans hc5
         have HO6 : Hid _ := HOk.out.below (bW.trans (Below.drew (Below.refl _ _)))
         have HF6 : Hid _ := HFk.out.below (bW.trans (Below.drew (Below.refl _ _)))
         have HB6 : Hid (Below w.heap.size w (wr.alloc (.cells #[.int .i64 sk, .int .i64 sx, .int .i64 sy] 43)).drew) := HBk.out.trans ((Below.drew bW).mono HBk.out.size)
         have HP6 : Hid ((wr.alloc (.cells #[.int .i64 sk, .int .i64 sx, .int .i64 sy] 43)).drew.heap[w.heap.size]? = some (Obj.cells #[.slice (some ⟨gp, op, none⟩) ps.length cap] 26 (0, 0))) := (bW.block _ (Array.getElem?_eq_some_iff.1 HPk.out).1).trans HPk.out
         have hzz : w.heap.size + 1 ≤ wr.heap.size := (Array.getElem?_eq_some_iff.1 HPk.out).1
         have hz6 : wr.heap.size ≤ (wr.alloc (.cells #[.int .i64 sk, .int .i64 sx, .int .i64 sy] 43)).drew.heap.size := bW.size
         have HST : Hid _ := hstep
         clear hstep hPk hst hsz2 HX hcx
         go_wp2_with fail
         clear k0 k1 k2 hu hPc
         generalize hWd : wr.alloc (.cells #[.int .i64 sk, .int .i64 sx, .int .i64 sy] 43) = WA at *
         by_cases h6 : sk = 6
         · subst h6
           obtain ⟨n, hn, hn6⟩ := ju8 HOKS
           subst hn
           have hbt := qa1 (n + 1) hxs
           have hbb0 := tmod_bit hbt
           have hte : jh0 ⟨6, (n : Int), sy⟩ x = bit x (n + 1) := by
            unfold jh0
            have : ((n : Int) + 1).toNat = n + 1 := by omega
            simp [this]
           rw [hte] at HST
           obtain ⟨bb, hbq⟩ : ∃ bb, bit x (n + 1) = bb := ⟨_, rfl⟩
           rw [hbq] at HST hbb0
           clear hte hbt hbq HOKS
           have hcs : n = 0 ∨ n = 1 ∨ n = 2 ∨ n = 3 ∨ n = 4 ∨ n = 5 := by omega
           rcases hcs with rfl | rfl | rfl | rfl | rfl | rfl
           · have hbb : ((x / 2).tmod 2 == 1) = bb := by simpa using hbb0
             clear hbb0
             refine wp_region_held_drew (S := fun w' => ((w'.cell? ⟨wr.heap.size, 0, none⟩ = some (.int .i64 6) ∧ w'.cell? ⟨wr.heap.size, 1, none⟩ = some (.int .i64 0)) ∧ w'.cell? ⟨g4, p4 + i, none⟩ = some (.slice (some ⟨g5, p5, none⟩) ps[i].length c5)) ∧ w'.cell? ⟨g5, p5 + k, none⟩ = some (.int .i64 x)) (by kernel_rfl) ⟨⟨⟨t0, t1⟩, c4⟩, c5x⟩ (fun hHl => ?_)
             refine wpAnyH_take (i := 0) (oi := ?oiy00) (v := .pointer (some ⟨wr.heap.size, 0, none⟩)) ?_ (by kernel_rfl) (by kernel_rfl) (by kernel_rfl) ?_ ?_ hHl ?_
             rotate_left
             · simp only [gA, gB, gC]; rfl
             · exact fun _ _ _ h => h
             · exact Or.inl ⟨by kernel_rfl, fun w hSw => by go_simp⟩
             try simp only [Act.put, gD, gE, gF]
             refine wpAnyH_take (i := 1) (oi := ?oiy01) (v := .int .i64 6) ?_ (by kernel_rfl) (by kernel_rfl) (by kernel_rfl) ?_ ?_ hHl ?_
             rotate_left
             · simp only [gA, gB, gC]; rfl
             · exact fun _ _ _ h => h
             · exact Or.inl ⟨by kernel_rfl, fun w hSw => by obtain ⟨⟨⟨s1, s2⟩, s3⟩, s4⟩ := hSw; go_simp⟩
             try simp only [Act.put, gD, gE, gF]
             refine wpAnyH_take (i := 2) (oi := ?oiy02) (v := .bool true) ?_ (by kernel_rfl) (by kernel_rfl) (by kernel_rfl) ?_ ?_ hHl ?_
             rotate_left
             · simp only [gA, gB, gC]; rfl
             · exact fun _ _ _ h => h
             · exact Or.inl ⟨by kernel_rfl, fun w hSw => by go_simp⟩
             try simp only [Act.put, gD, gE, gF]
             refine wpAnyH_take (i := 3) (oi := ?oiy03) (v := .bool true) ?_ (by kernel_rfl) (by kernel_rfl) (by kernel_rfl) ?_ ?_ hHl ?_
             rotate_left
             · simp only [gA, gB, gC]; rfl
             · exact fun _ _ _ h => h
             · exact Or.inl ⟨by kernel_rfl, fun w hSw => by go_simp⟩
             try simp only [Act.put, gD, gE, gF]
             refine wpAnyH_take (i := 4) (oi := ?oiy04) (v := .slice (some ⟨g4, p4, none⟩) ps.length cf) ?_ (by kernel_rfl) (by kernel_rfl) (by kernel_rfl) ?_ ?_ hHl ?_
             rotate_left
             · simp only [gA, gB, gC]; rfl
             · exact fun _ _ _ h => h
             · exact Or.inl ⟨by kernel_rfl, fun w hSw => by go_simp⟩
             try simp only [Act.put, gD, gE, gF]
             refine wpAnyH_take (i := 5) (oi := ?oiy05) (v := .int .i64 (i : Int)) ?_ (by kernel_rfl) (by kernel_rfl) (by kernel_rfl) ?_ ?_ hHl ?_
             rotate_left
             · simp only [gA, gB, gC]; rfl
             · exact fun _ _ _ h => h
             · exact Or.inl ⟨by kernel_rfl, fun w hSw => by go_simp⟩
             try simp only [Act.put, gD, gE, gF]
             refine wpAnyH_take (i := 6) (oi := ?oiy06) (v := .pointer (some ⟨g4, p4 + i, none⟩)) ?_ (by kernel_rfl) (by kernel_rfl) (by kernel_rfl) ?_ ?_ hHl ?_
             rotate_left
             · simp only [gA, gB, gC]; rfl
             · exact fun _ _ _ h => h
             · exact Or.inl ⟨by kernel_rfl, fun w hSw => by go_simp⟩
             try simp only [Act.put, gD, gE, gF]
             refine wpAnyH_take (i := 7) (oi := ?oiy07) (v := .slice (some ⟨g5, p5, none⟩) ps[i].length c5) ?_ (by kernel_rfl) (by kernel_rfl) (by kernel_rfl) ?_ ?_ hHl ?_
             rotate_left
             · simp only [gA, gB, gC]; rfl
             · exact fun _ _ _ h => h
             · exact Or.inl ⟨by kernel_rfl, fun w hSw => by obtain ⟨⟨⟨s1, s2⟩, s3⟩, s4⟩ := hSw; go_simp⟩
             try simp only [Act.put, gD, gE, gF]
             refine wpAnyH_take (i := 8) (oi := ?oiy08) (v := .int .i64 (k : Int)) ?_ (by kernel_rfl) (by kernel_rfl) (by kernel_rfl) ?_ ?_ hHl ?_
             rotate_left
             · simp only [gA, gB, gC]; rfl
             · exact fun _ _ _ h => h
             · exact Or.inl ⟨by kernel_rfl, fun w hSw => by go_simp⟩
             try simp only [Act.put, gD, gE, gF]
             refine wpAnyH_take (i := 9) (oi := ?oiy09) (v := .pointer (some ⟨g5, p5 + k, none⟩)) ?_ (by kernel_rfl) (by kernel_rfl) (by kernel_rfl) ?_ ?_ hHl ?_
             rotate_left
             · simp only [gA, gB, gC]; rfl
             · exact fun _ _ _ h => h
             · exact Or.inl ⟨by kernel_rfl, fun w hSw => by go_simp⟩
             try simp only [Act.put, gD, gE, gF]
             refine wpAnyH_take (i := 10) (oi := ?oiy010) (v := .int .i64 x) ?_ (by kernel_rfl) (by kernel_rfl) (by kernel_rfl) ?_ ?_ hHl ?_
             rotate_left
             · simp only [gA, gB, gC]; rfl
             · exact fun _ _ _ h => h
             · exact Or.inl ⟨by kernel_rfl, fun w hSw => by obtain ⟨⟨⟨s1, s2⟩, s3⟩, s4⟩ := hSw; go_simp⟩
             try simp only [Act.put, gD, gE, gF]
             refine wpAnyH_take (i := 11) (oi := ?oiy011) (v := .pointer (some ⟨wr.heap.size, 1, none⟩)) ?_ (by kernel_rfl) (by kernel_rfl) (by kernel_rfl) ?_ ?_ hHl ?_
             rotate_left
             · simp only [gA, gB, gC]; rfl
             · exact fun _ _ _ h => h
             · exact Or.inl ⟨by kernel_rfl, fun w hSw => by go_simp⟩
             try simp only [Act.put, gD, gE, gF]
             refine wpAnyH_take (i := 12) (oi := ?oiy012) (v := .int .i64 0) ?_ (by kernel_rfl) (by kernel_rfl) (by kernel_rfl) ?_ ?_ hHl ?_
             rotate_left
             · simp only [gA, gB, gC]; rfl
             · exact fun _ _ _ h => h
             · exact Or.inl ⟨by kernel_rfl, fun w hSw => by obtain ⟨⟨⟨s1, s2⟩, s3⟩, s4⟩ := hSw; go_simp⟩
             try simp only [Act.put, gD, gE, gF]
             refine wpAnyH_take (i := 13) (oi := ?oiy013) (v := .int .i64 1) ?_ (by kernel_rfl) (by kernel_rfl) (by kernel_rfl) ?_ ?_ hHl ?_
             rotate_left
             · simp only [gA, gB, gC]; rfl
             · exact fun _ _ _ h => h
             · exact Or.inl ⟨by kernel_rfl, fun w hSw => by go_simp <;> rfl⟩
             try simp only [Act.put, gD, gE, gF]
             refine wpAnyH_take (i := 14) (oi := ?oiy014) (v := .int .u64 1) ?_ (by kernel_rfl) (by kernel_rfl) (by kernel_rfl) ?_ ?_ hHl ?_
             rotate_left
             · simp only [gA, gB, gC]; rfl
             · exact fun _ _ _ h => h
             · exact Or.inl ⟨by kernel_rfl, fun w hSw => by go_simp <;> rfl⟩
             try simp only [Act.put, gD, gE, gF]
             refine wpAnyH_take (i := 15) (oi := ?oiy015) (v := .int .i64 (x / 2)) ?_ (by kernel_rfl) (by kernel_rfl) (by kernel_rfl) ?_ ?_ hHl ?_
             rotate_left
             · simp only [gA, gB, gC]; rfl
             · exact fun _ _ _ h => h
             · exact Or.inl ⟨by kernel_rfl, fun w hSw => by go_simp⟩
             try simp only [Act.put, gD, gE, gF]
             refine wpAnyH_take (i := 16) (oi := ?oiy016) (v := .int .i64 ((x / 2).tmod 2)) ?_ (by kernel_rfl) (by kernel_rfl) (by kernel_rfl) ?_ ?_ hHl ?_
             rotate_left
             · simp only [gA, gB, gC]; rfl
             · exact fun _ _ _ h => h
             · exact Or.inl ⟨by kernel_rfl, fun w hSw => by go_simp⟩
             try simp only [Act.put, gD, gE, gF]
             refine wpAnyH_take (i := 17) (oi := ?oiy017) (v := .bool bb) ?_ (by kernel_rfl) (by kernel_rfl) (by kernel_rfl) ?_ ?_ hHl ?_
             rotate_left
             · simp only [gA, gB, gC]; rfl
             · exact fun _ _ _ h => h
             · exact Or.inl ⟨by kernel_rfl, fun w hSw => by go_simp <;> exact hbb⟩
             try simp only [Act.put, gD, gE, gF]
             refine wpAnyH_take (i := 18) (oi := ?oiy018) (v := .bool bb) ?_ (by kernel_rfl) (by kernel_rfl) (by kernel_rfl) ?_ ?_ hHl ?_
             rotate_left
             · simp only [gA, gB, gC]; rfl
             · exact fun _ _ _ h => h
             · exact Or.inl ⟨by kernel_rfl, fun w hSw => by go_simp⟩
             try simp only [Act.put, gD, gE, gF]
             refine wpAnyH_done (by kernel_rfl) ?_ _
             cases bb
             · go_wp2_with fail
               go_roundw
               case rel => exact ⟨k + 1, by omega, by go_num, by rw [HST.out]; simpa using HO6.out, HF6.out, HB6.out, HP6.out⟩
               case measure => simp [intOf]; omega
             · obtain ⟨m, hm, hown⟩ := HO6.out.ex
               obtain ⟨m1, q1, q2⟩ := hlenb i (by omega)
               obtain ⟨m2, q3, q4⟩ := hrowb i k
               have hmb : m ≤ 1000 := by rw [List.length_append] at hm; omega
               have HNB : Hid _ := heap_alloc_new WA.drew (.cells #[.int .i64 (i : Int), .int .i64 (k : Int)] 48)
               have HMB : Hid _ := hm
               clear hm
               have HAL : Hid _ := hown.alloc (.cells #[.int .i64 (i : Int), .int .i64 (k : Int)] 48)
               have bA : Below WA.drew.heap.size WA.drew (WA.drew.alloc (.cells #[.int .i64 (i : Int), .int .i64 (k : Int)] 48)) := by go_grown
               have HFA : Hid _ := HF6.out.below bA
               have HOA : Hid _ := HO6.out.below bA
               have HBA : Hid (Below w.heap.size w (WA.drew.alloc (.cells #[.int .i64 (i : Int), .int .i64 (k : Int)] 48))) := HB6.out.trans (bA.mono HB6.out.size)
               have hm1 : m + 1 ≤ maxLen := by unfold maxLen; omega
               have hm2 : (m + 1) * 16 ≤ 140737488355328 := by omega
               have hm3 : w.heap.size + 1 ≤ (WA.drew.alloc (.cells #[.int .i64 (i : Int), .int .i64 (k : Int)] 48)).heap.size := by have := bA.size; omega
               have hnews := World.news_of_block HNB.out
               have HNW : Hid _ := hnews
               clear hnews
               go_wp2_with (first
                | (at_builtin; refine wpList_append_own _ rfl (.tmp 57) (.tmp 61) 33 rfl (w.heap.size + 1) 48 ip (.agg #[.int .i64 0, .int .i64 0]) 2 16 Tryz.underlying33 hip hq0 hq1 hq2 rfl (by decide) u5 m _ rfl HAL.out ⟨WA.heap.size, 0, none⟩ 1 1 [.int .i64 (i : Int), .int .i64 (k : Int)] rfl rfl HNW.out (jq8 i k) hm1 hm2 hm3 ?_; intro v7 w7 own7 grow7 _; refine je6 ?_))
               unfold Stop
               have S7 : Hid _ := OwnPl.app HMB.out own7
               have F7 : Hid _ := OwnSS.kind HFA.out HOA.out grow7
               have B7 : Hid (Below w.heap.size w w7) := HBA.out.grown grow7 HBA.out.size (fun q hq => by have := (hown.lt q hq).1; omega)
               have P7 : Hid (w7.heap[w.heap.size]? = some (Obj.cells #[.slice (some ⟨gp, op, none⟩) ps.length cap] 26 (0, 0))) := (grow7.block _ (Nat.lt_of_lt_of_le (Array.getElem?_eq_some_iff.1 HP6.out).1 bA.size) (fun e => by have := (hown.lt _ e.symm).1; omega)).trans ((bA.block _ (Array.getElem?_eq_some_iff.1 HP6.out).1).trans HP6.out)
               clear own7 grow7
               go_wp2_with fail
               go_roundw
               case rel => exact ⟨k + 1, by omega, by go_num, by rw [HST.out, ← List.append_assoc]; exact S7.out, F7.out, B7.out, P7.out⟩
               case measure => simp [intOf]; omega
           · have hbb : ((x / 4).tmod 2 == 1) = bb := by simpa using hbb0
             clear hbb0
             refine wp_region_held_drew (S := fun w' => ((w'.cell? ⟨wr.heap.size, 0, none⟩ = some (.int .i64 6) ∧ w'.cell? ⟨wr.heap.size, 1, none⟩ = some (.int .i64 1)) ∧ w'.cell? ⟨g4, p4 + i, none⟩ = some (.slice (some ⟨g5, p5, none⟩) ps[i].length c5)) ∧ w'.cell? ⟨g5, p5 + k, none⟩ = some (.int .i64 x)) (by kernel_rfl) ⟨⟨⟨t0, t1⟩, c4⟩, c5x⟩ (fun hHl => ?_)
             refine wpAnyH_take (i := 0) (oi := ?oiy10) (v := .pointer (some ⟨wr.heap.size, 0, none⟩)) ?_ (by kernel_rfl) (by kernel_rfl) (by kernel_rfl) ?_ ?_ hHl ?_
             rotate_left
             · simp only [gA, gB, gC]; rfl
             · exact fun _ _ _ h => h
             · exact Or.inl ⟨by kernel_rfl, fun w hSw => by go_simp⟩
             try simp only [Act.put, gD, gE, gF]
             refine wpAnyH_take (i := 1) (oi := ?oiy11) (v := .int .i64 6) ?_ (by kernel_rfl) (by kernel_rfl) (by kernel_rfl) ?_ ?_ hHl ?_
             rotate_left
             · simp only [gA, gB, gC]; rfl
             · exact fun _ _ _ h => h
             · exact Or.inl ⟨by kernel_rfl, fun w hSw => by obtain ⟨⟨⟨s1, s2⟩, s3⟩, s4⟩ := hSw; go_simp⟩
             try simp only [Act.put, gD, gE, gF]
             refine wpAnyH_take (i := 2) (oi := ?oiy12) (v := .bool true) ?_ (by kernel_rfl) (by kernel_rfl) (by kernel_rfl) ?_ ?_ hHl ?_
             rotate_left
             · simp only [gA, gB, gC]; rfl
             · exact fun _ _ _ h => h
             · exact Or.inl ⟨by kernel_rfl, fun w hSw => by go_simp⟩
             try simp only [Act.put, gD, gE, gF]
             refine wpAnyH_take (i := 3) (oi := ?oiy13) (v := .bool true) ?_ (by kernel_rfl) (by kernel_rfl) (by kernel_rfl) ?_ ?_ hHl ?_
             rotate_left
             · simp only [gA, gB, gC]; rfl
             · exact fun _ _ _ h => h
             · exact Or.inl ⟨by kernel_rfl, fun w hSw => by go_simp⟩
             try simp only [Act.put, gD, gE, gF]
             refine wpAnyH_take (i := 4) (oi := ?oiy14) (v := .slice (some ⟨g4, p4, none⟩) ps.length cf) ?_ (by kernel_rfl) (by kernel_rfl) (by kernel_rfl) ?_ ?_ hHl ?_
             rotate_left
             · simp only [gA, gB, gC]; rfl
             · exact fun _ _ _ h => h
             · exact Or.inl ⟨by kernel_rfl, fun w hSw => by go_simp⟩
             try simp only [Act.put, gD, gE, gF]
             refine wpAnyH_take (i := 5) (oi := ?oiy15) (v := .int .i64 (i : Int)) ?_ (by kernel_rfl) (by kernel_rfl) (by kernel_rfl) ?_ ?_ hHl ?_
             rotate_left
             · simp only [gA, gB, gC]; rfl
             · exact fun _ _ _ h => h
             · exact Or.inl ⟨by kernel_rfl, fun w hSw => by go_simp⟩
             try simp only [Act.put, gD, gE, gF]
             refine wpAnyH_take (i := 6) (oi := ?oiy16) (v := .pointer (some ⟨g4, p4 + i, none⟩)) ?_ (by kernel_rfl) (by kernel_rfl) (by kernel_rfl) ?_ ?_ hHl ?_
             rotate_left
             · simp only [gA, gB, gC]; rfl
             · exact fun _ _ _ h => h
             · exact Or.inl ⟨by kernel_rfl, fun w hSw => by go_simp⟩
             try simp only [Act.put, gD, gE, gF]
             refine wpAnyH_take (i := 7) (oi := ?oiy17) (v := .slice (some ⟨g5, p5, none⟩) ps[i].length c5) ?_ (by kernel_rfl) (by kernel_rfl) (by kernel_rfl) ?_ ?_ hHl ?_
             rotate_left
             · simp only [gA, gB, gC]; rfl
             · exact fun _ _ _ h => h
             · exact Or.inl ⟨by kernel_rfl, fun w hSw => by obtain ⟨⟨⟨s1, s2⟩, s3⟩, s4⟩ := hSw; go_simp⟩
             try simp only [Act.put, gD, gE, gF]
             refine wpAnyH_take (i := 8) (oi := ?oiy18) (v := .int .i64 (k : Int)) ?_ (by kernel_rfl) (by kernel_rfl) (by kernel_rfl) ?_ ?_ hHl ?_
             rotate_left
             · simp only [gA, gB, gC]; rfl
             · exact fun _ _ _ h => h
             · exact Or.inl ⟨by kernel_rfl, fun w hSw => by go_simp⟩
             try simp only [Act.put, gD, gE, gF]
             refine wpAnyH_take (i := 9) (oi := ?oiy19) (v := .pointer (some ⟨g5, p5 + k, none⟩)) ?_ (by kernel_rfl) (by kernel_rfl) (by kernel_rfl) ?_ ?_ hHl ?_
             rotate_left
             · simp only [gA, gB, gC]; rfl
             · exact fun _ _ _ h => h
             · exact Or.inl ⟨by kernel_rfl, fun w hSw => by go_simp⟩
             try simp only [Act.put, gD, gE, gF]
             refine wpAnyH_take (i := 10) (oi := ?oiy110) (v := .int .i64 x) ?_ (by kernel_rfl) (by kernel_rfl) (by kernel_rfl) ?_ ?_ hHl ?_
             rotate_left
             · simp only [gA, gB, gC]; rfl
             · exact fun _ _ _ h => h
             · exact Or.inl ⟨by kernel_rfl, fun w hSw => by obtain ⟨⟨⟨s1, s2⟩, s3⟩, s4⟩ := hSw; go_simp⟩
             try simp only [Act.put, gD, gE, gF]
             refine wpAnyH_take (i := 11) (oi := ?oiy111) (v := .pointer (some ⟨wr.heap.size, 1, none⟩)) ?_ (by kernel_rfl) (by kernel_rfl) (by kernel_rfl) ?_ ?_ hHl ?_
             rotate_left
             · simp only [gA, gB, gC]; rfl
             · exact fun _ _ _ h => h
             · exact Or.inl ⟨by kernel_rfl, fun w hSw => by go_simp⟩
             try simp only [Act.put, gD, gE, gF]
             refine wpAnyH_take (i := 12) (oi := ?oiy112) (v := .int .i64 1) ?_ (by kernel_rfl) (by kernel_rfl) (by kernel_rfl) ?_ ?_ hHl ?_
             rotate_left
             · simp only [gA, gB, gC]; rfl
             · exact fun _ _ _ h => h
             · exact Or.inl ⟨by kernel_rfl, fun w hSw => by obtain ⟨⟨⟨s1, s2⟩, s3⟩, s4⟩ := hSw; go_simp⟩
             try simp only [Act.put, gD, gE, gF]
             refine wpAnyH_take (i := 13) (oi := ?oiy113) (v := .int .i64 2) ?_ (by kernel_rfl) (by kernel_rfl) (by kernel_rfl) ?_ ?_ hHl ?_
             rotate_left
             · simp only [gA, gB, gC]; rfl
             · exact fun _ _ _ h => h
             · exact Or.inl ⟨by kernel_rfl, fun w hSw => by go_simp <;> rfl⟩
             try simp only [Act.put, gD, gE, gF]
             refine wpAnyH_take (i := 14) (oi := ?oiy114) (v := .int .u64 2) ?_ (by kernel_rfl) (by kernel_rfl) (by kernel_rfl) ?_ ?_ hHl ?_
             rotate_left
             · simp only [gA, gB, gC]; rfl
             · exact fun _ _ _ h => h
             · exact Or.inl ⟨by kernel_rfl, fun w hSw => by go_simp <;> rfl⟩
             try simp only [Act.put, gD, gE, gF]
             refine wpAnyH_take (i := 15) (oi := ?oiy115) (v := .int .i64 (x / 4)) ?_ (by kernel_rfl) (by kernel_rfl) (by kernel_rfl) ?_ ?_ hHl ?_
             rotate_left
             · simp only [gA, gB, gC]; rfl
             · exact fun _ _ _ h => h
             · exact Or.inl ⟨by kernel_rfl, fun w hSw => by go_simp⟩
             try simp only [Act.put, gD, gE, gF]
             refine wpAnyH_take (i := 16) (oi := ?oiy116) (v := .int .i64 ((x / 4).tmod 2)) ?_ (by kernel_rfl) (by kernel_rfl) (by kernel_rfl) ?_ ?_ hHl ?_
             rotate_left
             · simp only [gA, gB, gC]; rfl
             · exact fun _ _ _ h => h
             · exact Or.inl ⟨by kernel_rfl, fun w hSw => by go_simp⟩
             try simp only [Act.put, gD, gE, gF]
             refine wpAnyH_take (i := 17) (oi := ?oiy117) (v := .bool bb) ?_ (by kernel_rfl) (by kernel_rfl) (by kernel_rfl) ?_ ?_ hHl ?_
             rotate_left
             · simp only [gA, gB, gC]; rfl
             · exact fun _ _ _ h => h
             · exact Or.inl ⟨by kernel_rfl, fun w hSw => by go_simp <;> exact hbb⟩
             try simp only [Act.put, gD, gE, gF]
             refine wpAnyH_take (i := 18) (oi := ?oiy118) (v := .bool bb) ?_ (by kernel_rfl) (by kernel_rfl) (by kernel_rfl) ?_ ?_ hHl ?_
             rotate_left
             · simp only [gA, gB, gC]; rfl
             · exact fun _ _ _ h => h
             · exact Or.inl ⟨by kernel_rfl, fun w hSw => by go_simp⟩
             try simp only [Act.put, gD, gE, gF]
             refine wpAnyH_done (by kernel_rfl) ?_ _
             cases bb
             · go_wp2_with fail
               go_roundw
               case rel => exact ⟨k + 1, by omega, by go_num, by rw [HST.out]; simpa using HO6.out, HF6.out, HB6.out, HP6.out⟩
               case measure => simp [intOf]; omega
             · obtain ⟨m, hm, hown⟩ := HO6.out.ex
               obtain ⟨m1, q1, q2⟩ := hlenb i (by omega)
               obtain ⟨m2, q3, q4⟩ := hrowb i k
               have hmb : m ≤ 1000 := by rw [List.length_append] at hm; omega
               have HNB : Hid _ := heap_alloc_new WA.drew (.cells #[.int .i64 (i : Int), .int .i64 (k : Int)] 48)
               have HMB : Hid _ := hm
               clear hm
               have HAL : Hid _ := hown.alloc (.cells #[.int .i64 (i : Int), .int .i64 (k : Int)] 48)
               have bA : Below WA.drew.heap.size WA.drew (WA.drew.alloc (.cells #[.int .i64 (i : Int), .int .i64 (k : Int)] 48)) := by go_grown
               have HFA : Hid _ := HF6.out.below bA
               have HOA : Hid _ := HO6.out.below bA
               have HBA : Hid (Below w.heap.size w (WA.drew.alloc (.cells #[.int .i64 (i : Int), .int .i64 (k : Int)] 48))) := HB6.out.trans (bA.mono HB6.out.size)
               have hm1 : m + 1 ≤ maxLen := by unfold maxLen; omega
               have hm2 : (m + 1) * 16 ≤ 140737488355328 := by omega
               have hm3 : w.heap.size + 1 ≤ (WA.drew.alloc (.cells #[.int .i64 (i : Int), .int .i64 (k : Int)] 48)).heap.size := by have := bA.size; omega
               have hnews := World.news_of_block HNB.out
               have HNW : Hid _ := hnews
               clear hnews
               go_wp2_with (first
                | (at_builtin; refine wpList_append_own _ rfl (.tmp 57) (.tmp 61) 33 rfl (w.heap.size + 1) 48 ip (.agg #[.int .i64 0, .int .i64 0]) 2 16 Tryz.underlying33 hip hq0 hq1 hq2 rfl (by decide) u5 m _ rfl HAL.out ⟨WA.heap.size, 0, none⟩ 1 1 [.int .i64 (i : Int), .int .i64 (k : Int)] rfl rfl HNW.out (jq8 i k) hm1 hm2 hm3 ?_; intro v7 w7 own7 grow7 _; refine je6 ?_))
               unfold Stop
               have S7 : Hid _ := OwnPl.app HMB.out own7
               have F7 : Hid _ := OwnSS.kind HFA.out HOA.out grow7
               have B7 : Hid (Below w.heap.size w w7) := HBA.out.grown grow7 HBA.out.size (fun q hq => by have := (hown.lt q hq).1; omega)
               have P7 : Hid (w7.heap[w.heap.size]? = some (Obj.cells #[.slice (some ⟨gp, op, none⟩) ps.length cap] 26 (0, 0))) := (grow7.block _ (Nat.lt_of_lt_of_le (Array.getElem?_eq_some_iff.1 HP6.out).1 bA.size) (fun e => by have := (hown.lt _ e.symm).1; omega)).trans ((bA.block _ (Array.getElem?_eq_some_iff.1 HP6.out).1).trans HP6.out)
               clear own7 grow7
               go_wp2_with fail
               go_roundw
               case rel => exact ⟨k + 1, by omega, by go_num, by rw [HST.out, ← List.append_assoc]; exact S7.out, F7.out, B7.out, P7.out⟩
               case measure => simp [intOf]; omega
           · have hbb : ((x / 8).tmod 2 == 1) = bb := by simpa using hbb0
             clear hbb0
             refine wp_region_held_drew (S := fun w' => ((w'.cell? ⟨wr.heap.size, 0, none⟩ = some (.int .i64 6) ∧ w'.cell? ⟨wr.heap.size, 1, none⟩ = some (.int .i64 2)) ∧ w'.cell? ⟨g4, p4 + i, none⟩ = some (.slice (some ⟨g5, p5, none⟩) ps[i].length c5)) ∧ w'.cell? ⟨g5, p5 + k, none⟩ = some (.int .i64 x)) (by kernel_rfl) ⟨⟨⟨t0, t1⟩, c4⟩, c5x⟩ (fun hHl => ?_)
             refine wpAnyH_take (i := 0) (oi := ?oiy20) (v := .pointer (some ⟨wr.heap.size, 0, none⟩)) ?_ (by kernel_rfl) (by kernel_rfl) (by kernel_rfl) ?_ ?_ hHl ?_
             rotate_left
             · simp only [gA, gB, gC]; rfl
             · exact fun _ _ _ h => h
             · exact Or.inl ⟨by kernel_rfl, fun w hSw => by go_simp⟩
             try simp only [Act.put, gD, gE, gF]
             refine wpAnyH_take (i := 1) (oi := ?oiy21) (v := .int .i64 6) ?_ (by kernel_rfl) (by kernel_rfl) (by kernel_rfl) ?_ ?_ hHl ?_
             rotate_left
             · simp only [gA, gB, gC]; rfl
             · exact fun _ _ _ h => h
             · exact Or.inl ⟨by kernel_rfl, fun w hSw => by obtain ⟨⟨⟨s1, s2⟩, s3⟩, s4⟩ := hSw; go_simp⟩
             try simp only [Act.put, gD, gE, gF]
             refine wpAnyH_take (i := 2) (oi := ?oiy22) (v := .bool true) ?_ (by kernel_rfl) (by kernel_rfl) (by kernel_rfl) ?_ ?_ hHl ?_
             rotate_left
             · simp only [gA, gB, gC]; rfl
             · exact fun _ _ _ h => h
             · exact Or.inl ⟨by kernel_rfl, fun w hSw => by go_simp⟩
             try simp only [Act.put, gD, gE, gF]
             refine wpAnyH_take (i := 3) (oi := ?oiy23) (v := .bool true) ?_ (by kernel_rfl) (by kernel_rfl) (by kernel_rfl) ?_ ?_ hHl ?_
             rotate_left
             · simp only [gA, gB, gC]; rfl
             · exact fun _ _ _ h => h
             · exact Or.inl ⟨by kernel_rfl, fun w hSw => by go_simp⟩
             try simp only [Act.put, gD, gE, gF]
             refine wpAnyH_take (i := 4) (oi := ?oiy24) (v := .slice (some ⟨g4, p4, none⟩) ps.length cf) ?_ (by kernel_rfl) (by kernel_rfl) (by kernel_rfl) ?_ ?_ hHl ?_
             rotate_left
             · simp only [gA, gB, gC]; rfl
             · exact fun _ _ _ h => h
             · exact Or.inl ⟨by kernel_rfl, fun w hSw => by go_simp⟩
             try simp only [Act.put, gD, gE, gF]
             refine wpAnyH_take (i := 5) (oi := ?oiy25) (v := .int .i64 (i : Int)) ?_ (by kernel_rfl) (by kernel_rfl) (by kernel_rfl) ?_ ?_ hHl ?_
             rotate_left
             · simp only [gA, gB, gC]; rfl
             · exact fun _ _ _ h => h
             · exact Or.inl ⟨by kernel_rfl, fun w hSw => by go_simp⟩
             try simp only [Act.put, gD, gE, gF]
             refine wpAnyH_take (i := 6) (oi := ?oiy26) (v := .pointer (some ⟨g4, p4 + i, none⟩)) ?_ (by kernel_rfl) (by kernel_rfl) (by kernel_rfl) ?_ ?_ hHl ?_
             rotate_left
             · simp only [gA, gB, gC]; rfl
             · exact fun _ _ _ h => h
             · exact Or.inl ⟨by kernel_rfl, fun w hSw => by go_simp⟩
             try simp only [Act.put, gD, gE, gF]
             refine wpAnyH_take (i := 7) (oi := ?oiy27) (v := .slice (some ⟨g5, p5, none⟩) ps[i].length c5) ?_ (by kernel_rfl) (by kernel_rfl) (by kernel_rfl) ?_ ?_ hHl ?_
             rotate_left
             · simp only [gA, gB, gC]; rfl
             · exact fun _ _ _ h => h
             · exact Or.inl ⟨by kernel_rfl, fun w hSw => by obtain ⟨⟨⟨s1, s2⟩, s3⟩, s4⟩ := hSw; go_simp⟩
             try simp only [Act.put, gD, gE, gF]
             refine wpAnyH_take (i := 8) (oi := ?oiy28) (v := .int .i64 (k : Int)) ?_ (by kernel_rfl) (by kernel_rfl) (by kernel_rfl) ?_ ?_ hHl ?_
             rotate_left
             · simp only [gA, gB, gC]; rfl
             · exact fun _ _ _ h => h
             · exact Or.inl ⟨by kernel_rfl, fun w hSw => by go_simp⟩
             try simp only [Act.put, gD, gE, gF]
             refine wpAnyH_take (i := 9) (oi := ?oiy29) (v := .pointer (some ⟨g5, p5 + k, none⟩)) ?_ (by kernel_rfl) (by kernel_rfl) (by kernel_rfl) ?_ ?_ hHl ?_
             rotate_left
             · simp only [gA, gB, gC]; rfl
             · exact fun _ _ _ h => h
             · exact Or.inl ⟨by kernel_rfl, fun w hSw => by go_simp⟩
             try simp only [Act.put, gD, gE, gF]
             refine wpAnyH_take (i := 10) (oi := ?oiy210) (v := .int .i64 x) ?_ (by kernel_rfl) (by kernel_rfl) (by kernel_rfl) ?_ ?_ hHl ?_
             rotate_left
             · simp only [gA, gB, gC]; rfl
             · exact fun _ _ _ h => h
             · exact Or.inl ⟨by kernel_rfl, fun w hSw => by obtain ⟨⟨⟨s1, s2⟩, s3⟩, s4⟩ := hSw; go_simp⟩
             try simp only [Act.put, gD, gE, gF]
             refine wpAnyH_take (i := 11) (oi := ?oiy211) (v := .pointer (some ⟨wr.heap.size, 1, none⟩)) ?_ (by kernel_rfl) (by kernel_rfl) (by kernel_rfl) ?_ ?_ hHl ?_
             rotate_left
             · simp only [gA, gB, gC]; rfl
             · exact fun _ _ _ h => h
             · exact Or.inl ⟨by kernel_rfl, fun w hSw => by go_simp⟩
             try simp only [Act.put, gD, gE, gF]
             refine wpAnyH_take (i := 12) (oi := ?oiy212) (v := .int .i64 2) ?_ (by kernel_rfl) (by kernel_rfl) (by kernel_rfl) ?_ ?_ hHl ?_
             rotate_left
             · simp only [gA, gB, gC]; rfl
             · exact fun _ _ _ h => h
             · exact Or.inl ⟨by kernel_rfl, fun w hSw => by obtain ⟨⟨⟨s1, s2⟩, s3⟩, s4⟩ := hSw; go_simp⟩
             try simp only [Act.put, gD, gE, gF]
             refine wpAnyH_take (i := 13) (oi := ?oiy213) (v := .int .i64 3) ?_ (by kernel_rfl) (by kernel_rfl) (by kernel_rfl) ?_ ?_ hHl ?_
             rotate_left
             · simp only [gA, gB, gC]; rfl
             · exact fun _ _ _ h => h
             · exact Or.inl ⟨by kernel_rfl, fun w hSw => by go_simp <;> rfl⟩
             try simp only [Act.put, gD, gE, gF]
             refine wpAnyH_take (i := 14) (oi := ?oiy214) (v := .int .u64 3) ?_ (by kernel_rfl) (by kernel_rfl) (by kernel_rfl) ?_ ?_ hHl ?_
             rotate_left
             · simp only [gA, gB, gC]; rfl
             · exact fun _ _ _ h => h
             · exact Or.inl ⟨by kernel_rfl, fun w hSw => by go_simp <;> rfl⟩
             try simp only [Act.put, gD, gE, gF]
             refine wpAnyH_take (i := 15) (oi := ?oiy215) (v := .int .i64 (x / 8)) ?_ (by kernel_rfl) (by kernel_rfl) (by kernel_rfl) ?_ ?_ hHl ?_
             rotate_left
             · simp only [gA, gB, gC]; rfl
             · exact fun _ _ _ h => h
             · exact Or.inl ⟨by kernel_rfl, fun w hSw => by go_simp⟩
             try simp only [Act.put, gD, gE, gF]
             refine wpAnyH_take (i := 16) (oi := ?oiy216) (v := .int .i64 ((x / 8).tmod 2)) ?_ (by kernel_rfl) (by kernel_rfl) (by kernel_rfl) ?_ ?_ hHl ?_
             rotate_left
             · simp only [gA, gB, gC]; rfl
             · exact fun _ _ _ h => h
             · exact Or.inl ⟨by kernel_rfl, fun w hSw => by go_simp⟩
             try simp only [Act.put, gD, gE, gF]
             refine wpAnyH_take (i := 17) (oi := ?oiy217) (v := .bool bb) ?_ (by kernel_rfl) (by kernel_rfl) (by kernel_rfl) ?_ ?_ hHl ?_
             rotate_left
             · simp only [gA, gB, gC]; rfl
             · exact fun _ _ _ h => h
             · exact Or.inl ⟨by kernel_rfl, fun w hSw => by go_simp <;> exact hbb⟩
             try simp only [Act.put, gD, gE, gF]
             refine wpAnyH_take (i := 18) (oi := ?oiy218) (v := .bool bb) ?_ (by kernel_rfl) (by kernel_rfl) (by kernel_rfl) ?_ ?_ hHl ?_
             rotate_left
             · simp only [gA, gB, gC]; rfl
             · exact fun _ _ _ h => h
             · exact Or.inl ⟨by kernel_rfl, fun w hSw => by go_simp⟩
             try simp only [Act.put, gD, gE, gF]
             refine wpAnyH_done (by kernel_rfl) ?_ _
             cases bb
             · go_wp2_with fail
               go_roundw
               case rel => exact ⟨k + 1, by omega, by go_num, by rw [HST.out]; simpa using HO6.out, HF6.out, HB6.out, HP6.out⟩
               case measure => simp [intOf]; omega
             · obtain ⟨m, hm, hown⟩ := HO6.out.ex
               obtain ⟨m1, q1, q2⟩ := hlenb i (by omega)
               obtain ⟨m2, q3, q4⟩ := hrowb i k
               have hmb : m ≤ 1000 := by rw [List.length_append] at hm; omega
               have HNB : Hid _ := heap_alloc_new WA.drew (.cells #[.int .i64 (i : Int), .int .i64 (k : Int)] 48)
               have HMB : Hid _ := hm
               clear hm
               have HAL : Hid _ := hown.alloc (.cells #[.int .i64 (i : Int), .int .i64 (k : Int)] 48)
               have bA : Below WA.drew.heap.size WA.drew (WA.drew.alloc (.cells #[.int .i64 (i : Int), .int .i64 (k : Int)] 48)) := by go_grown
               have HFA : Hid _ := HF6.out.below bA
               have HOA : Hid _ := HO6.out.below bA
               have HBA : Hid (Below w.heap.size w (WA.drew.alloc (.cells #[.int .i64 (i : Int), .int .i64 (k : Int)] 48))) := HB6.out.trans (bA.mono HB6.out.size)
               have hm1 : m + 1 ≤ maxLen := by unfold maxLen; omega
               have hm2 : (m + 1) * 16 ≤ 140737488355328 := by omega
               have hm3 : w.heap.size + 1 ≤ (WA.drew.alloc (.cells #[.int .i64 (i : Int), .int .i64 (k : Int)] 48)).heap.size := by have := bA.size; omega
               have hnews := World.news_of_block HNB.out
               have HNW : Hid _ := hnews
               clear hnews
               go_wp2_with (first
                | (at_builtin; refine wpList_append_own _ rfl (.tmp 57) (.tmp 61) 33 rfl (w.heap.size + 1) 48 ip (.agg #[.int .i64 0, .int .i64 0]) 2 16 Tryz.underlying33 hip hq0 hq1 hq2 rfl (by decide) u5 m _ rfl HAL.out ⟨WA.heap.size, 0, none⟩ 1 1 [.int .i64 (i : Int), .int .i64 (k : Int)] rfl rfl HNW.out (jq8 i k) hm1 hm2 hm3 ?_; intro v7 w7 own7 grow7 _; refine je6 ?_))
               unfold Stop
               have S7 : Hid _ := OwnPl.app HMB.out own7
               have F7 : Hid _ := OwnSS.kind HFA.out HOA.out grow7
               have B7 : Hid (Below w.heap.size w w7) := HBA.out.grown grow7 HBA.out.size (fun q hq => by have := (hown.lt q hq).1; omega)
               have P7 : Hid (w7.heap[w.heap.size]? = some (Obj.cells #[.slice (some ⟨gp, op, none⟩) ps.length cap] 26 (0, 0))) := (grow7.block _ (Nat.lt_of_lt_of_le (Array.getElem?_eq_some_iff.1 HP6.out).1 bA.size) (fun e => by have := (hown.lt _ e.symm).1; omega)).trans ((bA.block _ (Array.getElem?_eq_some_iff.1 HP6.out).1).trans HP6.out)
               clear own7 grow7
               go_wp2_with fail
               go_roundw
               case rel => exact ⟨k + 1, by omega, by go_num, by rw [HST.out, ← List.append_assoc]; exact S7.out, F7.out, B7.out, P7.out⟩
               case measure => simp [intOf]; omega
           · have hbb : ((x / 16).tmod 2 == 1) = bb := by simpa using hbb0
             clear hbb0
             refine wp_region_held_drew (S := fun w' => ((w'.cell? ⟨wr.heap.size, 0, none⟩ = some (.int .i64 6) ∧ w'.cell? ⟨wr.heap.size, 1, none⟩ = some (.int .i64 3)) ∧ w'.cell? ⟨g4, p4 + i, none⟩ = some (.slice (some ⟨g5, p5, none⟩) ps[i].length c5)) ∧ w'.cell? ⟨g5, p5 + k, none⟩ = some (.int .i64 x)) (by kernel_rfl) ⟨⟨⟨t0, t1⟩, c4⟩, c5x⟩ (fun hHl => ?_)
             refine wpAnyH_take (i := 0) (oi := ?oiy30) (v := .pointer (some ⟨wr.heap.size, 0, none⟩)) ?_ (by kernel_rfl) (by kernel_rfl) (by kernel_rfl) ?_ ?_ hHl ?_
             rotate_left
             · simp only [gA, gB, gC]; rfl
             · exact fun _ _ _ h => h
             · exact Or.inl ⟨by kernel_rfl, fun w hSw => by go_simp⟩
             try simp only [Act.put, gD, gE, gF]
             refine wpAnyH_take (i := 1) (oi := ?oiy31) (v := .int .i64 6) ?_ (by kernel_rfl) (by kernel_rfl) (by kernel_rfl) ?_ ?_ hHl ?_
             rotate_left
             · simp only [gA, gB, gC]; rfl
             · exact fun _ _ _ h => h
             · exact Or.inl ⟨by kernel_rfl, fun w hSw => by obtain ⟨⟨⟨s1, s2⟩, s3⟩, s4⟩ := hSw; go_simp⟩
             try simp only [Act.put, gD, gE, gF]
             refine wpAnyH_take (i := 2) (oi := ?oiy32) (v := .bool true) ?_ (by kernel_rfl) (by kernel_rfl) (by kernel_rfl) ?_ ?_ hHl ?_
             rotate_left
             · simp only [gA, gB, gC]; rfl
             · exact fun _ _ _ h => h
             · exact Or.inl ⟨by kernel_rfl, fun w hSw => by go_simp⟩
             try simp only [Act.put, gD, gE, gF]
             refine wpAnyH_take (i := 3) (oi := ?oiy33) (v := .bool true) ?_ (by kernel_rfl) (by kernel_rfl) (by kernel_rfl) ?_ ?_ hHl ?_
             rotate_left
             · simp only [gA, gB, gC]; rfl
             · exact fun _ _ _ h => h
             · exact Or.inl ⟨by kernel_rfl, fun w hSw => by go_simp⟩
             try simp only [Act.put, gD, gE, gF]
             refine wpAnyH_take (i := 4) (oi := ?oiy34) (v := .slice (some ⟨g4, p4, none⟩) ps.length cf) ?_ (by kernel_rfl) (by kernel_rfl) (by kernel_rfl) ?_ ?_ hHl ?_
             rotate_left
             · simp only [gA, gB, gC]; rfl
             · exact fun _ _ _ h => h
             · exact Or.inl ⟨by kernel_rfl, fun w hSw => by go_simp⟩
             try simp only [Act.put, gD, gE, gF]
             refine wpAnyH_take (i := 5) (oi := ?oiy35) (v := .int .i64 (i : Int)) ?_ (by kernel_rfl) (by kernel_rfl) (by kernel_rfl) ?_ ?_ hHl ?_
             rotate_left
             · simp only [gA, gB, gC]; rfl
             · exact fun _ _ _ h => h
             · exact Or.inl ⟨by kernel_rfl, fun w hSw => by go_simp⟩
             try simp only [Act.put, gD, gE, gF]
             refine wpAnyH_take (i := 6) (oi := ?oiy36) (v := .pointer (some ⟨g4, p4 + i, none⟩)) ?_ (by kernel_rfl) (by kernel_rfl) (by kernel_rfl) ?_ ?_ hHl ?_
             rotate_left
             · simp only [gA, gB, gC]; rfl
             · exact fun _ _ _ h => h
             · exact Or.inl ⟨by kernel_rfl, fun w hSw => by go_simp⟩
             try simp only [Act.put, gD, gE, gF]
             refine wpAnyH_take (i := 7) (oi := ?oiy37) (v := .slice (some ⟨g5, p5, none⟩) ps[i].length c5) ?_ (by kernel_rfl) (by kernel_rfl) (by kernel_rfl) ?_ ?_ hHl ?_
             rotate_left
             · simp only [gA, gB, gC]; rfl
             · exact fun _ _ _ h => h
             · exact Or.inl ⟨by kernel_rfl, fun w hSw => by obtain ⟨⟨⟨s1, s2⟩, s3⟩, s4⟩ := hSw; go_simp⟩
             try simp only [Act.put, gD, gE, gF]
             refine wpAnyH_take (i := 8) (oi := ?oiy38) (v := .int .i64 (k : Int)) ?_ (by kernel_rfl) (by kernel_rfl) (by kernel_rfl) ?_ ?_ hHl ?_
             rotate_left
             · simp only [gA, gB, gC]; rfl
             · exact fun _ _ _ h => h
             · exact Or.inl ⟨by kernel_rfl, fun w hSw => by go_simp⟩
             try simp only [Act.put, gD, gE, gF]
             refine wpAnyH_take (i := 9) (oi := ?oiy39) (v := .pointer (some ⟨g5, p5 + k, none⟩)) ?_ (by kernel_rfl) (by kernel_rfl) (by kernel_rfl) ?_ ?_ hHl ?_
             rotate_left
             · simp only [gA, gB, gC]; rfl
             · exact fun _ _ _ h => h
             · exact Or.inl ⟨by kernel_rfl, fun w hSw => by go_simp⟩
             try simp only [Act.put, gD, gE, gF]
             refine wpAnyH_take (i := 10) (oi := ?oiy310) (v := .int .i64 x) ?_ (by kernel_rfl) (by kernel_rfl) (by kernel_rfl) ?_ ?_ hHl ?_
             rotate_left
             · simp only [gA, gB, gC]; rfl
             · exact fun _ _ _ h => h
             · exact Or.inl ⟨by kernel_rfl, fun w hSw => by obtain ⟨⟨⟨s1, s2⟩, s3⟩, s4⟩ := hSw; go_simp⟩
             try simp only [Act.put, gD, gE, gF]
             refine wpAnyH_take (i := 11) (oi := ?oiy311) (v := .pointer (some ⟨wr.heap.size, 1, none⟩)) ?_ (by kernel_rfl) (by kernel_rfl) (by kernel_rfl) ?_ ?_ hHl ?_
             rotate_left
             · simp only [gA, gB, gC]; rfl
             · exact fun _ _ _ h => h
             · exact Or.inl ⟨by kernel_rfl, fun w hSw => by go_simp⟩
             try simp only [Act.put, gD, gE, gF]
             refine wpAnyH_take (i := 12) (oi := ?oiy312) (v := .int .i64 3) ?_ (by kernel_rfl) (by kernel_rfl) (by kernel_rfl) ?_ ?_ hHl ?_
             rotate_left
             · simp only [gA, gB, gC]; rfl
             · exact fun _ _ _ h => h
             · exact Or.inl ⟨by kernel_rfl, fun w hSw => by obtain ⟨⟨⟨s1, s2⟩, s3⟩, s4⟩ := hSw; go_simp⟩
             try simp only [Act.put, gD, gE, gF]
             refine wpAnyH_take (i := 13) (oi := ?oiy313) (v := .int .i64 4) ?_ (by kernel_rfl) (by kernel_rfl) (by kernel_rfl) ?_ ?_ hHl ?_
             rotate_left
             · simp only [gA, gB, gC]; rfl
             · exact fun _ _ _ h => h
             · exact Or.inl ⟨by kernel_rfl, fun w hSw => by go_simp <;> rfl⟩
             try simp only [Act.put, gD, gE, gF]
             refine wpAnyH_take (i := 14) (oi := ?oiy314) (v := .int .u64 4) ?_ (by kernel_rfl) (by kernel_rfl) (by kernel_rfl) ?_ ?_ hHl ?_
             rotate_left
             · simp only [gA, gB, gC]; rfl
             · exact fun _ _ _ h => h
             · exact Or.inl ⟨by kernel_rfl, fun w hSw => by go_simp <;> rfl⟩
             try simp only [Act.put, gD, gE, gF]
             refine wpAnyH_take (i := 15) (oi := ?oiy315) (v := .int .i64 (x / 16)) ?_ (by kernel_rfl) (by kernel_rfl) (by kernel_rfl) ?_ ?_ hHl ?_
             rotate_left
             · simp only [gA, gB, gC]; rfl
             · exact fun _ _ _ h => h
             · exact Or.inl ⟨by kernel_rfl, fun w hSw => by go_simp⟩
             try simp only [Act.put, gD, gE, gF]
             refine wpAnyH_take (i := 16) (oi := ?oiy316) (v := .int .i64 ((x / 16).tmod 2)) ?_ (by kernel_rfl) (by kernel_rfl) (by kernel_rfl) ?_ ?_ hHl ?_
             rotate_left
             · simp only [gA, gB, gC]; rfl
             · exact fun _ _ _ h => h
             · exact Or.inl ⟨by kernel_rfl, fun w hSw => by go_simp⟩
             try simp only [Act.put, gD, gE, gF]
             refine wpAnyH_take (i := 17) (oi := ?oiy317) (v := .bool bb) ?_ (by kernel_rfl) (by kernel_rfl) (by kernel_rfl) ?_ ?_ hHl ?_
             rotate_left
             · simp only [gA, gB, gC]; rfl
             · exact fun _ _ _ h => h
             · exact Or.inl ⟨by kernel_rfl, fun w hSw => by go_simp <;> exact hbb⟩
             try simp only [Act.put, gD, gE, gF]
             refine wpAnyH_take (i := 18) (oi := ?oiy318) (v := .bool bb) ?_ (by kernel_rfl) (by kernel_rfl) (by kernel_rfl) ?_ ?_ hHl ?_
             rotate_left
             · simp only [gA, gB, gC]; rfl
             · exact fun _ _ _ h => h
             · exact Or.inl ⟨by kernel_rfl, fun w hSw => by go_simp⟩
             try simp only [Act.put, gD, gE, gF]
             refine wpAnyH_done (by kernel_rfl) ?_ _
             cases bb
             · go_wp2_with fail
               go_roundw
               case rel => exact ⟨k + 1, by omega, by go_num, by rw [HST.out]; simpa using HO6.out, HF6.out, HB6.out, HP6.out⟩
               case measure => simp [intOf]; omega
             · obtain ⟨m, hm, hown⟩ := HO6.out.ex
               obtain ⟨m1, q1, q2⟩ := hlenb i (by omega)
               obtain ⟨m2, q3, q4⟩ := hrowb i k
               have hmb : m ≤ 1000 := by rw [List.length_append] at hm; omega
               have HNB : Hid _ := heap_alloc_new WA.drew (.cells #[.int .i64 (i : Int), .int .i64 (k : Int)] 48)
               have HMB : Hid _ := hm
               clear hm
               have HAL : Hid _ := hown.alloc (.cells #[.int .i64 (i : Int), .int .i64 (k : Int)] 48)
               have bA : Below WA.drew.heap.size WA.drew (WA.drew.alloc (.cells #[.int .i64 (i : Int), .int .i64 (k : Int)] 48)) := by go_grown
               have HFA : Hid _ := HF6.out.below bA
               have HOA : Hid _ := HO6.out.below bA
               have HBA : Hid (Below w.heap.size w (WA.drew.alloc (.cells #[.int .i64 (i : Int), .int .i64 (k : Int)] 48))) := HB6.out.trans (bA.mono HB6.out.size)
               have hm1 : m + 1 ≤ maxLen := by unfold maxLen; omega
               have hm2 : (m + 1) * 16 ≤ 140737488355328 := by omega
               have hm3 : w.heap.size + 1 ≤ (WA.drew.alloc (.cells #[.int .i64 (i : Int), .int .i64 (k : Int)] 48)).heap.size := by have := bA.size; omega
               have hnews := World.news_of_block HNB.out
               have HNW : Hid _ := hnews
               clear hnews
               go_wp2_with (first
                | (at_builtin; refine wpList_append_own _ rfl (.tmp 57) (.tmp 61) 33 rfl (w.heap.size + 1) 48 ip (.agg #[.int .i64 0, .int .i64 0]) 2 16 Tryz.underlying33 hip hq0 hq1 hq2 rfl (by decide) u5 m _ rfl HAL.out ⟨WA.heap.size, 0, none⟩ 1 1 [.int .i64 (i : Int), .int .i64 (k : Int)] rfl rfl HNW.out (jq8 i k) hm1 hm2 hm3 ?_; intro v7 w7 own7 grow7 _; refine je6 ?_))
               unfold Stop
               have S7 : Hid _ := OwnPl.app HMB.out own7
               have F7 : Hid _ := OwnSS.kind HFA.out HOA.out grow7
               have B7 : Hid (Below w.heap.size w w7) := HBA.out.grown grow7 HBA.out.size (fun q hq => by have := (hown.lt q hq).1; omega)
               have P7 : Hid (w7.heap[w.heap.size]? = some (Obj.cells #[.slice (some ⟨gp, op, none⟩) ps.length cap] 26 (0, 0))) := (grow7.block _ (Nat.lt_of_lt_of_le (Array.getElem?_eq_some_iff.1 HP6.out).1 bA.size) (fun e => by have := (hown.lt _ e.symm).1; omega)).trans ((bA.block _ (Array.getElem?_eq_some_iff.1 HP6.out).1).trans HP6.out)
               clear own7 grow7
               go_wp2_with fail
               go_roundw
               case rel => exact ⟨k + 1, by omega, by go_num, by rw [HST.out, ← List.append_assoc]; exact S7.out, F7.out, B7.out, P7.out⟩
               case measure => simp [intOf]; omega
           · have hbb : ((x / 32).tmod 2 == 1) = bb := by simpa using hbb0
             clear hbb0
             refine wp_region_held_drew (S := fun w' => ((w'.cell? ⟨wr.heap.size, 0, none⟩ = some (.int .i64 6) ∧ w'.cell? ⟨wr.heap.size, 1, none⟩ = some (.int .i64 4)) ∧ w'.cell? ⟨g4, p4 + i, none⟩ = some (.slice (some ⟨g5, p5, none⟩) ps[i].length c5)) ∧ w'.cell? ⟨g5, p5 + k, none⟩ = some (.int .i64 x)) (by kernel_rfl) ⟨⟨⟨t0, t1⟩, c4⟩, c5x⟩ (fun hHl => ?_)
             refine wpAnyH_take (i := 0) (oi := ?oiy40) (v := .pointer (some ⟨wr.heap.size, 0, none⟩)) ?_ (by kernel_rfl) (by kernel_rfl) (by kernel_rfl) ?_ ?_ hHl ?_
             rotate_left
             · simp only [gA, gB, gC]; rfl
             · exact fun _ _ _ h => h
             · exact Or.inl ⟨by kernel_rfl, fun w hSw => by go_simp⟩
             try simp only [Act.put, gD, gE, gF]
             refine wpAnyH_take (i := 1) (oi := ?oiy41) (v := .int .i64 6) ?_ (by kernel_rfl) (by kernel_rfl) (by kernel_rfl) ?_ ?_ hHl ?_
             rotate_left
             · simp only [gA, gB, gC]; rfl
             · exact fun _ _ _ h => h
             · exact Or.inl ⟨by kernel_rfl, fun w hSw => by obtain ⟨⟨⟨s1, s2⟩, s3⟩, s4⟩ := hSw; go_simp⟩
             try simp only [Act.put, gD, gE, gF]
             refine wpAnyH_take (i := 2) (oi := ?oiy42) (v := .bool true) ?_ (by kernel_rfl) (by kernel_rfl) (by kernel_rfl) ?_ ?_ hHl ?_
             rotate_left
             · simp only [gA, gB, gC]; rfl
             · exact fun _ _ _ h => h
             · exact Or.inl ⟨by kernel_rfl, fun w hSw => by go_simp⟩
             try simp only [Act.put, gD, gE, gF]
             refine wpAnyH_take (i := 3) (oi := ?oiy43) (v := .bool true) ?_ (by kernel_rfl) (by kernel_rfl) (by kernel_rfl) ?_ ?_ hHl ?_
             rotate_left
             · simp only [gA, gB, gC]; rfl
             · exact fun _ _ _ h => h
             · exact Or.inl ⟨by kernel_rfl, fun w hSw => by go_simp⟩
             try simp only [Act.put, gD, gE, gF]
             refine wpAnyH_take (i := 4) (oi := ?oiy44) (v := .slice (some ⟨g4, p4, none⟩) ps.length cf) ?_ (by kernel_rfl) (by kernel_rfl) (by kernel_rfl) ?_ ?_ hHl ?_
             rotate_left
             · simp only [gA, gB, gC]; rfl
             · exact fun _ _ _ h => h
             · exact Or.inl ⟨by kernel_rfl, fun w hSw => by go_simp⟩
             try simp only [Act.put, gD, gE, gF]
             refine wpAnyH_take (i := 5) (oi := ?oiy45) (v := .int .i64 (i : Int)) ?_ (by kernel_rfl) (by kernel_rfl) (by kernel_rfl) ?_ ?_ hHl ?_
             rotate_left
             · simp only [gA, gB, gC]; rfl
             · exact fun _ _ _ h => h
             · exact Or.inl ⟨by kernel_rfl, fun w hSw => by go_simp⟩
             try simp only [Act.put, gD, gE, gF]
             refine wpAnyH_take (i := 6) (oi := ?oiy46) (v := .pointer (some ⟨g4, p4 + i, none⟩)) ?_ (by kernel_rfl) (by kernel_rfl) (by kernel_rfl) ?_ ?_ hHl ?_
             rotate_left
             · simp only [gA, gB, gC]; rfl
             · exact fun _ _ _ h => h
             · exact Or.inl ⟨by kernel_rfl, fun w hSw => by go_simp⟩
             try simp only [Act.put, gD, gE, gF]
             refine wpAnyH_take (i := 7) (oi := ?oiy47) (v := .slice (some ⟨g5, p5, none⟩) ps[i].length c5) ?_ (by kernel_rfl) (by kernel_rfl) (by kernel_rfl) ?_ ?_ hHl ?_
             rotate_left
             · simp only [gA, gB, gC]; rfl
             · exact fun _ _ _ h => h
             · exact Or.inl ⟨by kernel_rfl, fun w hSw => by obtain ⟨⟨⟨s1, s2⟩, s3⟩, s4⟩ := hSw; go_simp⟩
             try simp only [Act.put, gD, gE, gF]
             refine wpAnyH_take (i := 8) (oi := ?oiy48) (v := .int .i64 (k : Int)) ?_ (by kernel_rfl) (by kernel_rfl) (by kernel_rfl) ?_ ?_ hHl ?_
             rotate_left
             · simp only [gA, gB, gC]; rfl
             · exact fun _ _ _ h => h
             · exact Or.inl ⟨by kernel_rfl, fun w hSw => by go_simp⟩
             try simp only [Act.put, gD, gE, gF]
             refine wpAnyH_take (i := 9) (oi := ?oiy49) (v := .pointer (some ⟨g5, p5 + k, none⟩)) ?_ (by kernel_rfl) (by kernel_rfl) (by kernel_rfl) ?_ ?_ hHl ?_
             rotate_left
             · simp only [gA, gB, gC]; rfl
             · exact fun _ _ _ h => h
             · exact Or.inl ⟨by kernel_rfl, fun w hSw => by go_simp⟩
             try simp only [Act.put, gD, gE, gF]
             refine wpAnyH_take (i := 10) (oi := ?oiy410) (v := .int .i64 x) ?_ (by kernel_rfl) (by kernel_rfl) (by kernel_rfl) ?_ ?_ hHl ?_
             rotate_left
             · simp only [gA, gB, gC]; rfl
             · exact fun _ _ _ h => h
             · exact Or.inl ⟨by kernel_rfl, fun w hSw => by obtain ⟨⟨⟨s1, s2⟩, s3⟩, s4⟩ := hSw; go_simp⟩
             try simp only [Act.put, gD, gE, gF]
             refine wpAnyH_take (i := 11) (oi := ?oiy411) (v := .pointer (some ⟨wr.heap.size, 1, none⟩)) ?_ (by kernel_rfl) (by kernel_rfl) (by kernel_rfl) ?_ ?_ hHl ?_
             rotate_left
             · simp only [gA, gB, gC]; rfl
             · exact fun _ _ _ h => h
             · exact Or.inl ⟨by kernel_rfl, fun w hSw => by go_simp⟩
             try simp only [Act.put, gD, gE, gF]
             refine wpAnyH_take (i := 12) (oi := ?oiy412) (v := .int .i64 4) ?_ (by kernel_rfl) (by kernel_rfl) (by kernel_rfl) ?_ ?_ hHl ?_
             rotate_left
             · simp only [gA, gB, gC]; rfl
             · exact fun _ _ _ h => h
             · exact Or.inl ⟨by kernel_rfl, fun w hSw => by obtain ⟨⟨⟨s1, s2⟩, s3⟩, s4⟩ := hSw; go_simp⟩
             try simp only [Act.put, gD, gE, gF]
             refine wpAnyH_take (i := 13) (oi := ?oiy413) (v := .int .i64 5) ?_ (by kernel_rfl) (by kernel_rfl) (by kernel_rfl) ?_ ?_ hHl ?_
             rotate_left
             · simp only [gA, gB, gC]; rfl
             · exact fun _ _ _ h => h
             · exact Or.inl ⟨by kernel_rfl, fun w hSw => by go_simp <;> rfl⟩
             try simp only [Act.put, gD, gE, gF]
             refine wpAnyH_take (i := 14) (oi := ?oiy414) (v := .int .u64 5) ?_ (by kernel_rfl) (by kernel_rfl) (by kernel_rfl) ?_ ?_ hHl ?_
             rotate_left
             · simp only [gA, gB, gC]; rfl
             · exact fun _ _ _ h => h
             · exact Or.inl ⟨by kernel_rfl, fun w hSw => by go_simp <;> rfl⟩
             try simp only [Act.put, gD, gE, gF]
             refine wpAnyH_take (i := 15) (oi := ?oiy415) (v := .int .i64 (x / 32)) ?_ (by kernel_rfl) (by kernel_rfl) (by kernel_rfl) ?_ ?_ hHl ?_
             rotate_left
             · simp only [gA, gB, gC]; rfl
             · exact fun _ _ _ h => h
             · exact Or.inl ⟨by kernel_rfl, fun w hSw => by go_simp⟩
             try simp only [Act.put, gD, gE, gF]
             refine wpAnyH_take (i := 16) (oi := ?oiy416) (v := .int .i64 ((x / 32).tmod 2)) ?_ (by kernel_rfl) (by kernel_rfl) (by kernel_rfl) ?_ ?_ hHl ?_
             rotate_left
             · simp only [gA, gB, gC]; rfl
             · exact fun _ _ _ h => h
             · exact Or.inl ⟨by kernel_rfl, fun w hSw => by go_simp⟩
             try simp only [Act.put, gD, gE, gF]
             refine wpAnyH_take (i := 17) (oi := ?oiy417) (v := .bool bb) ?_ (by kernel_rfl) (by kernel_rfl) (by kernel_rfl) ?_ ?_ hHl ?_
             rotate_left
             · simp only [gA, gB, gC]; rfl
             · exact fun _ _ _ h => h
             · exact Or.inl ⟨by kernel_rfl, fun w hSw => by go_simp <;> exact hbb⟩
             try simp only [Act.put, gD, gE, gF]
             refine wpAnyH_take (i := 18) (oi := ?oiy418) (v := .bool bb) ?_ (by kernel_rfl) (by kernel_rfl) (by kernel_rfl) ?_ ?_ hHl ?_
             rotate_left
             · simp only [gA, gB, gC]; rfl
             · exact fun _ _ _ h => h
             · exact Or.inl ⟨by kernel_rfl, fun w hSw => by go_simp⟩
             try simp only [Act.put, gD, gE, gF]
             refine wpAnyH_done (by kernel_rfl) ?_ _
             cases bb
             · go_wp2_with fail
               go_roundw
               case rel => exact ⟨k + 1, by omega, by go_num, by rw [HST.out]; simpa using HO6.out, HF6.out, HB6.out, HP6.out⟩
               case measure => simp [intOf]; omega
             · obtain ⟨m, hm, hown⟩ := HO6.out.ex
               obtain ⟨m1, q1, q2⟩ := hlenb i (by omega)
               obtain ⟨m2, q3, q4⟩ := hrowb i k
               have hmb : m ≤ 1000 := by rw [List.length_append] at hm; omega
               have HNB : Hid _ := heap_alloc_new WA.drew (.cells #[.int .i64 (i : Int), .int .i64 (k : Int)] 48)
               have HMB : Hid _ := hm
               clear hm
               have HAL : Hid _ := hown.alloc (.cells #[.int .i64 (i : Int), .int .i64 (k : Int)] 48)
               have bA : Below WA.drew.heap.size WA.drew (WA.drew.alloc (.cells #[.int .i64 (i : Int), .int .i64 (k : Int)] 48)) := by go_grown
               have HFA : Hid _ := HF6.out.below bA
               have HOA : Hid _ := HO6.out.below bA
               have HBA : Hid (Below w.heap.size w (WA.drew.alloc (.cells #[.int .i64 (i : Int), .int .i64 (k : Int)] 48))) := HB6.out.trans (bA.mono HB6.out.size)
               have hm1 : m + 1 ≤ maxLen := by unfold maxLen; omega
               have hm2 : (m + 1) * 16 ≤ 140737488355328 := by omega
               have hm3 : w.heap.size + 1 ≤ (WA.drew.alloc (.cells #[.int .i64 (i : Int), .int .i64 (k : Int)] 48)).heap.size := by have := bA.size; omega
               have hnews := World.news_of_block HNB.out
               have HNW : Hid _ := hnews
               clear hnews
               go_wp2_with (first
                | (at_builtin; refine wpList_append_own _ rfl (.tmp 57) (.tmp 61) 33 rfl (w.heap.size + 1) 48 ip (.agg #[.int .i64 0, .int .i64 0]) 2 16 Tryz.underlying33 hip hq0 hq1 hq2 rfl (by decide) u5 m _ rfl HAL.out ⟨WA.heap.size, 0, none⟩ 1 1 [.int .i64 (i : Int), .int .i64 (k : Int)] rfl rfl HNW.out (jq8 i k) hm1 hm2 hm3 ?_; intro v7 w7 own7 grow7 _; refine je6 ?_))
               unfold Stop
               have S7 : Hid _ := OwnPl.app HMB.out own7
               have F7 : Hid _ := OwnSS.kind HFA.out HOA.out grow7
               have B7 : Hid (Below w.heap.size w w7) := HBA.out.grown grow7 HBA.out.size (fun q hq => by have := (hown.lt q hq).1; omega)
               have P7 : Hid (w7.heap[w.heap.size]? = some (Obj.cells #[.slice (some ⟨gp, op, none⟩) ps.length cap] 26 (0, 0))) := (grow7.block _ (Nat.lt_of_lt_of_le (Array.getElem?_eq_some_iff.1 HP6.out).1 bA.size) (fun e => by have := (hown.lt _ e.symm).1; omega)).trans ((bA.block _ (Array.getElem?_eq_some_iff.1 HP6.out).1).trans HP6.out)
               clear own7 grow7
               go_wp2_with fail
               go_roundw
               case rel => exact ⟨k + 1, by omega, by go_num, by rw [HST.out, ← List.append_assoc]; exact S7.out, F7.out, B7.out, P7.out⟩
               case measure => simp [intOf]; omega
           · have hbb : ((x / 64).tmod 2 == 1) = bb := by simpa using hbb0
             clear hbb0
             refine wp_region_held_drew (S := fun w' => ((w'.cell? ⟨wr.heap.size, 0, none⟩ = some (.int .i64 6) ∧ w'.cell? ⟨wr.heap.size, 1, none⟩ = some (.int .i64 5)) ∧ w'.cell? ⟨g4, p4 + i, none⟩ = some (.slice (some ⟨g5, p5, none⟩) ps[i].length c5)) ∧ w'.cell? ⟨g5, p5 + k, none⟩ = some (.int .i64 x)) (by kernel_rfl) ⟨⟨⟨t0, t1⟩, c4⟩, c5x⟩ (fun hHl => ?_)
             refine wpAnyH_take (i := 0) (oi := ?oiy50) (v := .pointer (some ⟨wr.heap.size, 0, none⟩)) ?_ (by kernel_rfl) (by kernel_rfl) (by kernel_rfl) ?_ ?_ hHl ?_
             rotate_left
             · simp only [gA, gB, gC]; rfl
             · exact fun _ _ _ h => h
             · exact Or.inl ⟨by kernel_rfl, fun w hSw => by go_simp⟩
             try simp only [Act.put, gD, gE, gF]
             refine wpAnyH_take (i := 1) (oi := ?oiy51) (v := .int .i64 6) ?_ (by kernel_rfl) (by kernel_rfl) (by kernel_rfl) ?_ ?_ hHl ?_
             rotate_left
             · simp only [gA, gB, gC]; rfl
             · exact fun _ _ _ h => h
             · exact Or.inl ⟨by kernel_rfl, fun w hSw => by obtain ⟨⟨⟨s1, s2⟩, s3⟩, s4⟩ := hSw; go_simp⟩
             try simp only [Act.put, gD, gE, gF]
             refine wpAnyH_take (i := 2) (oi := ?oiy52) (v := .bool true) ?_ (by kernel_rfl) (by kernel_rfl) (by kernel_rfl) ?_ ?_ hHl ?_
             rotate_left
             · simp only [gA, gB, gC]; rfl
             · exact fun _ _ _ h => h
             · exact Or.inl ⟨by kernel_rfl, fun w hSw => by go_simp⟩
             try simp only [Act.put, gD, gE, gF]
             refine wpAnyH_take (i := 3) (oi := ?oiy53) (v := .bool true) ?_ (by kernel_rfl) (by kernel_rfl) (by kernel_rfl) ?_ ?_ hHl ?_
             rotate_left
             · simp only [gA, gB, gC]; rfl
             · exact fun _ _ _ h => h
             · exact Or.inl ⟨by kernel_rfl, fun w hSw => by go_simp⟩
             try simp only [Act.put, gD, gE, gF]
             refine wpAnyH_take (i := 4) (oi := ?oiy54) (v := .slice (some ⟨g4, p4, none⟩) ps.length cf) ?_ (by kernel_rfl) (by kernel_rfl) (by kernel_rfl) ?_ ?_ hHl ?_
             rotate_left
             · simp only [gA, gB, gC]; rfl
             · exact fun _ _ _ h => h
             · exact Or.inl ⟨by kernel_rfl, fun w hSw => by go_simp⟩
             try simp only [Act.put, gD, gE, gF]
             refine wpAnyH_take (i := 5) (oi := ?oiy55) (v := .int .i64 (i : Int)) ?_ (by kernel_rfl) (by kernel_rfl) (by kernel_rfl) ?_ ?_ hHl ?_
             rotate_left
             · simp only [gA, gB, gC]; rfl
             · exact fun _ _ _ h => h
             · exact Or.inl ⟨by kernel_rfl, fun w hSw => by go_simp⟩
             try simp only [Act.put, gD, gE, gF]
             refine wpAnyH_take (i := 6) (oi := ?oiy56) (v := .pointer (some ⟨g4, p4 + i, none⟩)) ?_ (by kernel_rfl) (by kernel_rfl) (by kernel_rfl) ?_ ?_ hHl ?_
             rotate_left
             · simp only [gA, gB, gC]; rfl
             · exact fun _ _ _ h => h
             · exact Or.inl ⟨by kernel_rfl, fun w hSw => by go_simp⟩
             try simp only [Act.put, gD, gE, gF]
             refine wpAnyH_take (i := 7) (oi := ?oiy57) (v := .slice (some ⟨g5, p5, none⟩) ps[i].length c5) ?_ (by kernel_rfl) (by kernel_rfl) (by kernel_rfl) ?_ ?_ hHl ?_
             rotate_left
             · simp only [gA, gB, gC]; rfl
             · exact fun _ _ _ h => h
             · exact Or.inl ⟨by kernel_rfl, fun w hSw => by obtain ⟨⟨⟨s1, s2⟩, s3⟩, s4⟩ := hSw; go_simp⟩
             try simp only [Act.put, gD, gE, gF]
             refine wpAnyH_take (i := 8) (oi := ?oiy58) (v := .int .i64 (k : Int)) ?_ (by kernel_rfl) (by kernel_rfl) (by kernel_rfl) ?_ ?_ hHl ?_
             rotate_left
             · simp only [gA, gB, gC]; rfl
             · exact fun _ _ _ h => h
             · exact Or.inl ⟨by kernel_rfl, fun w hSw => by go_simp⟩
             try simp only [Act.put, gD, gE, gF]
             refine wpAnyH_take (i := 9) (oi := ?oiy59) (v := .pointer (some ⟨g5, p5 + k, none⟩)) ?_ (by kernel_rfl) (by kernel_rfl) (by kernel_rfl) ?_ ?_ hHl ?_
             rotate_left
             · simp only [gA, gB, gC]; rfl
             · exact fun _ _ _ h => h
             · exact Or.inl ⟨by kernel_rfl, fun w hSw => by go_simp⟩
             try simp only [Act.put, gD, gE, gF]
             refine wpAnyH_take (i := 10) (oi := ?oiy510) (v := .int .i64 x) ?_ (by kernel_rfl) (by kernel_rfl) (by kernel_rfl) ?_ ?_ hHl ?_
             rotate_left
             · simp only [gA, gB, gC]; rfl
             · exact fun _ _ _ h => h
             · exact Or.inl ⟨by kernel_rfl, fun w hSw => by obtain ⟨⟨⟨s1, s2⟩, s3⟩, s4⟩ := hSw; go_simp⟩
             try simp only [Act.put, gD, gE, gF]
             refine wpAnyH_take (i := 11) (oi := ?oiy511) (v := .pointer (some ⟨wr.heap.size, 1, none⟩)) ?_ (by kernel_rfl) (by kernel_rfl) (by kernel_rfl) ?_ ?_ hHl ?_
             rotate_left
             · simp only [gA, gB, gC]; rfl
             · exact fun _ _ _ h => h
             · exact Or.inl ⟨by kernel_rfl, fun w hSw => by go_simp⟩
             try simp only [Act.put, gD, gE, gF]
             refine wpAnyH_take (i := 12) (oi := ?oiy512) (v := .int .i64 5) ?_ (by kernel_rfl) (by kernel_rfl) (by kernel_rfl) ?_ ?_ hHl ?_
             rotate_left
             · simp only [gA, gB, gC]; rfl
             · exact fun _ _ _ h => h
             · exact Or.inl ⟨by kernel_rfl, fun w hSw => by obtain ⟨⟨⟨s1, s2⟩, s3⟩, s4⟩ := hSw; go_simp⟩
             try simp only [Act.put, gD, gE, gF]
             refine wpAnyH_take (i := 13) (oi := ?oiy513) (v := .int .i64 6) ?_ (by kernel_rfl) (by kernel_rfl) (by kernel_rfl) ?_ ?_ hHl ?_
             rotate_left
             · simp only [gA, gB, gC]; rfl
             · exact fun _ _ _ h => h
             · exact Or.inl ⟨by kernel_rfl, fun w hSw => by go_simp <;> rfl⟩
             try simp only [Act.put, gD, gE, gF]
             refine wpAnyH_take (i := 14) (oi := ?oiy514) (v := .int .u64 6) ?_ (by kernel_rfl) (by kernel_rfl) (by kernel_rfl) ?_ ?_ hHl ?_
             rotate_left
             · simp only [gA, gB, gC]; rfl
             · exact fun _ _ _ h => h
             · exact Or.inl ⟨by kernel_rfl, fun w hSw => by go_simp <;> rfl⟩
             try simp only [Act.put, gD, gE, gF]
             refine wpAnyH_take (i := 15) (oi := ?oiy515) (v := .int .i64 (x / 64)) ?_ (by kernel_rfl) (by kernel_rfl) (by kernel_rfl) ?_ ?_ hHl ?_
             rotate_left
             · simp only [gA, gB, gC]; rfl
             · exact fun _ _ _ h => h
             · exact Or.inl ⟨by kernel_rfl, fun w hSw => by go_simp⟩
             try simp only [Act.put, gD, gE, gF]
             refine wpAnyH_take (i := 16) (oi := ?oiy516) (v := .int .i64 ((x / 64).tmod 2)) ?_ (by kernel_rfl) (by kernel_rfl) (by kernel_rfl) ?_ ?_ hHl ?_
             rotate_left
             · simp only [gA, gB, gC]; rfl
             · exact fun _ _ _ h => h
             · exact Or.inl ⟨by kernel_rfl, fun w hSw => by go_simp⟩
             try simp only [Act.put, gD, gE, gF]
             refine wpAnyH_take (i := 17) (oi := ?oiy517) (v := .bool bb) ?_ (by kernel_rfl) (by kernel_rfl) (by kernel_rfl) ?_ ?_ hHl ?_
             rotate_left
             · simp only [gA, gB, gC]; rfl
             · exact fun _ _ _ h => h
             · exact Or.inl ⟨by kernel_rfl, fun w hSw => by go_simp <;> exact hbb⟩
             try simp only [Act.put, gD, gE, gF]
             refine wpAnyH_take (i := 18) (oi := ?oiy518) (v := .bool bb) ?_ (by kernel_rfl) (by kernel_rfl) (by kernel_rfl) ?_ ?_ hHl ?_
             rotate_left
             · simp only [gA, gB, gC]; rfl
             · exact fun _ _ _ h => h
             · exact Or.inl ⟨by kernel_rfl, fun w hSw => by go_simp⟩
             try simp only [Act.put, gD, gE, gF]
             refine wpAnyH_done (by kernel_rfl) ?_ _
             cases bb
             · go_wp2_with fail
               go_roundw
               case rel => exact ⟨k + 1, by omega, by go_num, by rw [HST.out]; simpa using HO6.out, HF6.out, HB6.out, HP6.out⟩
               case measure => simp [intOf]; omega
             · obtain ⟨m, hm, hown⟩ := HO6.out.ex
               obtain ⟨m1, q1, q2⟩ := hlenb i (by omega)
               obtain ⟨m2, q3, q4⟩ := hrowb i k
               have hmb : m ≤ 1000 := by rw [List.length_append] at hm; omega
               have HNB : Hid _ := heap_alloc_new WA.drew (.cells #[.int .i64 (i : Int), .int .i64 (k : Int)] 48)
               have HMB : Hid _ := hm
               clear hm
               have HAL : Hid _ := hown.alloc (.cells #[.int .i64 (i : Int), .int .i64 (k : Int)] 48)
               have bA : Below WA.drew.heap.size WA.drew (WA.drew.alloc (.cells #[.int .i64 (i : Int), .int .i64 (k : Int)] 48)) := by go_grown
               have HFA : Hid _ := HF6.out.below bA
               have HOA : Hid _ := HO6.out.below bA
               have HBA : Hid (Below w.heap.size w (WA.drew.alloc (.cells #[.int .i64 (i : Int), .int .i64 (k : Int)] 48))) := HB6.out.trans (bA.mono HB6.out.size)
               have hm1 : m + 1 ≤ maxLen := by unfold maxLen; omega
               have hm2 : (m + 1) * 16 ≤ 140737488355328 := by omega
               have hm3 : w.heap.size + 1 ≤ (WA.drew.alloc (.cells #[.int .i64 (i : Int), .int .i64 (k : Int)] 48)).heap.size := by have := bA.size; omega
               have hnews := World.news_of_block HNB.out
               have HNW : Hid _ := hnews
               clear hnews
               go_wp2_with (first
                | (at_builtin; refine wpList_append_own _ rfl (.tmp 57) (.tmp 61) 33 rfl (w.heap.size + 1) 48 ip (.agg #[.int .i64 0, .int .i64 0]) 2 16 Tryz.underlying33 hip hq0 hq1 hq2 rfl (by decide) u5 m _ rfl HAL.out ⟨WA.heap.size, 0, none⟩ 1 1 [.int .i64 (i : Int), .int .i64 (k : Int)] rfl rfl HNW.out (jq8 i k) hm1 hm2 hm3 ?_; intro v7 w7 own7 grow7 _; refine je6 ?_))
               unfold Stop
               have S7 : Hid _ := OwnPl.app HMB.out own7
               have F7 : Hid _ := OwnSS.kind HFA.out HOA.out grow7
               have B7 : Hid (Below w.heap.size w w7) := HBA.out.grown grow7 HBA.out.size (fun q hq => by have := (hown.lt q hq).1; omega)
               have P7 : Hid (w7.heap[w.heap.size]? = some (Obj.cells #[.slice (some ⟨gp, op, none⟩) ps.length cap] 26 (0, 0))) := (grow7.block _ (Nat.lt_of_lt_of_le (Array.getElem?_eq_some_iff.1 HP6.out).1 bA.size) (fun e => by have := (hown.lt _ e.symm).1; omega)).trans ((bA.block _ (Array.getElem?_eq_some_iff.1 HP6.out).1).trans HP6.out)
               clear own7 grow7
               go_wp2_with fail
               go_roundw
               case rel => exact ⟨k + 1, by omega, by go_num, by rw [HST.out, ← List.append_assoc]; exact S7.out, F7.out, B7.out, P7.out⟩
               case measure => simp [intOf]; omega
         · have hte : jh0 ⟨sk, sx, sy⟩ x = false := by unfold jh0; simp [h6]
           rw [hte] at HST
           refine wp_region_held_drew (S := fun w' => ((w'.cell? ⟨wr.heap.size, 0, none⟩ = some (.int .i64 sk) ∧ w'.cell? ⟨wr.heap.size, 1, none⟩ = some (.int .i64 sx)) ∧ w'.cell? ⟨g4, p4 + i, none⟩ = some (.slice (some ⟨g5, p5, none⟩) ps[i].length c5)) ∧ w'.cell? ⟨g5, p5 + k, none⟩ = some (.int .i64 x)) (by kernel_rfl) ⟨⟨⟨t0, t1⟩, c4⟩, c5x⟩ (fun hHl => ?_)
           refine wpAnyH_take (i := 0) (oi := ?oino0) (v := .pointer (some ⟨wr.heap.size, 0, none⟩)) ?_ (by kernel_rfl) (by kernel_rfl) (by kernel_rfl) ?_ ?_ hHl ?_
           rotate_left
           · simp only [gA, gB, gC]; rfl
           · exact fun _ _ _ h => h
           · exact Or.inl ⟨by kernel_rfl, fun w hSw => by go_simp⟩
           try simp only [Act.put, gD, gE, gF]
           refine wpAnyH_take (i := 1) (oi := ?oino1) (v := .int .i64 sk) ?_ (by kernel_rfl) (by kernel_rfl) (by kernel_rfl) ?_ ?_ hHl ?_
           rotate_left
           · simp only [gA, gB, gC]; rfl
           · exact fun _ _ _ h => h
           · exact Or.inl ⟨by kernel_rfl, fun w hSw => by obtain ⟨⟨⟨s1, s2⟩, s3⟩, s4⟩ := hSw; go_simp⟩
           try simp only [Act.put, gD, gE, gF]
           refine wpAnyH_take (i := 2) (oi := ?oino2) (v := .bool false) ?_ (by kernel_rfl) (by kernel_rfl) (by kernel_rfl) ?_ ?_ hHl ?_
           rotate_left
           · simp only [gA, gB, gC]; rfl
           · exact fun _ _ _ h => h
           · exact Or.inl ⟨by kernel_rfl, fun w hSw => by go_simp⟩
           try simp only [Act.put, gD, gE, gF]
           refine wpAnyH_take (i := 3) (oi := ?oino3) (v := .bool false) ?_ (by kernel_rfl) (by kernel_rfl) (by kernel_rfl) ?_ ?_ hHl ?_
           rotate_left
           · simp only [gA, gB, gC]; rfl
           · exact fun _ _ _ h => h
           · exact Or.inl ⟨by kernel_rfl, fun w hSw => by go_simp⟩
           try simp only [Act.put, gD, gE, gF]
           refine wpAnyH_take (i := 4) (oi := ?oino4) (v := undef) ?_ (by kernel_rfl) (by kernel_rfl) (by kernel_rfl) ?_ ?_ hHl ?_
           rotate_left
           · simp only [gA, gB, gC]; rfl
           · exact fun _ _ _ h => h
           · exact Or.inr ⟨by kernel_rfl, rfl⟩
           try simp only [Act.put, gD, gE, gF]
           refine wpAnyH_take (i := 5) (oi := ?oino5) (v := undef) ?_ (by kernel_rfl) (by kernel_rfl) (by kernel_rfl) ?_ ?_ hHl ?_
           rotate_left
           · simp only [gA, gB, gC]; rfl
           · exact fun _ _ _ h => h
           · exact Or.inr ⟨by kernel_rfl, rfl⟩
           try simp only [Act.put, gD, gE, gF]
           refine wpAnyH_take (i := 6) (oi := ?oino6) (v := undef) ?_ (by kernel_rfl) (by kernel_rfl) (by kernel_rfl) ?_ ?_ hHl ?_
           rotate_left
           · simp only [gA, gB, gC]; rfl
           · exact fun _ _ _ h => h
           · exact Or.inr ⟨by kernel_rfl, rfl⟩
           try simp only [Act.put, gD, gE, gF]
           refine wpAnyH_take (i := 7) (oi := ?oino7) (v := undef) ?_ (by kernel_rfl) (by kernel_rfl) (by kernel_rfl) ?_ ?_ hHl ?_
           rotate_left
           · simp only [gA, gB, gC]; rfl
           · exact fun _ _ _ h => h
           · exact Or.inr ⟨by kernel_rfl, rfl⟩
           try simp only [Act.put, gD, gE, gF]
           refine wpAnyH_take (i := 8) (oi := ?oino8) (v := undef) ?_ (by kernel_rfl) (by kernel_rfl) (by kernel_rfl) ?_ ?_ hHl ?_
           rotate_left
           · simp only [gA, gB, gC]; rfl
           · exact fun _ _ _ h => h
           · exact Or.inr ⟨by kernel_rfl, rfl⟩
           try simp only [Act.put, gD, gE, gF]
           refine wpAnyH_take (i := 9) (oi := ?oino9) (v := undef) ?_ (by kernel_rfl) (by kernel_rfl) (by kernel_rfl) ?_ ?_ hHl ?_
           rotate_left
           · simp only [gA, gB, gC]; rfl
           · exact fun _ _ _ h => h
           · exact Or.inr ⟨by kernel_rfl, rfl⟩
           try simp only [Act.put, gD, gE, gF]
           refine wpAnyH_take (i := 10) (oi := ?oino10) (v := undef) ?_ (by kernel_rfl) (by kernel_rfl) (by kernel_rfl) ?_ ?_ hHl ?_
           rotate_left
           · simp only [gA, gB, gC]; rfl
           · exact fun _ _ _ h => h
           · exact Or.inr ⟨by kernel_rfl, rfl⟩
           try simp only [Act.put, gD, gE, gF]
           refine wpAnyH_take (i := 11) (oi := ?oino11) (v := undef) ?_ (by kernel_rfl) (by kernel_rfl) (by kernel_rfl) ?_ ?_ hHl ?_
           rotate_left
           · simp only [gA, gB, gC]; rfl
           · exact fun _ _ _ h => h
           · exact Or.inr ⟨by kernel_rfl, rfl⟩
           try simp only [Act.put, gD, gE, gF]
           refine wpAnyH_take (i := 12) (oi := ?oino12) (v := undef) ?_ (by kernel_rfl) (by kernel_rfl) (by kernel_rfl) ?_ ?_ hHl ?_
           rotate_left
           · simp only [gA, gB, gC]; rfl
           · exact fun _ _ _ h => h
           · exact Or.inr ⟨by kernel_rfl, rfl⟩
           try simp only [Act.put, gD, gE, gF]
           refine wpAnyH_take (i := 13) (oi := ?oino13) (v := undef) ?_ (by kernel_rfl) (by kernel_rfl) (by kernel_rfl) ?_ ?_ hHl ?_
           rotate_left
           · simp only [gA, gB, gC]; rfl
           · exact fun _ _ _ h => h
           · exact Or.inr ⟨by kernel_rfl, rfl⟩
           try simp only [Act.put, gD, gE, gF]
           refine wpAnyH_take (i := 14) (oi := ?oino14) (v := undef) ?_ (by kernel_rfl) (by kernel_rfl) (by kernel_rfl) ?_ ?_ hHl ?_
           rotate_left
           · simp only [gA, gB, gC]; rfl
           · exact fun _ _ _ h => h
           · exact Or.inr ⟨by kernel_rfl, rfl⟩
           try simp only [Act.put, gD, gE, gF]
           refine wpAnyH_take (i := 15) (oi := ?oino15) (v := undef) ?_ (by kernel_rfl) (by kernel_rfl) (by kernel_rfl) ?_ ?_ hHl ?_
           rotate_left
           · simp only [gA, gB, gC]; rfl
           · exact fun _ _ _ h => h
           · exact Or.inr ⟨by kernel_rfl, rfl⟩
           try simp only [Act.put, gD, gE, gF]
           refine wpAnyH_take (i := 16) (oi := ?oino16) (v := undef) ?_ (by kernel_rfl) (by kernel_rfl) (by kernel_rfl) ?_ ?_ hHl ?_
           rotate_left
           · simp only [gA, gB, gC]; rfl
           · exact fun _ _ _ h => h
           · exact Or.inr ⟨by kernel_rfl, rfl⟩
           try simp only [Act.put, gD, gE, gF]
           refine wpAnyH_take (i := 17) (oi := ?oino17) (v := undef) ?_ (by kernel_rfl) (by kernel_rfl) (by kernel_rfl) ?_ ?_ hHl ?_
           rotate_left
           · simp only [gA, gB, gC]; rfl
           · exact fun _ _ _ h => h
           · exact Or.inr ⟨by kernel_rfl, rfl⟩
           try simp only [Act.put, gD, gE, gF]
           refine wpAnyH_take (i := 18) (oi := ?oino18) (v := .bool false) ?_ (by kernel_rfl) (by kernel_rfl) (by kernel_rfl) ?_ ?_ hHl ?_
           rotate_left
           · simp only [gA, gB, gC]; rfl
           · exact fun _ _ _ h => h
           · exact Or.inl ⟨by kernel_rfl, fun w hSw => by go_simp⟩
           try simp only [Act.put, gD, gE, gF]
           refine wpAnyH_done (by kernel_rfl) ?_ _
           go_wp2_with fail
           go_roundw
           case rel => exact ⟨k + 1, by omega, by go_num, by rw [HST.out]; simpa using HO6.out, HF6.out, HB6.out, HP6.out⟩
           case measure => simp [intOf]; omega
       · have hkk : k = ps[i].length := by omega
         subst hkk
         go_wp2_with fail
         go_roundw
         case rel => exact ⟨i + 1, by omega, by go_num, by unfold jn8; rw [hsz]; exact HOk.out, HFk.out, HBk.out, HPk.out⟩
         case measure => simp [intOf]; omega
    · have hii : i = ps.length := by omega
      subst hii
      go_wp2_with fail
      go_ret
      exact ⟨_, rfl, HO.out.mono (by omega), HB.out⟩
 · clear HP
   go_wp2_with fail
   refine wp_loop_rounds 1 ?_
   rw [rounds_succ]
   go_wp2_with fail
   go_ret
   exact ⟨_, rfl, HO1.out.mono (by omega), HB1.out⟩
end Go.Proofs.YtdkdhjhhbkcciaaGreat
