/-
 Chapter 12, the program's side: nextPlaces.
-/
import Derived.Test.YtnjbihfceckpfaaG00Stmt
import Derived.Test.YtnjbihfceckpfaaImplWkM
import Derived.Test.YtnjbihfceckpfaaG13Nexts
namespace Go.Proofs.Ytnjbihfceckpfaa
open Go.RowKit
set_option linter.unusedVariables false
set_option linter.unusedSimpArgs false
set_option maxHeartbeats 4000000
set_option maxRecDepth 20000

def StopG (p : Prop) : Prop := p
theorem stopG {p : Prop} (h : StopG p) : p := h

theorem own_lv {w : World} {base : Nat} {e : TypeId} {s n : Nat} {u : Value} {xs : List Value} (h : w.ownsRow base e s u n xs) : ∃ a m c, u = .slice a m c ∧ m = n := by
 rcases h.2 with ⟨rfl, e⟩ | ⟨g, cap, cur, rfl, _⟩
 · exact ⟨_, _, _, rfl, e.symm⟩
 · exact ⟨_, _, _, rfl, rfl⟩

theorem implNextPl (ps : List (List Stm)) (c : Int) (s : WS) (base B k : Nat) (v : Value) (w : World) (hcan : CanP ps) (h4 : ps.length ≤ 4) (hk : k ≤ 100) (hs : OkW ps s k) (hv : ReadsP w v ps) (hW : WAt w base B v c s) :
 Calls Try.prog 91 #[.pointer (some ⟨B, 0, none⟩)] w fun e w' => ∃ u, e = .returned u ∧ OwnPl w' w.heap.size u (nxW ps s) ∧ Below w.heap.size w w' := by
 have hstm := fun W (hb : Below w.heap.size w W) => implStmt ps c s base B k v W hs (readsP_below hv hb) (hW.below hb)
 have hlen := hs.len
 have hbl := fun W (hb : Below w.heap.size w W) => implBehindLast c s base B v W (by omega) (fun t ht => by have h1 := (hs.op t ht); have h2 := (procOk_parts (procs_of hcan h1.1).1).2.1; omega) (hW.below hb)
 obtain ⟨hpo, hps⟩ := procs_of hcan hs.p
 obtain ⟨_, h12, _⟩ := procOk_parts hpo
 have hcall := hs.call hcan
 have hi := hs.i
 have hp := hs.p
 have HTE : Hid (stW ps s.p s.i = (ps.getD s.p [])[s.i]) := stW_eq hi
 obtain ⟨ao, cap, rfl, hcc⟩ := id hv
 have hsz : ps[s.p]? = some (ps.getD s.p []) := by simp [List.getD, hp]
 obtain ⟨g, off, pv, rfl, hcell, hR⟩ := hcc s.p _ hsz
 obtain ⟨A, hA⟩ : ∃ A, nxW ps s = A := ⟨_, rfl⟩
 have HA : Hid (nxW ps s = A) := hA
 rw [hA]
 have HA2 : Hid (A = nxS (stW ps s.p s.i) s.p s.i s.op) := hA.symm
 have hW0 := hW
 obtain ⟨hBb, cv, hblk, hown⟩ := hW
 have HBK : Hid _ := hblk
 have zB := (Array.getElem?_eq_some_iff.1 hblk).1
 clear hA hsz hcc
 generalize stW ps s.p s.i = t at *
 go_enter Try.func91, Try.ntmps91
 go_wp2_with fail
 go_at_call 122
 refine (hstm w (Below.refl _ _)).mono ?_
 rintro e w1 ⟨rfl, b1⟩
 have B1 : Hid (Below w.heap.size w w1) := b1
 obtain ⟨W, hW⟩ : ∃ W, w1.alloc (.cells #[.int .i64 t.k, .int .i64 t.x, .int .i64 t.y] 92) = W := ⟨_, rfl⟩
 have bW : Below w1.heap.size w1 W := by rw [← hW]; go_grown
 have HW : Hid (W.heap[w1.heap.size]? = some (.cells #[.int .i64 t.k, .int .i64 t.x, .int .i64 t.y] 92 (0, 0))) := by show _ = _; rw [← hW]; exact heap_alloc_new w1 _
 have BW : Hid (Below w.heap.size w W) := b1.trans (bW.mono b1.size)
 obtain ⟨k0, k1, k2⟩ := stmt_cells HW.out
 have hsw := BW.out.size
 clear bW b1 hstm
 by_cases h8 : t.k = 8
 · obtain ⟨y, hy, _⟩ := hcall h8
   have HE : Hid (A = [(y : Int), 0]) := by
    show A = _
    rw [HA2.out]; unfold nxS; rw [if_pos h8, hy]
   rw [hy] at k2
   rw [h8] at k0
   clear hcall h8 hy
   go_wp2_with fail
   go_ret
   refine ⟨_, rfl, ?_, BW.out.alloc hsw _⟩
   rw [HE.out]
   exact (made1P W (y : Int) 0).mono hsw
 by_cases h9 : t.k = 9
 · have HE : Hid (A = lastPl s.op) := by
    show A = _
    rw [HA2.out]; unfold nxS; rw [if_neg h8, if_pos h9]
   rw [h9] at k0
   have hbl := hbl W BW.out
   clear hcall h9 h8
   go_wp2_with fail
   go_at_call 123
   refine hbl.mono ?_
   rintro e w2 ⟨u, rfl, ou, b2⟩
   go_wp2_with fail
   go_ret
   exact ⟨_, rfl, by rw [HE.out]; exact ou.mono hsw, BW.out.trans (b2.mono hsw)⟩
 have HE : Hid (A = (nextsS t s.i).flatMap (fun x => [(s.p : Int), x])) := by
  show A = _
  rw [HA2.out]; unfold nxS; rw [if_neg h8, if_neg h9]
 have hx8 : (t.k == 8) = false := by simpa using h8
 have hx9 : (t.k == 9) = false := by simpa using h9
 have HBW : Hid _ := (BW.out.block B zB).trans HBK.out
 obtain ⟨⟨d0, d1, d2, d3, d4, d5⟩, _⟩ := wk_cells HBW.out
 have c3 := (BW.out.cell (World.block_lt_of_cell? w _ hcell)).trans hcell
 have HRW : Hid _ := reads3_below hR BW.out
 have hL2 := nextsS_length t s.i
 have hnx := fun W' (hb : Below W.heap.size W W') => nextsOf (ps.getD s.p []) s.i pv W' hi h12 (reads3_below HRW.out hb)
 rw [← HTE.out] at hnx
 obtain ⟨P, hP⟩ : ∃ P, s.p = P := ⟨_, rfl⟩
 obtain ⟨I, hI⟩ : ∃ I, s.i = I := ⟨_, rfl⟩
 rw [hP] at d3 c3 HE hp
 rw [hI] at d4 HE hnx hL2
 have hpl : (P : Int) < (ps.length : Int) := by omega
 clear hcall hbl hcell hR hi HTE hP hI hown hblk hW0 hv
 generalize nextsS t (I : Int) = L at *
 have zBW : B < W.heap.size := Nat.lt_of_lt_of_le zB hsw
 have zgW := World.block_lt_of_cell? W _ c3
 have hpv : ∃ a m cc, pv = .slice a m cc := reads3_slice HRW.out
 obtain ⟨pa, pm, pc, rfl⟩ := hpv
 go_wp2_with fail
 refine wp_region_held_drew (S := fun w' => (w'.cell? ⟨B, 1, none⟩ = some (.slice (some ⟨g, off, none⟩) ps.length cap) ∧ w'.cell? ⟨B, 3, none⟩ = some (.int .i64 (P : Int))) ∧ w'.cell? ⟨B, 4, none⟩ = some (.int .i64 (I : Int)) ∧ w'.cell? ⟨g, off + P, none⟩ = some (.slice pa pm pc)) (by kernel_rfl) ⟨⟨d1, d3⟩, d4, c3⟩ (fun hHeld => ?_)
 refine wpAnyH_take (i := 0) (oi := ?oia0) (v := .pointer (some ⟨B, 0, none⟩)) ?hia0 (by kernel_rfl) (by kernel_rfl) (by kernel_rfl) ?hqa0 ?hya0 hHeld ?hra0
 case hia0 =>
  simp only [gA, gB, gC]
  rfl
 case hqa0 => exact fun _ _ _ h => h
 case hya0 => exact Or.inl ⟨by kernel_rfl, fun w hSw => by go_simp⟩
 try simp only [Act.put, gD, gE, gF]
 refine wpAnyH_take (i := 1) (oi := ?oia1) (v := .pointer (some ⟨B, 0, none⟩)) ?hia1 (by kernel_rfl) (by kernel_rfl) (by kernel_rfl) ?hqa1 ?hya1 hHeld ?hra1
 case hia1 =>
  simp only [gA, gB, gC]
  rfl
 case hqa1 => exact fun _ _ _ h => h
 case hya1 => exact Or.inl ⟨by kernel_rfl, fun w hSw => by go_simp⟩
 try simp only [Act.put, gD, gE, gF]
 refine wpAnyH_take (i := 2) (oi := ?oia2) (v := .pointer (some ⟨B, 1, none⟩)) ?hia2 (by kernel_rfl) (by kernel_rfl) (by kernel_rfl) ?hqa2 ?hya2 hHeld ?hra2
 case hia2 =>
  simp only [gA, gB, gC]
  rfl
 case hqa2 => exact fun _ _ _ h => h
 case hya2 => exact Or.inl ⟨by kernel_rfl, fun w hSw => by go_simp⟩
 try simp only [Act.put, gD, gE, gF]
 refine wpAnyH_take (i := 3) (oi := ?oia3) (v := .slice (some ⟨g, off, none⟩) ps.length cap) ?hia3 (by kernel_rfl) (by kernel_rfl) (by kernel_rfl) ?hqa3 ?hya3 hHeld ?hra3
 case hia3 =>
  simp only [gA, gB, gC]
  rfl
 case hqa3 => exact fun _ _ _ h => h
 case hya3 => exact Or.inl ⟨by kernel_rfl, fun w hSw => by obtain ⟨⟨s1, s2⟩, s3, s4⟩ := hSw; go_simp⟩
 try simp only [Act.put, gD, gE, gF]
 refine wpAnyH_take (i := 4) (oi := ?oia4) (v := .pointer (some ⟨B, 0, none⟩)) ?hia4 (by kernel_rfl) (by kernel_rfl) (by kernel_rfl) ?hqa4 ?hya4 hHeld ?hra4
 case hia4 =>
  simp only [gA, gB, gC]
  rfl
 case hqa4 => exact fun _ _ _ h => h
 case hya4 => exact Or.inl ⟨by kernel_rfl, fun w hSw => by go_simp⟩
 try simp only [Act.put, gD, gE, gF]
 refine wpAnyH_take (i := 5) (oi := ?oia5) (v := .pointer (some ⟨B, 0, none⟩)) ?hia5 (by kernel_rfl) (by kernel_rfl) (by kernel_rfl) ?hqa5 ?hya5 hHeld ?hra5
 case hia5 =>
  simp only [gA, gB, gC]
  rfl
 case hqa5 => exact fun _ _ _ h => h
 case hya5 => exact Or.inl ⟨by kernel_rfl, fun w hSw => by go_simp⟩
 try simp only [Act.put, gD, gE, gF]
 refine wpAnyH_take (i := 6) (oi := ?oia6) (v := .pointer (some ⟨B, 3, none⟩)) ?hia6 (by kernel_rfl) (by kernel_rfl) (by kernel_rfl) ?hqa6 ?hya6 hHeld ?hra6
 case hia6 =>
  simp only [gA, gB, gC]
  rfl
 case hqa6 => exact fun _ _ _ h => h
 case hya6 => exact Or.inl ⟨by kernel_rfl, fun w hSw => by go_simp⟩
 try simp only [Act.put, gD, gE, gF]
 refine wpAnyH_take (i := 7) (oi := ?oia7) (v := .pointer (some ⟨B, 3, none⟩)) ?hia7 (by kernel_rfl) (by kernel_rfl) (by kernel_rfl) ?hqa7 ?hya7 hHeld ?hra7
 case hia7 =>
  simp only [gA, gB, gC]
  rfl
 case hqa7 => exact fun _ _ _ h => h
 case hya7 => exact Or.inl ⟨by kernel_rfl, fun w hSw => by go_simp⟩
 try simp only [Act.put, gD, gE, gF]
 refine wpAnyH_take (i := 8) (oi := ?oia8) (v := .int .i64 (P : Int)) ?hia8 (by kernel_rfl) (by kernel_rfl) (by kernel_rfl) ?hqa8 ?hya8 hHeld ?hra8
 case hia8 =>
  simp only [gA, gB, gC]
  rfl
 case hqa8 => exact fun _ _ _ h => h
 case hya8 => exact Or.inl ⟨by kernel_rfl, fun w hSw => by obtain ⟨⟨s1, s2⟩, s3, s4⟩ := hSw; go_simp⟩
 try simp only [Act.put, gD, gE, gF]
 refine wpAnyH_take (i := 9) (oi := ?oia9) (v := .pointer (some ⟨g, off + P, none⟩)) ?hia9 (by kernel_rfl) (by kernel_rfl) (by kernel_rfl) ?hqa9 ?hya9 hHeld ?hra9
 case hia9 =>
  simp only [gA, gB, gC]
  rfl
 case hqa9 => exact fun _ _ _ h => h
 case hya9 => exact Or.inl ⟨by kernel_rfl, fun w hSw => by go_simp⟩
 try simp only [Act.put, gD, gE, gF]
 refine wpAnyH_take (i := 10) (oi := ?oia10) (v := .agg #[.slice pa pm pc]) ?hia10 (by kernel_rfl) (by kernel_rfl) (by kernel_rfl) ?hqa10 ?hya10 hHeld ?hra10
 case hia10 =>
  simp only [gA, gB, gC]
  rfl
 case hqa10 => exact fun _ _ _ h => h
 case hya10 => exact Or.inl ⟨by kernel_rfl, fun w hSw => by obtain ⟨⟨s1, s2⟩, s3, s4⟩ := hSw; go_simp⟩
 try simp only [Act.put, gD, gE, gF]
 refine wpAnyH_take (i := 11) (oi := ?oia11) (v := .pointer (some ⟨B, 0, none⟩)) ?hia11 (by kernel_rfl) (by kernel_rfl) (by kernel_rfl) ?hqa11 ?hya11 hHeld ?hra11
 case hia11 =>
  simp only [gA, gB, gC]
  rfl
 case hqa11 => exact fun _ _ _ h => h
 case hya11 => exact Or.inl ⟨by kernel_rfl, fun w hSw => by go_simp⟩
 try simp only [Act.put, gD, gE, gF]
 refine wpAnyH_take (i := 12) (oi := ?oia12) (v := .pointer (some ⟨B, 0, none⟩)) ?hia12 (by kernel_rfl) (by kernel_rfl) (by kernel_rfl) ?hqa12 ?hya12 hHeld ?hra12
 case hia12 =>
  simp only [gA, gB, gC]
  rfl
 case hqa12 => exact fun _ _ _ h => h
 case hya12 => exact Or.inl ⟨by kernel_rfl, fun w hSw => by go_simp⟩
 try simp only [Act.put, gD, gE, gF]
 refine wpAnyH_take (i := 13) (oi := ?oia13) (v := .pointer (some ⟨B, 3, none⟩)) ?hia13 (by kernel_rfl) (by kernel_rfl) (by kernel_rfl) ?hqa13 ?hya13 hHeld ?hra13
 case hia13 =>
  simp only [gA, gB, gC]
  rfl
 case hqa13 => exact fun _ _ _ h => h
 case hya13 => exact Or.inl ⟨by kernel_rfl, fun w hSw => by go_simp⟩
 try simp only [Act.put, gD, gE, gF]
 refine wpAnyH_take (i := 14) (oi := ?oia14) (v := .pointer (some ⟨B, 4, none⟩)) ?hia14 (by kernel_rfl) (by kernel_rfl) (by kernel_rfl) ?hqa14 ?hya14 hHeld ?hra14
 case hia14 =>
  simp only [gA, gB, gC]
  rfl
 case hqa14 => exact fun _ _ _ h => h
 case hya14 => exact Or.inl ⟨by kernel_rfl, fun w hSw => by go_simp⟩
 try simp only [Act.put, gD, gE, gF]
 refine wpAnyH_take (i := 15) (oi := ?oia15) (v := .int .i64 (I : Int)) ?hia15 (by kernel_rfl) (by kernel_rfl) (by kernel_rfl) ?hqa15 ?hya15 hHeld ?hra15
 case hia15 =>
  simp only [gA, gB, gC]
  rfl
 case hqa15 => exact fun _ _ _ h => h
 case hya15 => exact Or.inl ⟨by kernel_rfl, fun w hSw => by obtain ⟨⟨s1, s2⟩, s3, s4⟩ := hSw; go_simp⟩
 try simp only [Act.put, gD, gE, gF]
 refine wpAnyH_take (i := 18) (oi := ?oia18) (v := .int .i64 0) ?hia18 (by kernel_rfl) (by kernel_rfl) (by kernel_rfl) ?hqa18 ?hya18 hHeld ?hra18
 case hia18 =>
  simp only [gA, gB, gC]
  rfl
 case hqa18 => exact fun _ _ _ h => h
 case hya18 => exact Or.inl ⟨by kernel_rfl, fun w hSw => by go_simp⟩
 try simp only [Act.put, gD, gE, gF]
 refine wpAnyH_ready (rs := [16]) (by kernel_rfl) (by simp) ?_
 refine (AllReadyH.cons (o := ?ooa16) ?hoa16 (fun K hK => ?hka16) AllReadyH.nil)
 case hoa16 =>
  simp only [gA, gB, gC]
  rfl
 case hka16 =>
  go_simp
  go_at_call 124
  refine (hnx _ (by go_grown)).mono ?_
  rintro e w3 ⟨lv, rfl, ol, b3⟩
  have B3 : Hid (Below W.heap.size W w3) := Below.trans (by go_grown) b3
  have OL : Hid (w3.ownsRow W.heap.size 2 1 lv L.length (ints L)) := ol
  obtain ⟨la, lm, lc, rfl, hlc⟩ := own_lv ol
  obtain rfl := hlc
  clear b3 ol
  try go_wp2_with fail
  refine hK.out _ _ ⟨⟨(B3.out.cell zBW).trans d1, (B3.out.cell zBW).trans d3⟩, (B3.out.cell zBW).trans d4, (B3.out.cell zgW).trans c3⟩ (fun hHeld => ?_)
  clear hK K
  try simp only [Act.put, gD, gE, gF]
  refine wpAnyH_take (i := 17) (oi := ?oia17) (v := .int .i64 (L.length : Int)) ?hia17 (by kernel_rfl) (by kernel_rfl) (by kernel_rfl) ?hqa17 ?hya17 hHeld ?hra17
  case hia17 =>
   simp only [gA, gB, gC]
   rfl
  case hqa17 => exact fun _ _ _ h => h
  case hya17 => exact Or.inl ⟨by kernel_rfl, fun w hSw => by go_simp⟩
  try simp only [Act.put, gD, gE, gF]
  refine wpAnyH_done (by kernel_rfl) ?_ _
  have hL2' := hL2
  obtain ⟨ip, hip, hq0, hq1, hq2⟩ := info_parts infoPlace
  have B3W : Hid (Below w.heap.size w w3) := BW.out.trans (B3.out.mono hsw)
  go_wp2_with fail
  go_loopw [4, 41] (fun ov kv wr => ∃ k : Nat, k ≤ L.length ∧ kv = .int .i64 k ∧ OwnPl wr W.heap.size ov ((L.take k).flatMap (fun x => [(P : Int), x])) ∧ wr.ownsRow W.heap.size 2 1 (.slice la L.length lc) L.length (ints L) ∧ Below W.heap.size W wr) (fun _ kv _ => L.length - (intOf kv).toNat)
  case atStart => exact ⟨0, Nat.zero_le _, rfl, nilP _ _, OL.out, B3.out⟩
  case round =>
   obtain ⟨k, hk, rfl, hO, hL, hB⟩ := hrel
   have HO : Hid _ := hO
   have HL : Hid (wr.ownsRow W.heap.size 2 1 (.slice la L.length lc) L.length (ints L)) := hL
   have HB : Hid (Below W.heap.size W wr) := hB
   by_cases hlt : k < L.length
   · have hlt' : (k : Int) < (L.length : Int) := by omega
     obtain ⟨g3, c3', hf3, _, _⟩ := World.ownsRow.form hL (by omega)
     cases hf3
     have c6 : wr.cell? ⟨g3, k, none⟩ = some (.int .i64 L[k]) := by
      have := hL.cellAt k (by omega)
      rw [this]; simp [ints, hlt]
     have c7 : wr.cell? ⟨B, 3, none⟩ = some (.int .i64 (P : Int)) := (hB.cell zBW).trans d3
     have HST : Hid ((L.take (k + 1)).flatMap (fun x => [(P : Int), x]) = (L.take k).flatMap (fun x => [(P : Int), x]) ++ [(P : Int), L[k]]) := by
      show _ = _
      rw [List.take_succ_eq_append_getElem hlt, List.flatMap_append]; rfl
     obtain ⟨m, hm, hown⟩ := hO.ex
     have hmb : m ≤ 12 := by
      rw [pairs_len] at hm
      simp at hm
      omega
     have hlo : ∀ q, u4.ownBlock = some q → W.heap.size ≤ q := fun q hq => (hown.lt q hq).1
     clear hO hL hB
     generalize L[k] = x at *
     have bA : Below wr.heap.size wr (wr.alloc (.cells #[.int .i64 (P : Int), .int .i64 x] 56)) := by go_grown
     have HAL : Hid ((wr.alloc (.cells #[.int .i64 (P : Int), .int .i64 x] 56)).ownsRow W.heap.size 56 2 u4 m (ints ((L.take k).flatMap (fun x => [(P : Int), x])))) := own_kept hown bA
     have HLA : Hid ((wr.alloc (.cells #[.int .i64 (P : Int), .int .i64 x] 56)).ownsRow W.heap.size 2 1 (.slice (some ⟨g3, 0, none⟩) L.length lc) L.length (ints L)) := own_kept HL.out bA
     have HNW : Hid _ := World.news_of_block (heap_alloc_new wr (.cells #[.int .i64 (P : Int), .int .i64 x] 56))
     have hm3 : W.heap.size ≤ (wr.alloc (.cells #[.int .i64 (P : Int), .int .i64 x] 56)).heap.size := by rw [World.size_alloc]; have := HB.out.size; omega
     have HBA : Hid (Below W.heap.size W (wr.alloc (.cells #[.int .i64 (P : Int), .int .i64 x] 56))) := HB.out.trans (bA.mono HB.out.size)
     have HM : Hid _ := hm
     clear hown hm bA
     have hm1 : m + 1 ≤ maxLen := by unfold maxLen; omega
     have hm2 : (m + 1) * 16 ≤ 140737488355328 := by omega
     go_wp2_with (first
      | (at_builtin; refine wpList_append_own _ rfl (.tmp 45) (.tmp 53) 43 rfl W.heap.size 56 ip (.agg #[.int .i64 0, .int .i64 0]) 2 16 Try.underlying43 hip hq0 hq1 hq2 rfl (by decide) u4 m _ rfl HAL.out ⟨wr.heap.size, 0, none⟩ 1 1 [.int .i64 (P : Int), .int .i64 x] rfl rfl HNW.out (two_one P x) hm1 hm2 hm3 ?_; intro v7 w7 own7 grow7 _; refine stopG ?_))
     unfold StopG
     have S7 : Hid (OwnPl w7 W.heap.size v7 ((L.take (k + 1)).flatMap (fun x => [(P : Int), x]))) := by
      rw [HST.out]
      exact ⟨m + 1, by simp [HM.out]; omega, by rw [ints_append]; exact own7⟩
     have L7 : Hid (w7.ownsRow W.heap.size 2 1 (.slice (some ⟨g3, 0, none⟩) L.length lc) L.length (ints L)) := own_same HLA.out (fun q hq => grow7.block q (HLA.out.lt q hq).2 (fun e => row_kind HLA.out HAL.out (by decide) hq e.symm))
     have B7 : Hid (Below W.heap.size W w7) := HBA.out.grown grow7 HBA.out.size hlo
     clear own7 grow7
     go_wp2_with fail
     go_roundw
     case rel => exact ⟨k + 1, by omega, by go_num, S7.out, L7.out, B7.out⟩
     case measure => simp [intOf]; omega
   · have hkk : k = L.length := by omega
     subst hkk
     rw [List.take_length] at HO
     go_wp2_with fail
     go_ret
     exact ⟨_, rfl, by rw [HE.out]; exact HO.out.mono hsw, BW.out.trans (Below.mono HB.out hsw)⟩

end Go.Proofs.Ytnjbihfceckpfaa
