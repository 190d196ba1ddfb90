/-
 spec.l3DrawAny: some Program, right or wrong, in memory of its own.
-/
import Derived.Test.YtnjbihfceckpfaaG00Stmt
import Derived.Test.YtnjbihfceckpfaaG16DrawAnyN
namespace Go.Proofs.Ytnjbihfceckpfaa
open Go.RowKit
set_option linter.unusedVariables false
set_option linter.unusedSimpArgs false
set_option maxHeartbeats 4000000
set_option maxRecDepth 20000

theorem l3DrawAny (g : Nat) (bs : List Int) (w : World) (hl : bs.length ≤ 1048576) (hc : Cur w g bs) :
 Calls Try.prog 61 #[.pointer (some ⟨g, 0, none⟩)] w fun e w' =>
  ∃ (u : Value) (L : List Nat), e = .returned (.agg #[u]) ∧ L.length ≤ 5 ∧ (∀ n ∈ L, n ≤ 14) ∧ PrOk w' w.heap.size u L ∧ Cur w' g bs ∧ w.grownBy w' (some g) := by
 have hgw := curLt hc
 go_enter Try.func61, Try.ntmps61
 have hcA := curAlloc hc (.cells #[.slice none 0 0] 30)
 have HA := heap_alloc_new w (.cells #[.slice none 0 0] 30)
 have gA := World.grownBy_alloc w (.cells #[.slice none 0 0] 30) (some g)
 go_wp2_with fail
 go_at_call 84
 refine (l3Draw g bs _ hl hcA).mono ?_
 rintro e w1 ⟨u, ps, rfl, hp1, hp3, hp7, rows1, hc1, hg1⟩
 have R1 := blockGrown HA hg1 hgw
 have G1 := grown_trans gA hg1
 have z1 : w.heap.size < w1.heap.size := (Array.getElem?_eq_some_iff.1 R1).1
 obtain ⟨ua, um, uc, rfl⟩ := rows2_slice rows1
 have hSz : (w.alloc (.cells #[.slice none 0 0] 30)).heap.size = w.heap.size + 1 := by simp
 rw [hSz] at rows1
 clear hcA HA gA hg1 hSz
 obtain ⟨P, hP⟩ : ∃ P, w1.heap.size = P := ⟨_, rfl⟩
 obtain ⟨W2, hW2⟩ : ∃ z, w1.alloc (.cells #[.slice ua um uc] 30) = z := ⟨_, rfl⟩
 have D2 : DA w g bs P (.slice ua um uc) ps W2 := by
  rw [← hW2, ← hP]
  exact ⟨rows2_alloc rows1 _, heap_alloc_new w1 _, (old_block z1).trans R1, curAlloc hc1 _, grownAlloc G1 _⟩
 have hPw : w.heap.size < P := by omega
 have hon := l1Once g bs 14 (by omega) W2 hl D2.cur
 have HW2 : Hid _ := hW2
 have HP : Hid _ := hP
 have hBP : ∀ q, ua = some q → q.block < P := by
  intro q hq
  obtain ⟨us, ho, _⟩ := rows1
  have := (ho.lt q.block (by simp [Value.ownBlock, hq])).2
  omega
 have HBP : Hid _ := hBP
 clear rows1 hc1 G1 R1 z1 hW2 hP hBP
 go_wp2_with fail
 rw [HP.out, HW2.out]
 clear HP HW2
 go_at_call 85
 refine hon.mono ?_
 rintro e w3 ⟨b, rfl, hc3, hg3⟩
 have D3 := D2.draw hgw hPw hc3 hg3
 have hum : um = ps.length := by
  obtain ⟨us, ho, _⟩ := D3.rows
  rcases ho.2 with ⟨e, hn⟩ | ⟨q, cp, cur, e, _⟩
  · cases e; omega
  · cases e; rfl
 subst hum
 obtain ⟨gu, cu, hua⟩ : ∃ gu cu, Value.slice ua ps.length uc = .slice (some ⟨gu, 0, none⟩) ps.length cu := by
  obtain ⟨us, ho, _⟩ := D3.rows
  rcases ho.2 with ⟨_, hn⟩ | ⟨q, cp, cur, e, _⟩
  · omega
  · exact ⟨q, cp, e⟩
 obtain ⟨rfl, -, rfl⟩ : ua = some ⟨gu, 0, none⟩ ∧ True ∧ uc = cu := by cases hua; exact ⟨rfl, trivial, rfl⟩
 have hguP : gu < P := HBP.out _ rfl
 clear hon hc3 hg3 D2 hua HBP
 obtain ⟨cP, fP⟩ := oneCell D3.box
 obtain ⟨cR, fR⟩ := oneCell D3.res
 cases b
 · have HD : Hid _ := D3
   have R10 := heap_setCell_same w3 w.heap.size 0 _ 30 (.slice (some ⟨gu, 0, none⟩) ps.length uc) D3.res
   simp at R10
   obtain ⟨d0, _⟩ := oneCell R10
   clear D3 R10
   go_wp2
   refine bodyPost_ret (v := .agg #[.slice (some ⟨gu, 0, none⟩) ps.length uc]) (by simp [results, Try.results61, go_sem, d0]) rfl ?_
   obtain ⟨h1, h2, h3⟩ := DA.ends hgw HD.out.rows.prOk HD.out.cur HD.out.gr
   exact ⟨_, _, rfl, by simp; omega, fun n hn => by obtain ⟨p, hp, rfl⟩ := List.mem_map.1 hn; have := hp7 p hp; omega, h1, h2, h3⟩
 · have HD : Hid _ := D3
   clear D3 cR fR
   go_wp2_with fail
   refine wp_region_held_drew (S := (fun w' => w'.cell? ⟨P, 0, none⟩ = some (.slice (some ⟨gu, 0, none⟩) ps.length uc))) (by kernel_rfl) cP (fun hHeld => ?_)
   refine wpAnyH_take (i := 0) (oi := ?oia0) (v := .pointer (some ⟨P, 0, none⟩)) ?hia0 (by kernel_rfl) (by kernel_rfl) (by kernel_rfl) ?hqa0 ?hya0 hHeld ?hra0
   case hia0 =>
    simp only [gA, gB, gC]
    rfl
   case hqa0 => exact fun _ _ _ h => h
   case hya0 => exact Or.inl ⟨by kernel_rfl, fun w hSw => by go_simp⟩
   try simp only [Act.put, gD, gE, gF]
   refine wpAnyH_take (i := 1) (oi := ?oia1) (v := .slice (some ⟨gu, 0, none⟩) ps.length uc) ?hia1 (by kernel_rfl) (by kernel_rfl) (by kernel_rfl) ?hqa1 ?hya1 hHeld ?hra1
   case hia1 =>
    simp only [gA, gB, gC]
    rfl
   case hqa1 => exact fun _ _ _ h => h
   case hya1 => exact Or.inl ⟨by kernel_rfl, fun w hSw => by go_simp⟩
   try simp only [Act.put, gD, gE, gF]
   refine wpAnyH_take (i := 2) (oi := ?oia2) (v := .pointer (some ⟨g, 0, none⟩)) ?hia2 (by kernel_rfl) (by kernel_rfl) (by kernel_rfl) ?hqa2 ?hya2 hHeld ?hra2
   case hia2 =>
    simp only [gA, gB, gC]
    rfl
   case hqa2 => exact fun _ _ _ h => h
   case hya2 => exact Or.inl ⟨by kernel_rfl, fun w hSw => by go_simp⟩
   try simp only [Act.put, gD, gE, gF]
   refine wpAnyH_take (i := 3) (oi := ?oia3) (v := .pointer (some ⟨P, 0, none⟩)) ?hia3 (by kernel_rfl) (by kernel_rfl) (by kernel_rfl) ?hqa3 ?hya3 hHeld ?hra3
   case hia3 =>
    simp only [gA, gB, gC]
    rfl
   case hqa3 => exact fun _ _ _ h => h
   case hya3 => exact Or.inl ⟨by kernel_rfl, fun w hSw => by go_simp⟩
   try simp only [Act.put, gD, gE, gF]
   refine wpAnyH_take (i := 4) (oi := ?oia4) (v := .slice (some ⟨gu, 0, none⟩) ps.length uc) ?hia4 (by kernel_rfl) (by kernel_rfl) (by kernel_rfl) ?hqa4 ?hya4 hHeld ?hra4
   case hia4 =>
    simp only [gA, gB, gC]
    rfl
   case hqa4 => exact fun _ _ _ h => h
   case hya4 => exact Or.inl ⟨by kernel_rfl, fun w hSw => by go_simp⟩
   try simp only [Act.put, gD, gE, gF]
   refine wpAnyH_take (i := 5) (oi := ?oia5) (v := .int .i64 (ps.length : Int)) ?hia5 (by kernel_rfl) (by kernel_rfl) (by kernel_rfl) ?hqa5 ?hya5 hHeld ?hra5
   case hia5 =>
    simp only [gA, gB, gC]
    rfl
   case hqa5 => exact fun _ _ _ h => h
   case hya5 => exact Or.inl ⟨by kernel_rfl, fun w hSw => by go_simp⟩
   try simp only [Act.put, gD, gE, gF]
   refine wpAnyH_ready (rs := [6]) (by kernel_rfl) (by simp) ?_
   refine AllReadyH.cons (o := ?ooa6) ?hoa6 (fun K hK => ?_) AllReadyH.nil
   case hoa6 =>
    simp only [gA, gB, gC]
    rfl
   go_simp
   go_at_call 86
   refine (l1Below g bs (ps.length : Int) (by omega) _ hl (cur_below HD.out.cur (by go_grown))).mono ?_
   rintro e w4 ⟨zi, rfl, hz0, hz1, _, hc4, hg4'⟩
   have hg4 : w3.grownBy w4 (some g) := grown_trans (grown_of_below (by go_grown) (some g)) hg4'
   have D4 := HD.out.draw hgw hPw hc4 hg4
   obtain ⟨i, rfl⟩ : ∃ i : Nat, zi = i := ⟨zi.toNat, by omega⟩
   have hi : i < ps.length := by have := hz1 (by omega); omega
   have hi' : (i : Int) < (ps.length : Int) := by omega
   go_wp2_with fail
   refine hK.out _ _ (oneCell D4.box).1 (fun hHeld => ?_)
   clear hK K
   try simp only [Act.put, gD, gE, gF]
   refine wpAnyH_take (i := 7) (oi := ?oia7) (v := .pointer (some ⟨gu, i, none⟩)) ?hia7 (by kernel_rfl) (by kernel_rfl) (by kernel_rfl) ?hqa7 ?hya7 hHeld ?hra7
   case hia7 =>
    simp only [gA, gB, gC]
    rfl
   case hqa7 => exact fun _ _ _ h => h
   case hya7 => exact Or.inl ⟨by kernel_rfl, fun w hSw => by go_simp⟩
   try simp only [Act.put, gD, gE, gF]
   refine wpAnyH_take (i := 8) (oi := ?oia8) (v := .pointer (some ⟨gu, i, none⟩)) ?hia8 (by kernel_rfl) (by kernel_rfl) (by kernel_rfl) ?hqa8 ?hya8 hHeld ?hra8
   case hia8 =>
    simp only [gA, gB, gC]
    rfl
   case hqa8 => exact fun _ _ _ h => h
   case hya8 => exact Or.inl ⟨by kernel_rfl, fun w hSw => by go_simp⟩
   try simp only [Act.put, gD, gE, gF]
   refine wpAnyH_done (by kernel_rfl) ?_ _
   obtain ⟨us, ho, hin⟩ := id D4.rows
   have hul : us.length = ps.length := by simpa using ho.1
   obtain ⟨xi, hxi⟩ : ∃ x, us[i]? = some x := ⟨us[i]'(by omega), by simp [hul, hi]⟩
   have own_i := hin i xi ps[i] hxi (by simp [hi])
   have cX : w4.cell? ⟨gu, i, none⟩ = some xi := (ho.cellAt i (by omega)).trans hxi
   have h17 := hp7 ps[i] (List.getElem_mem hi)
   obtain ⟨gi, ci, rfl⟩ : ∃ gi ci, xi = .slice (some ⟨gi, 0, none⟩) ps[i].length ci := by
    rcases own_i.2 with ⟨_, hn⟩ | ⟨q, cp, cur, e, _⟩
    · omega
    · exact ⟨q, cp, e⟩
   have hgu : w.heap.size + 1 ≤ gu := (ho.lt gu rfl).1
   have hgi : w.heap.size + 1 ≤ gi := (own_i.lt gi rfl).1
   have hcap : ps[i].length ≤ ci := own_capD own_i
   have hucap : ps.length ≤ uc := own_capD ho
   have fX := ho.frozenAt i
   have HD4 : Hid _ := D4
   clear D4 ho hin hxi hc4 hg4 hg4' hz1 HD cP fP
   have HOI : Hid (w4.ownsRow (w.heap.size + 1) 92 3 (.slice (some ⟨gi, 0, none⟩) ps[i].length ci) ps[i].length (cells3 ps[i])) := own_i
   clear own_i
   go_wp2_with fail
   go_at_call 86
   refine (l1Below g bs (ps[i].length : Int) (by omega) _ hl HD4.out.cur).mono ?_
   rintro e w5 ⟨zk, rfl, hk0, hk1, _, hc5, hg5⟩
   obtain ⟨k, rfl⟩ : ∃ k : Nat, zk = k := ⟨zk.toNat, by omega⟩
   have hk : k < ps[i].length := by have := hk1 (by omega); omega
   have hk' : (k : Int) < (ps[i].length : Int) := by omega
   have D5 := HD4.out.draw hgw hPw hc5 hg5
   have cX5 := hg5.cell cX (by simp; omega)
   have O5 : Hid (w5.ownsRow (w.heap.size + 1) 92 3 (.slice (some ⟨gi, 0, none⟩) ps[i].length ci) ps[i].length (cells3 ps[i])) := own_grown HOI.out hg5 (fun q hq e => by have := (HOI.out.lt q hq).1; have e := Option.some.inj e; omega)
   have HD5 : Hid _ := D5
   clear cX hk1 hk0 hz0 hc5 hg5 D5 HOI HD4 fX
   go_wp2_with fail
   go_at_call 86
   refine (l1Below g bs 5 (by omega) _ hl HD5.out.cur).mono ?_
   rintro e w6 ⟨zq, rfl, hq0, hq1, _, hc6, hg6⟩
   have hq5 := hq1 (by omega)
   have D6 := HD5.out.draw hgw hPw hc6 hg6
   have cX6 := hg6.cell cX5 (by simp; omega)
   have O6 : Hid (w6.ownsRow (w.heap.size + 1) 92 3 (.slice (some ⟨gi, 0, none⟩) ps[i].length ci) ps[i].length (cells3 ps[i])) := own_grown O5.out hg6 (fun q hq e => by have := (O5.out.lt q hq).1; have e := Option.some.inj e; omega)
   have HD6 : Hid _ := D6
   obtain ⟨cP, fP⟩ := oneCell D6.box
   obtain ⟨cR, fR⟩ := oneCell D6.res
   have zP6 : P < w6.heap.size := (Array.getElem?_eq_some_iff.1 D6.box).1
   have zu6 : gu < w6.heap.size := World.block_lt_of_cell? w6 _ cX6
   clear cX5 hc6 hg6 hq1 O5 HD5 D6
   have hcases : zq = 0 ∨ zq = 1 ∨ zq = 2 ∨ zq = 3 ∨ zq = 4 := by omega
   have fX6 : w6.frozen? ⟨gu, i, none⟩ = false := by
    obtain ⟨us, ho, _⟩ := HD6.out.rows
    exact ho.frozenAt i
   have hkc : (k : Int) ≤ (ci : Int) := by omega
   have huc : (ps.length : Int) ≤ (uc : Int) := by omega
   have PR6 : Hid (PrOk w6 (w.heap.size + 1) (.slice (some ⟨gu, 0, none⟩) (ps.map List.length).length uc) (ps.map List.length)) := by
    have := HD6.out.rows.prOk
    show PrOk _ _ _ _
    rw [List.length_map]
    exact this
   obtain ⟨CU, hCU⟩ : ∃ C : Array Value, w6.heap[gu]? = some (.cells C 81 (0, 0)) := by
    obtain ⟨us, ho, _⟩ := HD6.out.rows
    rcases ho.2 with ⟨e, _⟩ | ⟨q, cp, cur, e, _, hh, _⟩
    · cases e
    · cases e; exact ⟨cur, hh⟩
   have HCU : Hid _ := hCU
   have hall : ∀ n ∈ ps.map List.length, n ≤ 14 := fun n hn => by obtain ⟨p, hp, rfl⟩ := List.mem_map.1 hn; have := hp7 p hp; omega
   have HALL : Hid _ := hall
   clear hCU hall
   rcases hcases with rfl | rfl | rfl | rfl | rfl
   · go_wp2_with fail
     refine wp_region_held_drew (S := (fun w' => w'.cell? ⟨gu, i, none⟩ = some (.slice (some ⟨gi, 0, none⟩) ps[i].length ci))) (by kernel_rfl) cX6 (fun hHeld => ?_)
     refine wpAnyH_take (i := 0) (oi := ?oib0) (v := .pointer (some ⟨gu, i, none⟩)) ?hib0 (by kernel_rfl) (by kernel_rfl) (by kernel_rfl) ?hqb0 ?hyb0 hHeld ?hrb0
     case hib0 =>
      simp only [gA, gB, gC]
      rfl
     case hqb0 => exact fun _ _ _ h => h
     case hyb0 => exact Or.inl ⟨by kernel_rfl, fun w hSw => by go_simp⟩
     try simp only [Act.put, gD, gE, gF]
     refine wpAnyH_take (i := 1) (oi := ?oib1) (v := .pointer (some ⟨gu, i, none⟩)) ?hib1 (by kernel_rfl) (by kernel_rfl) (by kernel_rfl) ?hqb1 ?hyb1 hHeld ?hrb1
     case hib1 =>
      simp only [gA, gB, gC]
      rfl
     case hqb1 => exact fun _ _ _ h => h
     case hyb1 => exact Or.inl ⟨by kernel_rfl, fun w hSw => by go_simp⟩
     try simp only [Act.put, gD, gE, gF]
     refine wpAnyH_take (i := 2) (oi := ?oib2) (v := .pointer (some ⟨gu, i, none⟩)) ?hib2 (by kernel_rfl) (by kernel_rfl) (by kernel_rfl) ?hqb2 ?hyb2 hHeld ?hrb2
     case hib2 =>
      simp only [gA, gB, gC]
      rfl
     case hqb2 => exact fun _ _ _ h => h
     case hyb2 => exact Or.inl ⟨by kernel_rfl, fun w hSw => by go_simp⟩
     try simp only [Act.put, gD, gE, gF]
     refine wpAnyH_take (i := 3) (oi := ?oib3) (v := .slice (some ⟨gi, 0, none⟩) ps[i].length ci) ?hib3 (by kernel_rfl) (by kernel_rfl) (by kernel_rfl) ?hqb3 ?hyb3 hHeld ?hrb3
     case hib3 =>
      simp only [gA, gB, gC]
      rfl
     case hqb3 => exact fun _ _ _ h => h
     case hyb3 => exact Or.inl ⟨by kernel_rfl, fun w hSw => by go_simp⟩
     try simp only [Act.put, gD, gE, gF]
     refine wpAnyH_take (i := 4) (oi := ?oib4) (v := .int .i64 (k : Int)) ?hib4 (by kernel_rfl) (by kernel_rfl) (by kernel_rfl) ?hqb4 ?hyb4 hHeld ?hrb4
     case hib4 =>
      simp only [gA, gB, gC]
      rfl
     case hqb4 => exact fun _ _ _ h => h
     case hyb4 => exact Or.inl ⟨by kernel_rfl, fun w hSw => by go_simp⟩
     try simp only [Act.put, gD, gE, gF]
     refine wpAnyH_take (i := 5) (oi := ?oib5) (v := .pointer (some ⟨g, 0, none⟩)) ?hib5 (by kernel_rfl) (by kernel_rfl) (by kernel_rfl) ?hqb5 ?hyb5 hHeld ?hrb5
     case hib5 =>
      simp only [gA, gB, gC]
      rfl
     case hqb5 => exact fun _ _ _ h => h
     case hyb5 => exact Or.inl ⟨by kernel_rfl, fun w hSw => by go_simp⟩
     try simp only [Act.put, gD, gE, gF]
     refine wpAnyH_take (i := 7) (oi := ?oib7) (v := .pointer (some ⟨g, 0, none⟩)) ?hib7 (by kernel_rfl) (by kernel_rfl) (by kernel_rfl) ?hqb7 ?hyb7 hHeld ?hrb7
     case hib7 =>
      simp only [gA, gB, gC]
      rfl
     case hqb7 => exact fun _ _ _ h => h
     case hyb7 => exact Or.inl ⟨by kernel_rfl, fun w hSw => by go_simp⟩
     try simp only [Act.put, gD, gE, gF]
     refine wpAnyH_take (i := 9) (oi := ?oib9) (v := .pointer (some ⟨g, 0, none⟩)) ?hib9 (by kernel_rfl) (by kernel_rfl) (by kernel_rfl) ?hqb9 ?hyb9 hHeld ?hrb9
     case hib9 =>
      simp only [gA, gB, gC]
      rfl
     case hqb9 => exact fun _ _ _ h => h
     case hyb9 => exact Or.inl ⟨by kernel_rfl, fun w hSw => by go_simp⟩
     try simp only [Act.put, gD, gE, gF]
     refine wpAnyH_ready (rs := [6]) (by kernel_rfl) (by simp) ?_
     refine AllReadyH.cons (o := ?oob6) ?hob6 (fun K hK => ?_) AllReadyH.nil
     case hob6 =>
      simp only [gA, gB, gC]
      rfl
     go_simp
     go_at_call 87
     refine (l1From g bs (0) (11) (by omega) (by omega) (by omega) _ hl (cur_below HD6.out.cur (by go_grown))).mono ?_
     rintro e w7 ⟨za, rfl, _, _, hc7, hgq⟩
     have hg7 : w6.grownBy w7 (some g) := grown_trans (grown_of_below (by go_grown) (some g)) hgq
     have HD7 : Hid _ := HD6.out.draw hgw hPw hc7 hg7
     have cX7 := hg7.cell cX6 (by simp; omega)
     have O7 : Hid (w7.ownsRow (w.heap.size + 1) 92 3 (.slice (some ⟨gi, 0, none⟩) ps[i].length ci) ps[i].length (cells3 ps[i])) := own_grown O6.out hg7 (fun q hq e => by have := (O6.out.lt q hq).1; have e := Option.some.inj e; omega)
     clear hc7 hg7
     go_wp2_with fail
     refine hK.out _ _ cX7 (fun hHeld => ?_)
     clear hK K
     try simp only [Act.put, gD, gE, gF]
     refine wpAnyH_ready (rs := [8]) (by kernel_rfl) (by simp) ?_
     refine AllReadyH.cons (o := ?oob8) ?hob8 (fun K hK => ?_) AllReadyH.nil
     case hob8 =>
      simp only [gA, gB, gC]
      rfl
     go_simp
     go_at_call 87
     refine (l1From g bs (-1) (8) (by omega) (by omega) (by omega) _ hl HD7.out.cur).mono ?_
     rintro e w8 ⟨zb, rfl, _, _, hc8, hg8⟩
     have HD8 : Hid _ := HD7.out.draw hgw hPw hc8 hg8
     have cX8 := hg8.cell cX7 (by simp; omega)
     have O8 : Hid (w8.ownsRow (w.heap.size + 1) 92 3 (.slice (some ⟨gi, 0, none⟩) ps[i].length ci) ps[i].length (cells3 ps[i])) := own_grown O7.out hg8 (fun q hq e => by have := (O7.out.lt q hq).1; have e := Option.some.inj e; omega)
     clear hc8 hg8
     go_wp2_with fail
     refine hK.out _ _ cX8 (fun hHeld => ?_)
     clear hK K
     try simp only [Act.put, gD, gE, gF]
     refine wpAnyH_ready (rs := [10]) (by kernel_rfl) (by simp) ?_
     refine AllReadyH.cons (o := ?oob10) ?hob10 (fun K hK => ?_) AllReadyH.nil
     case hob10 =>
      simp only [gA, gB, gC]
      rfl
     go_simp
     go_at_call 87
     refine (l1From g bs (-1) (14) (by omega) (by omega) (by omega) _ hl HD8.out.cur).mono ?_
     rintro e w9 ⟨zc, rfl, _, _, hc9, hg9⟩
     have HD9 : Hid _ := HD8.out.draw hgw hPw hc9 hg9
     have cX9 := hg9.cell cX8 (by simp; omega)
     have O9 : Hid (w9.ownsRow (w.heap.size + 1) 92 3 (.slice (some ⟨gi, 0, none⟩) ps[i].length ci) ps[i].length (cells3 ps[i])) := own_grown O8.out hg9 (fun q hq e => by have := (O8.out.lt q hq).1; have e := Option.some.inj e; omega)
     clear hc9 hg9
     go_wp2_with fail
     refine hK.out _ _ cX9 (fun hHeld => ?_)
     clear hK K
     try simp only [Act.put, gD, gE, gF]
     refine wpAnyH_take (i := 11) (oi := ?oib11) (v := .agg #[.int .i64 za, .int .i64 zb, .int .i64 zc]) ?hib11 (by kernel_rfl) (by kernel_rfl) (by kernel_rfl) ?hqb11 ?hyb11 hHeld ?hrb11
     case hib11 =>
      simp only [gA, gB, gC]
      rfl
     case hqb11 => exact fun _ _ _ h => h
     case hyb11 => exact Or.inl ⟨by kernel_rfl, fun w hSw => by go_simp⟩
     try simp only [Act.put, gD, gE, gF]
     refine wpAnyH_take (i := 12) (oi := ?oib12) (v := .pointer (some ⟨gi, k * 3, none⟩)) ?hib12 (by kernel_rfl) (by kernel_rfl) (by kernel_rfl) ?hqb12 ?hyb12 hHeld ?hrb12
     case hib12 =>
      simp only [gA, gB, gC]
      rfl
     case hqb12 => exact fun _ _ _ h => h
     case hyb12 => exact Or.inl ⟨by kernel_rfl, fun w hSw => by go_simp⟩
     try simp only [Act.put, gD, gE, gF]
     refine wpAnyH_ready (rs := [13]) (by kernel_rfl) (by simp) ?_
     refine AllReadyH.cons (o := ?oob13) ?hob13 (fun K hK => ?_) AllReadyH.nil
     case hob13 =>
      simp only [gA, gB, gC]
      rfl
     have hSB : SB w9 gi ps[i].length := SlOk.sb (own_SlOk O9.out)
     obtain ⟨y0, cy0, fy0⟩ := hSB.cell (i := k * 3) (by omega)
     have hS1 := hSB.put (k * 3) za
     obtain ⟨y1, cy1, fy1⟩ := hS1.cell (i := k * 3 + 1) (by omega)
     have hS2 := hS1.put (k * 3 + 1) zb
     obtain ⟨y2, cy2, fy2⟩ := hS2.cell (i := k * 3 + 2) (by omega)
     have PR9 : Hid (PrOk w9 (w.heap.size + 1) (.slice (some ⟨gu, 0, none⟩) ps.length uc) (ps.map List.length)) := HD9.out.rows.prOk
     have hne := O9.out.neGu HD9.out.rows
     have zu9 : gu < w9.heap.size := World.block_lt_of_cell? w9 _ cX9
     have Q1 := PR9.out.putInt (o := k * 3) (z := za) hne zu9
     have Q2 := Q1.putInt (o := k * 3 + 1) (z := zb) hne (by simpa using zu9)
     have Q3 : Hid _ := Q2.putInt (o := k * 3 + 2) (z := zc) hne (by simpa using zu9)
     have hgiP : gi ≠ P := O9.out.neBox HD9.out.box
     have g3 := grown_set3 w9 gi (k * 3) (k * 3 + 1) (k * 3 + 2) (.int .i64 za) (.int .i64 zb) (.int .i64 zc)
     clear hSB hS1 hS2 Q1 Q2 PR9
     go_wp2_with fail
     refine hK.out _ _ (g3.cell cX9 (fun e => hne (by simpa using e))) (fun hHeld => ?_)
     clear hK K
     try simp only [Act.put, gD, gE, gF]
     refine wpAnyH_done (by kernel_rfl) ?_ _
     obtain ⟨W, hW⟩ : ∃ z, (((w9.setCell ⟨gi, k * 3, none⟩ (.int .i64 za)).setCell ⟨gi, k * 3 + 1, none⟩ (.int .i64 zb)).setCell ⟨gi, k * 3 + 2, none⟩ (.int .i64 zc)) = z := ⟨_, rfl⟩
     rw [hW] at g3 Q3
     have hP9 := (g3.block P (Array.getElem?_eq_some_iff.1 HD9.out.box).1 (fun e => hgiP (Option.some.inj e).symm)).trans HD9.out.box
     have hR9 := (g3.block w.heap.size (Array.getElem?_eq_some_iff.1 HD9.out.res).1 (fun e => by have e := Option.some.inj e; omega)).trans HD9.out.res
     obtain ⟨c9P, _⟩ := oneCell hP9
     obtain ⟨c9R, f9R⟩ := oneCell hR9
     have CU9 : Hid (Cur W g bs) := by rw [← hW]; exact curSet (curSet (curSet HD9.out.cur (by omega) _) (by omega) _) (by omega) _
     have GR9 : Hid (w.grownBy W (some g)) := by rw [← hW]; exact grownSet (grownSet (grownSet HD9.out.gr (by omega) _) (by omega) _) (by omega) _
     have R10 := heap_setCell_same W w.heap.size 0 _ 30 (.slice (some ⟨gu, 0, none⟩) ps.length uc) hR9
     simp at R10
     obtain ⟨d0, _⟩ := oneCell R10
     simp only [hW]
     clear hW g3 hP9 hR9 R10 cy0 cy1 cy2 fy0 fy1 fy2 hHeld
     go_wp2_with fail
     refine bodyPost_ret (v := .agg #[.slice (some ⟨gu, 0, none⟩) ps.length uc]) (by simp [results, Try.results61, go_sem, d0]) rfl ?_
     obtain ⟨h1, h2, h3⟩ := DA.ends hgw Q3.out CU9.out GR9.out
     exact ⟨_, _, rfl, by simp; omega, HALL.out, h1, h2, h3⟩
   · have e1 : P ≠ gu := by omega
     have e2 : w.heap.size ≠ gu := by omega
     have g7 := grown_setCell7 w6 gu i (.slice (some ⟨gi, 0, none⟩) k ci)
     have B7P := blockGrown HD6.out.box g7
     have c7P : (w6.setCell ⟨gu, i, none⟩ (.slice (some ⟨gi, 0, none⟩) k ci)).cell? ⟨P, 0, none⟩ = some (.slice (some ⟨gu, 0, none⟩) ps.length uc) := g7.cell cP (fun e => e1 (by simpa using e))
     have c7R : (w6.setCell ⟨gu, i, none⟩ (.slice (some ⟨gi, 0, none⟩) k ci)).cell? ⟨w.heap.size, 0, none⟩ = some (.slice none 0 0) := g7.cell cR (fun e => e2 (by simpa using e))
     have hR7 : (w6.setCell ⟨gu, i, none⟩ (.slice (some ⟨gi, 0, none⟩) k ci)).heap[w.heap.size]? = some (.cells #[.slice none 0 0] 30 (0, 0)) := (g7.block _ (by omega) (fun e => e2 (Option.some.inj e))).trans HD6.out.res
     obtain ⟨_, f7R⟩ := oneCell hR7
     have R10 := heap_setCell_same _ w.heap.size 0 _ 30 (.slice (some ⟨gu, 0, none⟩) ps.length uc) hR7
     simp at R10
     obtain ⟨d0, _⟩ := oneCell R10
     have PR7 : PrOk (w6.setCell ⟨gu, i, none⟩ (.slice (some ⟨gi, 0, none⟩) k ci)) (w.heap.size + 1) (.slice (some ⟨gu, 0, none⟩) (ps.map List.length).length uc) ((ps.map List.length).set i k) := by
      refine PR6.out.put HCU.out ?_ (by simpa using hi)
      rcases own_SlOk O6.out with ⟨e, _⟩ | ⟨q, o, cp, m, e, hb, hs, hle⟩
      · cases e
      · injection e with e1 _ e3
        injection e1 with e1
        injection e1 with e1 e4
        subst e1
        exact .inr ⟨gi, o, ci, m, by rw [← e4], hb, hs, by omega⟩
     have HPR7 : Hid _ := PR7
     have CU7 : Hid _ := curSet (o := i) HD6.out.cur (show g < gu by omega) (.slice (some ⟨gi, 0, none⟩) k ci)
     have GR7 : Hid _ := grownSet (o := i) HD6.out.gr (show w.heap.size ≤ gu by omega) (.slice (some ⟨gi, 0, none⟩) k ci)
     clear g7 B7P hR7 R10 PR7
     go_wp2_with fail
     refine bodyPost_ret (v := .agg #[.slice (some ⟨gu, 0, none⟩) ps.length uc]) (by simp [results, Try.results61, go_sem, d0]) rfl ?_
     have hLL : (ps.map List.length).length = ps.length := by simp
     rw [hLL] at HPR7
     obtain ⟨h1, h2, h3⟩ := DA.ends hgw HPR7.out CU7.out GR7.out
     refine ⟨_, _, rfl, by simp; omega, fun n hn => ?_, h1, h2, h3⟩
     rcases List.mem_or_eq_of_mem_set hn with hn | rfl
     · exact HALL.out n hn
     · omega
   · have hm13 : ∀ p ∈ ps, 1 ≤ p.length ∧ p.length ≤ 13 := fun p hp => by have := hp7 p hp; omega
     go_wp2_with fail
     go_loopw [60] (fun _ wr => ∃ (qs : List (List Stm)), qs.length = ps.length ∧ (∀ p ∈ qs, 1 ≤ p.length ∧ p.length ≤ 13) ∧ DA w g bs P (.slice (some ⟨gu, 0, none⟩) qs.length uc) qs wr) (fun _ wr => roomAt wr gu i)
     case atStart => exact ⟨ps, rfl, hm13, HD6.out⟩
     case round =>
      obtain ⟨qs, hql, hq7, Dr⟩ := hrel
      obtain ⟨us', ho', hin'⟩ := id Dr.rows
      have hul' : us'.length = qs.length := by simpa using ho'.1
      have hiq : i < qs.length := by omega
      obtain ⟨p, hp⟩ : ∃ p, qs[i]? = some p := ⟨_, List.getElem?_eq_getElem hiq⟩
      obtain ⟨hpl, hpu⟩ := hq7 p (List.mem_of_getElem? hp)
      obtain ⟨x, hx⟩ : ∃ x, us'[i]? = some x := ⟨_, List.getElem?_eq_getElem (by omega)⟩
      have own_x := hin' i x p hx hp
      obtain ⟨gx, cx, rfl, hgx, hcx⟩ := own_formD own_x hpl
      have cXr : wr.cell? ⟨gu, i, none⟩ = some (.slice (some ⟨gx, 0, none⟩) p.length cx) := (ho'.cellAt i (by omega)).trans hx
      have OX : Hid (wr.ownsRow (w.heap.size + 1) 92 3 (.slice (some ⟨gx, 0, none⟩) p.length cx) p.length (cells3 p)) := own_x
      have HD : Hid _ := Dr
      have hcx' : (p.length : Int) ≤ (cx : Int) := by omega
      have HQL : Hid _ := hql
      clear Dr ho' hin' own_x hx cP fP cR fR cX6 fX6 hql hul'
      go_wp2_with fail
      refine wp_region_held_drew (S := (fun w' => w'.cell? ⟨gu, i, none⟩ = some (.slice (some ⟨gx, 0, none⟩) p.length cx))) (by kernel_rfl) cXr (fun hHeld => ?_)
      refine wpAnyH_take (i := 0) (oi := ?oid0) (v := .pointer (some ⟨gu, i, none⟩)) ?hid0 (by kernel_rfl) (by kernel_rfl) (by kernel_rfl) ?hqd0 ?hyd0 hHeld ?hrd0
      case hid0 =>
       simp only [gA, gB, gC]
       rfl
      case hqd0 => exact fun _ _ _ h => h
      case hyd0 => exact Or.inl ⟨by kernel_rfl, fun w hSw => by go_simp⟩
      try simp only [Act.put, gD, gE, gF]
      refine wpAnyH_take (i := 1) (oi := ?oid1) (v := .pointer (some ⟨gu, i, none⟩)) ?hid1 (by kernel_rfl) (by kernel_rfl) (by kernel_rfl) ?hqd1 ?hyd1 hHeld ?hrd1
      case hid1 =>
       simp only [gA, gB, gC]
       rfl
      case hqd1 => exact fun _ _ _ h => h
      case hyd1 => exact Or.inl ⟨by kernel_rfl, fun w hSw => by go_simp⟩
      try simp only [Act.put, gD, gE, gF]
      refine wpAnyH_take (i := 2) (oi := ?oid2) (v := .pointer (some ⟨gu, i, none⟩)) ?hid2 (by kernel_rfl) (by kernel_rfl) (by kernel_rfl) ?hqd2 ?hyd2 hHeld ?hrd2
      case hid2 =>
       simp only [gA, gB, gC]
       rfl
      case hqd2 => exact fun _ _ _ h => h
      case hyd2 => exact Or.inl ⟨by kernel_rfl, fun w hSw => by go_simp⟩
      try simp only [Act.put, gD, gE, gF]
      refine wpAnyH_take (i := 3) (oi := ?oid3) (v := .slice (some ⟨gx, 0, none⟩) p.length cx) ?hid3 (by kernel_rfl) (by kernel_rfl) (by kernel_rfl) ?hqd3 ?hyd3 hHeld ?hrd3
      case hid3 =>
       simp only [gA, gB, gC]
       rfl
      case hqd3 => exact fun _ _ _ h => h
      case hyd3 => exact Or.inl ⟨by kernel_rfl, fun w hSw => by go_simp⟩
      try simp only [Act.put, gD, gE, gF]
      refine wpAnyH_take (i := 4) (oi := ?oid4) (v := .int .i64 (p.length : Int)) ?hid4 (by kernel_rfl) (by kernel_rfl) (by kernel_rfl) ?hqd4 ?hyd4 hHeld ?hrd4
      case hid4 =>
       simp only [gA, gB, gC]
       rfl
      case hqd4 => exact fun _ _ _ h => h
      case hyd4 => exact Or.inl ⟨by kernel_rfl, fun w hSw => by go_simp⟩
      try simp only [Act.put, gD, gE, gF]
      refine wpAnyH_take (i := 5) (oi := ?oid5) (v := .pointer (some ⟨g, 0, none⟩)) ?hid5 (by kernel_rfl) (by kernel_rfl) (by kernel_rfl) ?hqd5 ?hyd5 hHeld ?hrd5
      case hid5 =>
       simp only [gA, gB, gC]
       rfl
      case hqd5 => exact fun _ _ _ h => h
      case hyd5 => exact Or.inl ⟨by kernel_rfl, fun w hSw => by go_simp⟩
      try simp only [Act.put, gD, gE, gF]
      refine wpAnyH_ready (rs := [6]) (by kernel_rfl) (by simp) ?_
      refine AllReadyH.cons (o := ?ood6) ?hod6 (fun K hK => ?_) AllReadyH.nil
      case hod6 =>
       simp only [gA, gB, gC]
       rfl
      go_simp
      go_at_call 86
      refine (l1Below g bs 2 (by omega) _ hl (cur_below HD.out.cur (by go_grown))).mono ?_
      rintro e wq ⟨zi, rfl, hz0, hz1, _, hcq, hgq'⟩
      have hgq : wr.grownBy wq (some g) := grown_trans (grown_of_below (by go_grown) (some g)) hgq'
      have hz2 := hz1 (by omega)
      have DQ : Hid _ := HD.out.draw hgw hPw hcq hgq
      have cXq := hgq.cell cXr (by simp; omega)
      have OQ : Hid (wq.ownsRow (w.heap.size + 1) 92 3 (.slice (some ⟨gx, 0, none⟩) p.length cx) p.length (cells3 p)) := own_grown OX.out hgq (fun q hq e => by have := (OX.out.lt q hq).1; have e := Option.some.inj e; omega)
      have hw12 : IntKind.i64.wrap (12 + zi) = 12 + zi := IntWalk.i64_in _ (by omega)
      clear hcq hgq hgq' hz1
      go_wp2_with fail
      refine hK.out _ _ cXq (fun hHeld => ?_)
      clear hK K
      try simp only [Act.put, gD, gE, gF]
      refine wpAnyH_take (i := 7) (oi := ?oid7) (v := .int .i64 (12 + zi)) ?hid7 (by kernel_rfl) (by kernel_rfl) (by kernel_rfl) ?hqd7 ?hyd7 hHeld ?hrd7
      case hid7 =>
       simp only [gA, gB, gC]
       rfl
      case hqd7 => exact fun _ _ _ h => h
      case hyd7 => exact Or.inl ⟨by kernel_rfl, fun w hSw => by go_simp⟩
      try simp only [Act.put, gD, gE, gF]
      refine wpAnyH_take (i := 8) (oi := ?oid8) (v := .bool (decide ((p.length : Int) < 12 + zi))) ?hid8 (by kernel_rfl) (by kernel_rfl) (by kernel_rfl) ?hqd8 ?hyd8 hHeld ?hrd8
      case hid8 =>
       simp only [gA, gB, gC]
       rfl
      case hqd8 => exact fun _ _ _ h => h
      case hyd8 => exact Or.inl ⟨by kernel_rfl, fun w hSw => by go_simp⟩
      try simp only [Act.put, gD, gE, gF]
      refine wpAnyH_done (by kernel_rfl) ?_ _
      by_cases hlt : (p.length : Int) < 12 + zi
      · have hdec : decide ((p.length : Int) < 12 + zi) = true := by simpa using hlt
        simp only [hdec]
        obtain ⟨i0, hinf, hs0, hs1, hs2⟩ := info_parts infoStm
        have zq : w.heap.size + 1 ≤ wq.heap.size := by have := (OQ.out.lt gx rfl).2; omega
        have cXA : (wq.alloc (.cells #[.int .i64 1, .int .i64 0, .int .i64 0] 92)).cell? ⟨gu, i, none⟩ = some (.slice (some ⟨gx, 0, none⟩) p.length cx) := (World.grownBy_alloc wq _ (some g)).cell cXq (by simp; omega)
        have hnew := heap_alloc_new wq (stm3 ⟨1, 0, 0⟩)
        have OA : Hid ((wq.alloc (stm3 ⟨1, 0, 0⟩)).ownsRow (w.heap.size + 1) 92 3 (.slice (some ⟨wq.heap.size, 0, none⟩) 1 1) 1 (cells3 [⟨1, 0, 0⟩])) := own_one hnew zq
        have OXA : Hid ((wq.alloc (stm3 ⟨1, 0, 0⟩)).ownsRow (w.heap.size + 1) 92 3 (.slice (some ⟨gx, 0, none⟩) p.length cx) p.length (cells3 p)) := OQ.out.alloc _
        have HNW : Hid _ := own_news OXA.out
        have hSle : Hid (w.heap.size + 1 ≤ (wq.alloc (stm3 ⟨1, 0, 0⟩)).heap.size) := (by simp; omega : w.heap.size + 1 ≤ (wq.alloc (stm3 ⟨1, 0, 0⟩)).heap.size)
        have BA : Hid (Below wq.heap.size wq (wq.alloc (stm3 ⟨1, 0, 0⟩))) := (by go_grown : Below wq.heap.size wq (wq.alloc (stm3 ⟨1, 0, 0⟩)))
        have hPgu : P ≠ gu := by omega
        clear hnew
        go_wp2_with (first
         | (at_builtin; refine wpList_append_own _ rfl (.tmp 66) (.tmp 70) 79 rfl (w.heap.size + 1) 92 i0 (.agg #[.int .i64 0, .int .i64 0, .int .i64 0]) 3 24 Try.underlying79 hinf hs0 hs1 hs2 rfl (by decide) _ 1 (cells3 [⟨1, 0, 0⟩]) rfl OA.out ⟨gx, 0, none⟩ p.length cx (cells3 p) rfl (cells3_length p) HNW.out (cells3_oneD p) (by unfold maxLen; omega) (by omega) hSle.out ?_; intro v7 w7 own7 grow7 _; obtain ⟨g7, c7, rfl, _, _⟩ := own_formD own7 (by omega); have O7 : Hid _ := own_cons own7; have b7 : Hid (Below wq.heap.size wq w7) := below_app3 BA.out grow7 (Nat.le_refl _); have c7X := (grown_of_below b7.out (some g)).cell cXq (by simp; omega); have f7X := (DQ.out.draw hgw hPw (cur_below DQ.out.cur b7.out) (grown_of_below b7.out (some g))).frozen i; clear own7 grow7)
         | go_in)
        have DN : Hid _ := DQ.out.pre hgw hPw hiq b7.out O7.out hPgu hgu
        refine ⟨⟨qs.set i (⟨1, 0, 0⟩ :: p), by rw [List.length_set]; exact HQL.out, fun q hq => ?_, by rw [List.length_set]; exact DN.out⟩, ?_⟩
        · rcases List.mem_or_eq_of_mem_set hq with hq | rfl
          · exact hq7 q hq
          · simp; omega
        · unfold roomAt; rw [World.cell?_setCell_same _ _ _ c7X, cXr]; simp; omega
      · have hdec : decide ((p.length : Int) < 12 + zi) = false := by simpa using hlt
        simp only [hdec]
        obtain ⟨cP, fP⟩ := oneCell DQ.out.box
        obtain ⟨cR, fR⟩ := oneCell DQ.out.res
        have R10 := heap_setCell_same wq w.heap.size 0 _ 30 (.slice (some ⟨gu, 0, none⟩) qs.length uc) DQ.out.res
        simp at R10
        obtain ⟨d0, _⟩ := oneCell R10
        clear R10
        go_wp2_with fail
        refine bodyPost_ret (v := .agg #[.slice (some ⟨gu, 0, none⟩) qs.length uc]) (by simp [results, Try.results61, go_sem, d0]) rfl ?_
        obtain ⟨h1, h2, h3⟩ := DA.ends hgw DQ.out.rows.prOk DQ.out.cur DQ.out.gr
        exact ⟨_, rfl, _, by have := HQL.out; simp; omega, fun n hn => by obtain ⟨p, hp, rfl⟩ := List.mem_map.1 hn; have := hq7 p hp; omega, h1, h2, h3⟩
   · go_wp2_with fail
     go_loopw [76] (fun _ wr => ∃ (u : Value) (qs : List (List Stm)), 1 ≤ qs.length ∧ qs.length ≤ 5 ∧ (∀ p ∈ qs, 1 ≤ p.length ∧ p.length ≤ 7) ∧ DA w g bs P u qs wr) (fun _ wr => wantAt wr P)
     case atStart => exact ⟨_, ps, hp1, by omega, hp7, HD6.out⟩
     case round =>
      obtain ⟨u, qs, hq1, hq5', hq7, Dr⟩ := hrel
      obtain ⟨gv, vc, rfl, hgv, hvc, CV, hCV⟩ := rows2_form Dr.rows hq1
      clear cP fP cR fR
      obtain ⟨cP, fP⟩ := oneCell Dr.box
      obtain ⟨cR, fR⟩ := oneCell Dr.res
      obtain ⟨us', ho', hin'⟩ := id Dr.rows
      have hul' : us'.length = qs.length := by simpa using ho'.1
      obtain ⟨y, hy⟩ : ∃ y, us'[0]? = some y := ⟨us'[0]'(by omega), by simp [hul']⟩
      have own_y := hin' 0 y qs[0] hy (by simp)
      obtain ⟨ya, ym, yc, rfl⟩ := ownSlice own_y
      have cY : wr.cell? ⟨gv, 0, none⟩ = some (.slice ya ym yc) := (ho'.cellAt 0 (by omega)).trans hy
      have HO : Hid (wr.ownsRow (w.heap.size + 1) 81 1 (.slice (some ⟨gv, 0, none⟩) qs.length vc) qs.length us') := ho'
      have HIN : Hid _ := hin'
      have HY : Hid (wr.ownsRow (w.heap.size + 1) 92 3 (.slice ya ym yc) (qs[0]).length (cells3 qs[0])) := own_y
      have HD : Hid _ := Dr
      clear Dr ho' hin' own_y
      have hvc' : (qs.length : Int) ≤ (vc : Int) := by omega
      have hqne : qs ≠ [] := by rintro rfl; simp at hq1
      have hPv : P ≠ gv := fun e => by
       have hb := HD.out.box
       rw [e, hCV] at hb
       injection hb with hb
       injection hb with _ hb
       revert hb
       decide
      obtain ⟨i0, hinf, hz0, hz1, hz2⟩ := info_parts infoPrc
      have hmx : qs.length + 1 ≤ maxLen := by unfold maxLen; omega
      have hmb : (qs.length + 1) * 24 ≤ 140737488355328 := by omega
      have hq0' : (0 : Int) < (qs.length : Int) := by omega
      by_cases hlt : qs.length < 5
      · have hlt' : (qs.length : Int) < 5 := by omega
        go_wp2_with fail
        refine wp_region_held_drew (S := fun _ => True) (by kernel_rfl) trivial (fun hHeld => ?_)
        refine wpAnyH_take (i := 0) (oi := ?oic0) (v := .pointer (some ⟨P, 0, none⟩)) ?hic0 (by kernel_rfl) (by kernel_rfl) (by kernel_rfl) ?hqc0 ?hyc0 hHeld ?hrc0
        case hic0 =>
         simp only [gA, gB, gC]
         rfl
        case hqc0 => exact fun _ _ _ h => h
        case hyc0 => exact Or.inl ⟨by kernel_rfl, fun w hSw => by go_simp⟩
        try simp only [Act.put, gD, gE, gF]
        refine wpAnyH_take (i := 2) (oi := ?oic2) (v := .pointer (some ⟨P, 0, none⟩)) ?hic2 (by kernel_rfl) (by kernel_rfl) (by kernel_rfl) ?hqc2 ?hyc2 hHeld ?hrc2
        case hic2 =>
         simp only [gA, gB, gC]
         rfl
        case hqc2 => exact fun _ _ _ h => h
        case hyc2 => exact Or.inl ⟨by kernel_rfl, fun w hSw => by go_simp⟩
        try simp only [Act.put, gD, gE, gF]
        refine wpAnyH_ready (rs := [1, 3]) (by kernel_rfl) (by simp) ?_
        refine (AllReadyH.cons (o := ?ooc1) ?hoc1 (fun K hK => ?hkc1) (AllReadyH.cons (o := ?ooc3) ?hoc3 (fun K hK => ?hkc3) AllReadyH.nil))
        case hoc1 =>
         simp only [gA, gB, gC]
         rfl
        case hoc3 =>
         simp only [gA, gB, gC]
         rfl
        case hkc1 =>
         go_simp
         try go_wp2_with fail
         refine hK.out _ _ trivial (fun hHeld => ?_)
         clear hK K
         try simp only [Act.put, gD, gE, gF]
         refine wpAnyH_ready (rs := [3]) (by kernel_rfl) (by simp) ?_
         refine (AllReadyH.cons (o := ?ooca3) ?hoca3 (fun K hK => ?hkca3) AllReadyH.nil)
         case hoca3 =>
          simp only [gA, gB, gC]
          rfl
         case hkca3 =>
          go_simp
          try go_wp2_with fail
          refine hK.out _ _ trivial (fun hHeld => ?_)
          clear hK K
          try simp only [Act.put, gD, gE, gF]
          refine wpAnyH_take (i := 4) (oi := ?oica4) (v := .pointer (some ⟨gv, 0, none⟩)) ?hica4 (by kernel_rfl) (by kernel_rfl) (by kernel_rfl) ?hqca4 ?hyca4 hHeld ?hrca4
          case hica4 =>
           simp only [gA, gB, gC]
           rfl
          case hqca4 => exact fun _ _ _ h => h
          case hyca4 => exact Or.inl ⟨by kernel_rfl, fun w hSw => by go_simp <;> exact fun h => absurd h hqne⟩
          try simp only [Act.put, gD, gE, gF]
          refine wpAnyH_ready (rs := [5]) (by kernel_rfl) (by simp) ?_
          refine (AllReadyH.cons (o := ?ooca5) ?hoca5 (fun K hK => ?hkca5) AllReadyH.nil)
          case hoca5 =>
           simp only [gA, gB, gC]
           rfl
          case hkca5 =>
           go_simp
           try go_wp2_with fail
           refine hK.out _ _ trivial (fun hHeld => ?_)
           clear hK K
           try simp only [Act.put, gD, gE, gF]
           refine wpAnyH_ready (rs := [6]) (by kernel_rfl) (by simp) ?_
           refine (AllReadyH.cons (o := ?ooca6) ?hoca6 (fun K hK => ?hkca6) AllReadyH.nil)
           case hoca6 =>
            simp only [gA, gB, gC]
            rfl
           case hkca6 =>
            go_simp
            try go_wp2_with fail
            obtain ⟨w7, hw7⟩ : ∃ z, (wr.alloc (.cells #[.slice ya ym yc] 81)).drew = z := ⟨_, rfl⟩
            obtain ⟨H7, hH7⟩ : ∃ z, wr.heap.size = z := ⟨_, rfl⟩
            have b7 : Below wr.heap.size wr w7 := by rw [← hw7]; go_grown
            have HBK : Hid (w7.heap[H7]? = some (.cells #[.slice ya ym yc] 81 (0, 0))) := by rw [← hw7, ← hH7]; exact heap_alloc_new wr _
            have D7 : Hid _ := HD.out.draw hgw hPw (cur_below HD.out.cur b7) (grown_of_below b7 (some g))
            have O7 : Hid (w7.ownsRow (w.heap.size + 1) 81 1 (.slice (some ⟨gv, 0, none⟩) qs.length vc) qs.length us') := own_kept HO.out b7
            have HI7 : Hid (∀ (j : Nat) (x : Value) (p : List Stm), us'[j]? = some x → qs[j]? = some p → w7.ownsRow (w.heap.size + 1) 92 3 x p.length (cells3 p)) := fun j x p h1 h2 => own_kept (HIN.out j x p h1 h2) b7
            have Y7 : Hid (w7.ownsRow (w.heap.size + 1) 92 3 (.slice ya ym yc) (qs[0]).length (cells3 qs[0])) := own_kept HY.out b7
            have hm7 : w.heap.size + 1 ≤ w7.heap.size := by have := (O7.out.lt gv rfl).2; omega
            have c7P : w7.cell? ⟨P, 0, none⟩ = some (.slice (some ⟨gv, 0, none⟩) qs.length vc) := (oneCell D7.out.box).1
            rw [hw7, hH7]
            clear hw7 hH7 b7
            refine hK.out _ _ trivial (fun hHeld => ?_)
            clear hK K
            try simp only [Act.put, gD, gE, gF]
            refine wpAnyH_ready (rs := [7]) (by kernel_rfl) (by simp) ?_
            refine (AllReadyH.cons (o := ?ooca7) ?hoca7 (fun K hK => ?hkca7) AllReadyH.nil)
            case hoca7 =>
             simp only [gA, gB, gC]
             rfl
            case hkca7 =>
             have hone : ∀ x ∈ [Value.slice ya ym yc], x.oneCell' = true := by intro x hx; simp at hx; subst hx; rfl
             refine step_append_lies _ rfl (.tmp 81) (.tmp 86) 28 rfl (w.heap.size + 1) 81 i0 (.agg #[.slice none 0 0]) 1 24 Try.underlying28 hinf hz0 hz1 hz2 rfl (by decide) _ qs.length us' rfl O7.out ⟨H7, 0, none⟩ 1 1 [.slice ya ym yc] rfl rfl (World.news_of_block HBK.out) hone (by omega) hmx hmb hm7 _ rfl ?_
             intro g8 c8 w8 own8 grow8 _ _
             have r8 : Hid _ := rows2_app O7.out HI7.out Y7.out grow8 own8
             have E8 : Hid _ := D7.out.apps hgw hPw hPv hgv grow8
             refine hK.out _ _ trivial (fun hHeld => ?_)
             clear hK K
             try simp only [Act.put, gD, gE, gF]
             refine wpAnyH_take (i := 8) (oi := ?oica8) (v := .pointer (some ⟨P, 0, none⟩)) ?hica8 (by kernel_rfl) (by kernel_rfl) (by kernel_rfl) ?hqca8 ?hyca8 hHeld ?hrca8
             case hica8 =>
              simp only [gA, gB, gC]
              rfl
             case hqca8 => exact fun _ _ _ h => h
             case hyca8 => exact Or.inl ⟨by kernel_rfl, fun w hSw => by go_simp⟩
             try simp only [Act.put, gD, gE, gF]
             refine wpAnyH_ready (rs := [9]) (by kernel_rfl) (by simp) ?_
             refine (AllReadyH.cons (o := ?ooca9) ?hoca9 (fun K hK => ?hkca9) AllReadyH.nil)
             case hoca9 =>
              simp only [gA, gB, gC]
              rfl
             case hkca9 =>
              obtain ⟨c9P, f9P⟩ := oneCell E8.out.1
              go_simp
              try go_wp2_with fail
              refine hK.out _ _ trivial (fun hHeld => ?_)
              clear hK K
              try simp only [Act.put, gD, gE, gF]
              refine wpAnyH_done (by kernel_rfl) ?_ _
              have DN : Hid _ := DA.stored hgw hPw r8.out E8.out
              go_wp2_with fail
              refine ⟨⟨_, qs ++ [qs[0]], by simp, by simp; omega, fun p hp => ?_, DN.out⟩, ?_⟩
              · rcases List.mem_append.1 hp with hp | hp
                · exact hq7 p hp
                · simp at hp; subst hp; exact hq7 _ (List.getElem_mem _)
              · unfold wantAt; rw [(oneCell DN.out.box).1, cP]; simp; omega
        case hkc3 =>
         go_simp
         try go_wp2_with fail
         refine hK.out _ _ trivial (fun hHeld => ?_)
         clear hK K
         try simp only [Act.put, gD, gE, gF]
         refine wpAnyH_take (i := 4) (oi := ?oicb4) (v := .pointer (some ⟨gv, 0, none⟩)) ?hicb4 (by kernel_rfl) (by kernel_rfl) (by kernel_rfl) ?hqcb4 ?hycb4 hHeld ?hrcb4
         case hicb4 =>
          simp only [gA, gB, gC]
          rfl
         case hqcb4 => exact fun _ _ _ h => h
         case hycb4 => exact Or.inl ⟨by kernel_rfl, fun w hSw => by go_simp <;> exact fun h => absurd h hqne⟩
         try simp only [Act.put, gD, gE, gF]
         refine wpAnyH_ready (rs := [1, 5]) (by kernel_rfl) (by simp) ?_
         refine (AllReadyH.cons (o := ?oocb1) ?hocb1 (fun K hK => ?hkcb1) (AllReadyH.cons (o := ?oocb5) ?hocb5 (fun K hK => ?hkcb5) AllReadyH.nil))
         case hocb1 =>
          simp only [gA, gB, gC]
          rfl
         case hocb5 =>
          simp only [gA, gB, gC]
          rfl
         case hkcb1 =>
          go_simp
          try go_wp2_with fail
          refine hK.out _ _ trivial (fun hHeld => ?_)
          clear hK K
          try simp only [Act.put, gD, gE, gF]
          refine wpAnyH_ready (rs := [5]) (by kernel_rfl) (by simp) ?_
          refine (AllReadyH.cons (o := ?oocba5) ?hocba5 (fun K hK => ?hkcba5) AllReadyH.nil)
          case hocba5 =>
           simp only [gA, gB, gC]
           rfl
          case hkcba5 =>
           go_simp
           try go_wp2_with fail
           refine hK.out _ _ trivial (fun hHeld => ?_)
           clear hK K
           try simp only [Act.put, gD, gE, gF]
           refine wpAnyH_ready (rs := [6]) (by kernel_rfl) (by simp) ?_
           refine (AllReadyH.cons (o := ?oocba6) ?hocba6 (fun K hK => ?hkcba6) AllReadyH.nil)
           case hocba6 =>
            simp only [gA, gB, gC]
            rfl
           case hkcba6 =>
            go_simp
            try go_wp2_with fail
            obtain ⟨w7, hw7⟩ : ∃ z, (wr.alloc (.cells #[.slice ya ym yc] 81)).drew = z := ⟨_, rfl⟩
            obtain ⟨H7, hH7⟩ : ∃ z, wr.heap.size = z := ⟨_, rfl⟩
            have b7 : Below wr.heap.size wr w7 := by rw [← hw7]; go_grown
            have HBK : Hid (w7.heap[H7]? = some (.cells #[.slice ya ym yc] 81 (0, 0))) := by rw [← hw7, ← hH7]; exact heap_alloc_new wr _
            have D7 : Hid _ := HD.out.draw hgw hPw (cur_below HD.out.cur b7) (grown_of_below b7 (some g))
            have O7 : Hid (w7.ownsRow (w.heap.size + 1) 81 1 (.slice (some ⟨gv, 0, none⟩) qs.length vc) qs.length us') := own_kept HO.out b7
            have HI7 : Hid (∀ (j : Nat) (x : Value) (p : List Stm), us'[j]? = some x → qs[j]? = some p → w7.ownsRow (w.heap.size + 1) 92 3 x p.length (cells3 p)) := fun j x p h1 h2 => own_kept (HIN.out j x p h1 h2) b7
            have Y7 : Hid (w7.ownsRow (w.heap.size + 1) 92 3 (.slice ya ym yc) (qs[0]).length (cells3 qs[0])) := own_kept HY.out b7
            have hm7 : w.heap.size + 1 ≤ w7.heap.size := by have := (O7.out.lt gv rfl).2; omega
            have c7P : w7.cell? ⟨P, 0, none⟩ = some (.slice (some ⟨gv, 0, none⟩) qs.length vc) := (oneCell D7.out.box).1
            rw [hw7, hH7]
            clear hw7 hH7 b7
            refine hK.out _ _ trivial (fun hHeld => ?_)
            clear hK K
            try simp only [Act.put, gD, gE, gF]
            refine wpAnyH_ready (rs := [7]) (by kernel_rfl) (by simp) ?_
            refine (AllReadyH.cons (o := ?oocba7) ?hocba7 (fun K hK => ?hkcba7) AllReadyH.nil)
            case hocba7 =>
             simp only [gA, gB, gC]
             rfl
            case hkcba7 =>
             have hone : ∀ x ∈ [Value.slice ya ym yc], x.oneCell' = true := by intro x hx; simp at hx; subst hx; rfl
             refine step_append_lies _ rfl (.tmp 81) (.tmp 86) 28 rfl (w.heap.size + 1) 81 i0 (.agg #[.slice none 0 0]) 1 24 Try.underlying28 hinf hz0 hz1 hz2 rfl (by decide) _ qs.length us' rfl O7.out ⟨H7, 0, none⟩ 1 1 [.slice ya ym yc] rfl rfl (World.news_of_block HBK.out) hone (by omega) hmx hmb hm7 _ rfl ?_
             intro g8 c8 w8 own8 grow8 _ _
             have r8 : Hid _ := rows2_app O7.out HI7.out Y7.out grow8 own8
             have E8 : Hid _ := D7.out.apps hgw hPw hPv hgv grow8
             refine hK.out _ _ trivial (fun hHeld => ?_)
             clear hK K
             try simp only [Act.put, gD, gE, gF]
             refine wpAnyH_take (i := 8) (oi := ?oicba8) (v := .pointer (some ⟨P, 0, none⟩)) ?hicba8 (by kernel_rfl) (by kernel_rfl) (by kernel_rfl) ?hqcba8 ?hycba8 hHeld ?hrcba8
             case hicba8 =>
              simp only [gA, gB, gC]
              rfl
             case hqcba8 => exact fun _ _ _ h => h
             case hycba8 => exact Or.inl ⟨by kernel_rfl, fun w hSw => by go_simp⟩
             try simp only [Act.put, gD, gE, gF]
             refine wpAnyH_ready (rs := [9]) (by kernel_rfl) (by simp) ?_
             refine (AllReadyH.cons (o := ?oocba9) ?hocba9 (fun K hK => ?hkcba9) AllReadyH.nil)
             case hocba9 =>
              simp only [gA, gB, gC]
              rfl
             case hkcba9 =>
              obtain ⟨c9P, f9P⟩ := oneCell E8.out.1
              go_simp
              try go_wp2_with fail
              refine hK.out _ _ trivial (fun hHeld => ?_)
              clear hK K
              try simp only [Act.put, gD, gE, gF]
              refine wpAnyH_done (by kernel_rfl) ?_ _
              have DN : Hid _ := DA.stored hgw hPw r8.out E8.out
              go_wp2_with fail
              refine ⟨⟨_, qs ++ [qs[0]], by simp, by simp; omega, fun p hp => ?_, DN.out⟩, ?_⟩
              · rcases List.mem_append.1 hp with hp | hp
                · exact hq7 p hp
                · simp at hp; subst hp; exact hq7 _ (List.getElem_mem _)
              · unfold wantAt; rw [(oneCell DN.out.box).1, cP]; simp; omega
         case hkcb5 =>
          go_simp
          try go_wp2_with fail
          refine hK.out _ _ trivial (fun hHeld => ?_)
          clear hK K
          try simp only [Act.put, gD, gE, gF]
          refine wpAnyH_ready (rs := [1, 6]) (by kernel_rfl) (by simp) ?_
          refine (AllReadyH.cons (o := ?oocbb1) ?hocbb1 (fun K hK => ?hkcbb1) (AllReadyH.cons (o := ?oocbb6) ?hocbb6 (fun K hK => ?hkcbb6) AllReadyH.nil))
          case hocbb1 =>
           simp only [gA, gB, gC]
           rfl
          case hocbb6 =>
           simp only [gA, gB, gC]
           rfl
          case hkcbb1 =>
           go_simp
           try go_wp2_with fail
           refine hK.out _ _ trivial (fun hHeld => ?_)
           clear hK K
           try simp only [Act.put, gD, gE, gF]
           refine wpAnyH_ready (rs := [6]) (by kernel_rfl) (by simp) ?_
           refine (AllReadyH.cons (o := ?oocbba6) ?hocbba6 (fun K hK => ?hkcbba6) AllReadyH.nil)
           case hocbba6 =>
            simp only [gA, gB, gC]
            rfl
           case hkcbba6 =>
            go_simp
            try go_wp2_with fail
            obtain ⟨w7, hw7⟩ : ∃ z, (wr.alloc (.cells #[.slice ya ym yc] 81)).drew = z := ⟨_, rfl⟩
            obtain ⟨H7, hH7⟩ : ∃ z, wr.heap.size = z := ⟨_, rfl⟩
            have b7 : Below wr.heap.size wr w7 := by rw [← hw7]; go_grown
            have HBK : Hid (w7.heap[H7]? = some (.cells #[.slice ya ym yc] 81 (0, 0))) := by rw [← hw7, ← hH7]; exact heap_alloc_new wr _
            have D7 : Hid _ := HD.out.draw hgw hPw (cur_below HD.out.cur b7) (grown_of_below b7 (some g))
            have O7 : Hid (w7.ownsRow (w.heap.size + 1) 81 1 (.slice (some ⟨gv, 0, none⟩) qs.length vc) qs.length us') := own_kept HO.out b7
            have HI7 : Hid (∀ (j : Nat) (x : Value) (p : List Stm), us'[j]? = some x → qs[j]? = some p → w7.ownsRow (w.heap.size + 1) 92 3 x p.length (cells3 p)) := fun j x p h1 h2 => own_kept (HIN.out j x p h1 h2) b7
            have Y7 : Hid (w7.ownsRow (w.heap.size + 1) 92 3 (.slice ya ym yc) (qs[0]).length (cells3 qs[0])) := own_kept HY.out b7
            have hm7 : w.heap.size + 1 ≤ w7.heap.size := by have := (O7.out.lt gv rfl).2; omega
            have c7P : w7.cell? ⟨P, 0, none⟩ = some (.slice (some ⟨gv, 0, none⟩) qs.length vc) := (oneCell D7.out.box).1
            rw [hw7, hH7]
            clear hw7 hH7 b7
            refine hK.out _ _ trivial (fun hHeld => ?_)
            clear hK K
            try simp only [Act.put, gD, gE, gF]
            refine wpAnyH_ready (rs := [7]) (by kernel_rfl) (by simp) ?_
            refine (AllReadyH.cons (o := ?oocbba7) ?hocbba7 (fun K hK => ?hkcbba7) AllReadyH.nil)
            case hocbba7 =>
             simp only [gA, gB, gC]
             rfl
            case hkcbba7 =>
             have hone : ∀ x ∈ [Value.slice ya ym yc], x.oneCell' = true := by intro x hx; simp at hx; subst hx; rfl
             refine step_append_lies _ rfl (.tmp 81) (.tmp 86) 28 rfl (w.heap.size + 1) 81 i0 (.agg #[.slice none 0 0]) 1 24 Try.underlying28 hinf hz0 hz1 hz2 rfl (by decide) _ qs.length us' rfl O7.out ⟨H7, 0, none⟩ 1 1 [.slice ya ym yc] rfl rfl (World.news_of_block HBK.out) hone (by omega) hmx hmb hm7 _ rfl ?_
             intro g8 c8 w8 own8 grow8 _ _
             have r8 : Hid _ := rows2_app O7.out HI7.out Y7.out grow8 own8
             have E8 : Hid _ := D7.out.apps hgw hPw hPv hgv grow8
             refine hK.out _ _ trivial (fun hHeld => ?_)
             clear hK K
             try simp only [Act.put, gD, gE, gF]
             refine wpAnyH_take (i := 8) (oi := ?oicbba8) (v := .pointer (some ⟨P, 0, none⟩)) ?hicbba8 (by kernel_rfl) (by kernel_rfl) (by kernel_rfl) ?hqcbba8 ?hycbba8 hHeld ?hrcbba8
             case hicbba8 =>
              simp only [gA, gB, gC]
              rfl
             case hqcbba8 => exact fun _ _ _ h => h
             case hycbba8 => exact Or.inl ⟨by kernel_rfl, fun w hSw => by go_simp⟩
             try simp only [Act.put, gD, gE, gF]
             refine wpAnyH_ready (rs := [9]) (by kernel_rfl) (by simp) ?_
             refine (AllReadyH.cons (o := ?oocbba9) ?hocbba9 (fun K hK => ?hkcbba9) AllReadyH.nil)
             case hocbba9 =>
              simp only [gA, gB, gC]
              rfl
             case hkcbba9 =>
              obtain ⟨c9P, f9P⟩ := oneCell E8.out.1
              go_simp
              try go_wp2_with fail
              refine hK.out _ _ trivial (fun hHeld => ?_)
              clear hK K
              try simp only [Act.put, gD, gE, gF]
              refine wpAnyH_done (by kernel_rfl) ?_ _
              have DN : Hid _ := DA.stored hgw hPw r8.out E8.out
              go_wp2_with fail
              refine ⟨⟨_, qs ++ [qs[0]], by simp, by simp; omega, fun p hp => ?_, DN.out⟩, ?_⟩
              · rcases List.mem_append.1 hp with hp | hp
                · exact hq7 p hp
                · simp at hp; subst hp; exact hq7 _ (List.getElem_mem _)
              · unfold wantAt; rw [(oneCell DN.out.box).1, cP]; simp; omega
          case hkcbb6 =>
           go_simp
           try go_wp2_with fail
           obtain ⟨w7, hw7⟩ : ∃ z, (wr.alloc (.cells #[.slice ya ym yc] 81)).drew = z := ⟨_, rfl⟩
           obtain ⟨H7, hH7⟩ : ∃ z, wr.heap.size = z := ⟨_, rfl⟩
           have b7 : Below wr.heap.size wr w7 := by rw [← hw7]; go_grown
           have HBK : Hid (w7.heap[H7]? = some (.cells #[.slice ya ym yc] 81 (0, 0))) := by rw [← hw7, ← hH7]; exact heap_alloc_new wr _
           have D7 : Hid _ := HD.out.draw hgw hPw (cur_below HD.out.cur b7) (grown_of_below b7 (some g))
           have O7 : Hid (w7.ownsRow (w.heap.size + 1) 81 1 (.slice (some ⟨gv, 0, none⟩) qs.length vc) qs.length us') := own_kept HO.out b7
           have HI7 : Hid (∀ (j : Nat) (x : Value) (p : List Stm), us'[j]? = some x → qs[j]? = some p → w7.ownsRow (w.heap.size + 1) 92 3 x p.length (cells3 p)) := fun j x p h1 h2 => own_kept (HIN.out j x p h1 h2) b7
           have Y7 : Hid (w7.ownsRow (w.heap.size + 1) 92 3 (.slice ya ym yc) (qs[0]).length (cells3 qs[0])) := own_kept HY.out b7
           have hm7 : w.heap.size + 1 ≤ w7.heap.size := by have := (O7.out.lt gv rfl).2; omega
           have c7P : w7.cell? ⟨P, 0, none⟩ = some (.slice (some ⟨gv, 0, none⟩) qs.length vc) := (oneCell D7.out.box).1
           rw [hw7, hH7]
           clear hw7 hH7 b7
           refine hK.out _ _ trivial (fun hHeld => ?_)
           clear hK K
           try simp only [Act.put, gD, gE, gF]
           refine wpAnyH_ready (rs := [1]) (by kernel_rfl) (by simp) ?_
           refine (AllReadyH.cons (o := ?oocbbb1) ?hocbbb1 (fun K hK => ?hkcbbb1) AllReadyH.nil)
           case hocbbb1 =>
            simp only [gA, gB, gC]
            rfl
           case hkcbbb1 =>
            go_simp
            try go_wp2_with fail
            refine hK.out _ _ trivial (fun hHeld => ?_)
            clear hK K
            try simp only [Act.put, gD, gE, gF]
            refine wpAnyH_ready (rs := [7]) (by kernel_rfl) (by simp) ?_
            refine (AllReadyH.cons (o := ?oocbbb7) ?hocbbb7 (fun K hK => ?hkcbbb7) AllReadyH.nil)
            case hocbbb7 =>
             simp only [gA, gB, gC]
             rfl
            case hkcbbb7 =>
             have hone : ∀ x ∈ [Value.slice ya ym yc], x.oneCell' = true := by intro x hx; simp at hx; subst hx; rfl
             refine step_append_lies _ rfl (.tmp 81) (.tmp 86) 28 rfl (w.heap.size + 1) 81 i0 (.agg #[.slice none 0 0]) 1 24 Try.underlying28 hinf hz0 hz1 hz2 rfl (by decide) _ qs.length us' rfl O7.out ⟨H7, 0, none⟩ 1 1 [.slice ya ym yc] rfl rfl (World.news_of_block HBK.out) hone (by omega) hmx hmb hm7 _ rfl ?_
             intro g8 c8 w8 own8 grow8 _ _
             have r8 : Hid _ := rows2_app O7.out HI7.out Y7.out grow8 own8
             have E8 : Hid _ := D7.out.apps hgw hPw hPv hgv grow8
             refine hK.out _ _ trivial (fun hHeld => ?_)
             clear hK K
             try simp only [Act.put, gD, gE, gF]
             refine wpAnyH_take (i := 8) (oi := ?oicbbb8) (v := .pointer (some ⟨P, 0, none⟩)) ?hicbbb8 (by kernel_rfl) (by kernel_rfl) (by kernel_rfl) ?hqcbbb8 ?hycbbb8 hHeld ?hrcbbb8
             case hicbbb8 =>
              simp only [gA, gB, gC]
              rfl
             case hqcbbb8 => exact fun _ _ _ h => h
             case hycbbb8 => exact Or.inl ⟨by kernel_rfl, fun w hSw => by go_simp⟩
             try simp only [Act.put, gD, gE, gF]
             refine wpAnyH_ready (rs := [9]) (by kernel_rfl) (by simp) ?_
             refine (AllReadyH.cons (o := ?oocbbb9) ?hocbbb9 (fun K hK => ?hkcbbb9) AllReadyH.nil)
             case hocbbb9 =>
              simp only [gA, gB, gC]
              rfl
             case hkcbbb9 =>
              obtain ⟨c9P, f9P⟩ := oneCell E8.out.1
              go_simp
              try go_wp2_with fail
              refine hK.out _ _ trivial (fun hHeld => ?_)
              clear hK K
              try simp only [Act.put, gD, gE, gF]
              refine wpAnyH_done (by kernel_rfl) ?_ _
              have DN : Hid _ := DA.stored hgw hPw r8.out E8.out
              go_wp2_with fail
              refine ⟨⟨_, qs ++ [qs[0]], by simp, by simp; omega, fun p hp => ?_, DN.out⟩, ?_⟩
              · rcases List.mem_append.1 hp with hp | hp
                · exact hq7 p hp
                · simp at hp; subst hp; exact hq7 _ (List.getElem_mem _)
              · unfold wantAt; rw [(oneCell DN.out.box).1, cP]; simp; omega
      · have hlt' : ¬ (qs.length : Int) < 5 := by omega
        have R10 := heap_setCell_same wr w.heap.size 0 _ 30 (.slice (some ⟨gv, 0, none⟩) qs.length vc) HD.out.res
        simp at R10
        obtain ⟨d0, _⟩ := oneCell R10
        clear R10
        go_wp2_with fail
        refine bodyPost_ret (v := .agg #[.slice (some ⟨gv, 0, none⟩) qs.length vc]) (by simp [results, Try.results61, go_sem, d0]) rfl ?_
        obtain ⟨h1, h2, h3⟩ := DA.ends hgw HD.out.rows.prOk HD.out.cur HD.out.gr
        exact ⟨_, rfl, _, by simp; omega, fun n hn => by obtain ⟨p, hp, rfl⟩ := List.mem_map.1 hn; have := hq7 p hp; omega, h1, h2, h3⟩
   · go_wp2_with fail
     · have hn0 : ps.length - 1 = 0 := by omega
       have hp : PrOk w6 (w.heap.size + 1) (.slice (some ⟨gu, 0, none⟩) (ps.length - 1) 0) [] := ⟨_, _, by rw [hn0]; rfl, fun j n hj => by simp at hj⟩
       obtain ⟨d0, h1, h2, h3⟩ := HD6.out.endsBox hgw hPw (show gu ≠ P by omega) hp rfl
       refine bodyPost_ret (v := .agg #[.slice (some ⟨gu, 0, none⟩) (ps.length - 1) 0]) (by simp [results, Try.results61, go_sem, d0]) rfl ?_
       exact ⟨_, rfl, _, by simp, fun n hn => by simp at hn, h1, h2, h3⟩
     · have hp := PR6.out.tail (cap' := uc - 1)
       rw [List.length_map, Nat.zero_add] at hp
       obtain ⟨d0, h1, h2, h3⟩ := HD6.out.endsBox hgw hPw (show gu ≠ P by omega) hp rfl
       refine bodyPost_ret (v := .agg #[.slice (some ⟨gu, 1, none⟩) (ps.length - 1) (uc - 1)]) (by simp [results, Try.results61, go_sem, d0]) rfl ?_
       exact ⟨_, rfl, _, by simp; omega, fun n hn => HALL.out n (List.mem_of_mem_tail hn), h1, h2, h3⟩

end Go.Proofs.Ytnjbihfceckpfaa
