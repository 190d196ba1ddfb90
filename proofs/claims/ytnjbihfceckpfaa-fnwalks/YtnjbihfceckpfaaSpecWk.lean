/-
 Chapter 12, the specification's side: l12Walk.
-/
import Derived.Test.YtnjbihfceckpfaaG00Stmt
import Derived.Test.YtnjbihfceckpfaaSpecNx
import Derived.Test.YtnjbihfceckpfaaSpecDo
namespace Go.Proofs.Ytnjbihfceckpfaa
open Go.RowKit
set_option linter.unusedVariables false
set_option linter.unusedSimpArgs false
set_option maxHeartbeats 4000000
set_option maxRecDepth 20000

/-- What l12Walk leaves. -/
def WkAns (c : Int) (ps : List (List Stm)) (xs : List Int) (n base : Nat) (e : Ending) (w' : World) : Prop :=
 ∃ B b, e = .returned (.tuple #[.pointer (some ⟨B, 0, none⟩), .bool b]) ∧ (walkA c ps xs n = none → b = false) ∧ ∀ s, walkA c ps xs n = some s → b = true ∧ SSt w' base B s.op s.h

theorem SSt.below {w w' : World} {base B : Nat} {op : List (Nat × Nat × Int)} {h : Int} (hs : SSt w base B op h) (hb : Below w.heap.size w w') : SSt w' base B op h := by
 obtain ⟨h1, ov, kv, h2, h3, h4⟩ := hs
 exact ⟨h1, ov, kv, (hb.block _ (Array.getElem?_eq_some_iff.1 h2).1).trans h2, own_kept h3 hb, own_kept h4 hb⟩
theorem SSt.mono {w : World} {base base' B : Nat} {op : List (Nat × Nat × Int)} {h : Int} (hs : SSt w base B op h) (hb : base' ≤ base) : SSt w base' B op h := by
 obtain ⟨h1, ov, kv, h2, h3, h4⟩ := hs
 exact ⟨by omega, ov, kv, h2, own_mono h3 hb, own_mono h4 hb⟩

theorem l12Walk (ps : List (List Stm)) (c : Int) (xs : List Int) (n : Nat) (v xv : Value) (w : World) (hc : c = 1 ∨ c = 2) (hl : ps.length ≤ maxLen) (hp : ∀ p ∈ ps, p.length ≤ maxLen) (hv : ReadsP w v ps)
 (hx : xs.length = 2 * n) (hn : n ≤ maxLen) (hxv : Reads2 w xv n (ints xs)) :
 Calls Try.prog 65 #[.agg #[v], .int .i64 c, xv] w fun e w' => WkAns c ps xs n w.heap.size e w' ∧ Below w.heap.size w w' := by
 unfold maxLen at hn
 have hpo := specProgramOk ps v
 obtain ⟨xo, xc, rfl, hxc⟩ := id hxv
 go_enter Try.func65, Try.ntmps65
 go_wp2_with fail
 go_at_call 68
 refine (specStart c _).mono ?_
 rintro e w1 ⟨rfl, b1⟩
 have a0 : Below w.heap.size w (w.alloc (.cells #[v] 30)) := by go_grown
 have B1 : Hid (Below w.heap.size w w1) := a0.trans (b1.mono a0.size)
 have H1 : Hid (w1.heap[w.heap.size]? = some (.cells #[v] 30 (0, 0))) := (b1.block _ (by simp)).trans (heap_alloc_new w _)
 have hs1 : w.heap.size < w1.heap.size := (Array.getElem?_eq_some_iff.1 H1.out).1
 obtain ⟨st, hst⟩ : ∃ st, startAns c = st := ⟨_, rfl⟩
 have HST : Hid (startAns c = st) := hst
 rw [hst]
 clear hst b1 a0
 obtain ⟨W, hW⟩ : ∃ W, w1.alloc (.cells #[.slice none 0 0, .slice none 0 0, .int .i64 st] 114) = W := ⟨_, rfl⟩
 have bW : Below w1.heap.size w1 W := by rw [← hW]; go_grown
 have HW : Hid (W.heap[w1.heap.size]? = some (.cells #[.slice none 0 0, .slice none 0 0, .int .i64 st] 114 (0, 0))) := by show _ = _; rw [← hW]; exact heap_alloc_new w1 _
 have HSW : Hid (W.heap.size = w1.heap.size + 1) := by show _ = _; rw [← hW]; simp
 have BW : Hid (Below w.heap.size w W) := B1.out.trans (bW.mono B1.out.size)
 have HP : Hid (W.heap[w.heap.size]? = some (.cells #[v] 30 (0, 0))) := (bW.block _ hs1).trans H1.out
 have hc0 := (one_cell HP.out).1
 have hpo := hpo W hl hp (readsP_below hv BW.out)
 clear bW
 go_wp2_with fail
 go_at_call 39
 refine hpo.mono ?_
 rintro e w2 ⟨rfl, b2⟩
 have B2 : Hid (Below w.heap.size w w2) := BW.out.trans (b2.mono BW.out.size)
 have hs2 : w1.heap.size < W.heap.size := by have := HSW.out; omega
 have HS2 : Hid (w2.heap[w1.heap.size]? = some (.cells #[.slice none 0 0, .slice none 0 0, .int .i64 st] 114 (0, 0))) := (b2.block _ hs2).trans HW.out
 have HP2 : Hid (w2.heap[w.heap.size]? = some (.cells #[v] 30 (0, 0))) := (b2.block _ (by omega)).trans HP.out
 have hc2 := (one_cell HP2.out).1
 have HB2S : Hid (W.heap.size ≤ w2.heap.size) := b2.size
 clear hpo hc0 b2
 have NO : Hid (walkA c ps xs n = none → ∀ W', Below w.heap.size w W' → WkAns c ps xs n w.heap.size (.returned (.tuple #[.pointer (some ⟨w1.heap.size, 0, none⟩), .bool false])) W' ∧ Below w.heap.size w W') :=
  fun hno W' hW' => ⟨⟨w1.heap.size, false, rfl, fun _ => rfl, fun s hs => by rw [hno] at hs; cases hs⟩, hW'⟩
 cases hok : programOk ps with
 | false =>
  have HNO : Hid (walkA c ps xs n = none) := by show _ = _; unfold walkA; rw [if_neg (by simp [hok])]
  clear hok
  go_wp2_with fail
  go_returns
  exact NO.out HNO.out _ B2.out
 | true =>
 have HOK : Hid (programOk ps = true) := hok
 clear hok
 by_cases h0 : n = 0
 · subst h0
   have HNO : Hid (walkA c ps xs 0 = none) := by show _ = _; unfold walkA; rw [if_neg (by omega)]
   go_wp2_with fail
   go_returns
   exact NO.out HNO.out _ B2.out
 by_cases h100 : 100 < n
 · have HNO : Hid (walkA c ps xs n = none) := by show _ = _; unfold walkA; rw [if_neg (by omega)]
   have hi1 : ¬ (n : Int) < 1 := by omega
   have hi2 : (100 : Int) < (n : Int) := by omega
   go_wp2_with fail
   go_returns
   exact NO.out HNO.out _ B2.out
 have hi1 : ¬ (n : Int) < 1 := by omega
 have hi2 : ¬ (100 : Int) < (n : Int) := by omega
 have hx0 : (ints xs)[0]? = some (.int .i64 (xs.getD 0 0)) := by simp [ints, List.getD, show 0 < xs.length by omega]
 have hx1 : (ints xs)[1]? = some (.int .i64 (xs.getD 1 0)) := by simp [ints, List.getD, show 1 < xs.length by omega]
 obtain ⟨gx, ox, rfl, r0⟩ := hxc 0 _ hx0
 obtain ⟨g9, o9, e9, r1⟩ := hxc 1 _ hx1
 cases e9
 have zx := World.block_lt_of_cell? w _ r0
 simp only [Nat.add_zero] at r0 zx
 have t0 := (B2.out.cell (p := ⟨gx, ox, none⟩) zx).trans r0
 have t1 := (B2.out.cell (p := ⟨gx, ox + 1, none⟩) zx).trans r1
 have HF : Hid (¬ (xs.getD 0 0 = 0 ∧ xs.getD 1 0 = 0) → walkA c ps xs n = none) := fun h => by unfold walkA; rw [if_neg (by intro hh; exact h ⟨hh.2.2.2.1, hh.2.2.2.2⟩)]
 have HT : Hid (xs.getD 0 0 = 0 ∧ xs.getD 1 0 = 0 → walkA c ps xs n = wk c ps xs (n - 1)) := fun h => by unfold walkA; rw [if_pos ⟨HOK.out, by omega, by omega, h.1, h.2⟩]
 have hnp : (0 : Int) < (n : Int) := by omega
 have hd1 : decide ((n : Int) < 1) = false := by simp; omega
 have hd2 : decide ((100 : Int) < (n : Int)) = false := by simp; omega
 have HI : Hid ((1 : Int) ≤ n ∧ (n : Int) ≤ 100) := ⟨by omega, by omega⟩
 clear hi1 hi2
 clear r0 r1 hx0 hx1
 generalize hg0 : xs.getD 0 0 = x0 at *
 generalize hg1 : xs.getD 1 0 = x1 at *
 have HG0 : Hid (xs.getD 0 0 = x0) := hg0
 have HG1 : Hid (xs.getD 1 0 = x1) := hg1
 clear hg0 hg1
 by_cases hf : x0 = 0 ∧ x1 = 0
 · obtain ⟨rfl, rfl⟩ := hf
   have HWK : Hid (walkA c ps xs n = wk c ps xs (n - 1)) := HT.out ⟨rfl, rfl⟩
   have hoB : okB ps c = true := by simp [okB, HOK.out, hc]
   obtain ⟨_, _, hcan, h4⟩ := okB_parts hoB
   have h1p : 1 ≤ ps.length := by
    have := HOK.out
    unfold programOk at this
    simp only [Bool.and_eq_true, decide_eq_true_eq] at this
    omega
   have hwko := fun k s (h : wk c ps xs k = some s) => wk_ok hc hcan h1p k s h
   have HS0 : Hid (SSt w2 w1.heap.size w1.heap.size [] st) := ⟨Nat.le_refl _, _, _, HS2.out, World.ownsRow_nil _ _ _ _, World.ownsRow_nil _ _ _ _⟩
   have W0 : Hid (wk c ps xs 0 = some ⟨0, 0, [], st⟩) := by show _ = _; unfold wk; rw [HST.out]
   clear HF HT hoB
   go_wp2_with fail
   clear t0 t1 hd1 hd2
   have HX2 : Hid (Below w.heap.size w w2) := B2.out
   have B2S : Hid (W.heap.size ≤ w2.heap.size) := HB2S.out
   go_loopw [9] (fun iv wr => ∃ (k : Nat) (s : WS), k + 1 ≤ n ∧ iv = .int .i64 ((k : Int) + 1) ∧ wk c ps xs k = some s ∧ (s.p : Int) = xs.getD (k * 2) 0 ∧ (s.i : Int) = xs.getD (k * 2 + 1) 0 ∧ SSt wr w1.heap.size w1.heap.size s.op s.h ∧ Below w1.heap.size w2 wr) (fun iv _ => n - (intOf iv).toNat)
   case atStart => exact ⟨0, _, by omega, rfl, W0.out, HG0.out.symm, HG1.out.symm, HS0.out, Below.refl _ _⟩
   case round =>
    obtain ⟨k, s, hk, rfl, hwk, hsp, hsi, hSt, hB⟩ := hrel
    have hos := hwko k s hwk
    have HSt : Hid _ := hSt
    have HB : Hid (Below w1.heap.size w2 wr) := hB
    have HBW : Hid (Below w.heap.size w wr) := B2.out.trans (hB.mono (by omega))
    by_cases hlt : k + 1 < n
    · have e1 : (ints xs)[k * 2]? = some (.int .i64 (s.p : Int)) := by rw [hsp]; simp [ints, List.getD, show k * 2 < xs.length by omega]
      have e2 : (ints xs)[k * 2 + 1]? = some (.int .i64 (s.i : Int)) := by rw [hsi]; simp [ints, List.getD, show k * 2 + 1 < xs.length by omega]
      obtain ⟨g9, o9, e9, r1⟩ := hxc _ _ e1
      cases e9
      obtain ⟨g9, o9, e9, r2⟩ := hxc _ _ e2
      cases e9
      rw [← Nat.add_assoc] at r2
      have ROLD1' := r1
      have r1 := (HBW.out.cell (p := ⟨gx, ox + k * 2, none⟩) zx).trans r1
      have ROLD2' := r2
      have r2 := (HBW.out.cell (p := ⟨gx, ox + k * 2 + 1, none⟩) zx).trans r2
      obtain ⟨hBb, ov, kv, hblk, hov, hkv⟩ := hSt
      obtain ⟨d0, d1, d2, _, _, _⟩ := do_cells3 hblk
      have hcv := (one_cell ((hB.block _ hs1).trans HP2.out)).1
      have zB := (Array.getElem?_eq_some_iff.1 hblk).1
      have zg : gx < wr.heap.size := Nat.lt_of_lt_of_le zx HBW.out.size
      have zw : w.heap.size < wr.heap.size := by omega
      have hlt' : (k : Int) + 1 < (n : Int) := by omega
      have hw1 : IntKind.i64.wrap ((k : Int) + 1 - 1) = (k : Int) := by rw [show (k : Int) + 1 - 1 = k by omega]; exact IntWalk.i64_in _ (by omega)
      have hw3 : IntKind.i64.wrap (k : Int) = (k : Int) := IntWalk.i64_in _ (by omega)
      have hkn : (k : Int) < (n : Int) := by omega
      obtain ⟨oa, om, oc, rfl⟩ := own_slice hov
      have hnx := fun W (hW : Below wr.heap.size wr W) => l12Next ps s.p s.i s.op v _ W hcan h4 hos.p hos.i (readsP_below hv (HBW.out.trans (hW.mono HBW.out.size))) (reads2_below (reads2_own hov) hW) (by have := hos.len; omega) (fun t ht => by have h1 := (hos.op t ht); have h2 := (procOk_parts (procs_of hcan h1.1).1).2.1; omega)
      have hnx := hnx wr.drew (by go_grown)
      have HNX : Hid (nxW ps s = nxS (stW ps s.p s.i) s.p s.i s.op) := rfl
      clear hB e1 e2
      obtain ⟨P, hP⟩ : ∃ P, s.p = P := ⟨_, rfl⟩
      obtain ⟨I, hI⟩ : ∃ I, s.i = I := ⟨_, rfl⟩
      obtain ⟨NX, hNX⟩ : ∃ NX, nxS (stW ps s.p s.i) s.p s.i s.op = NX := ⟨_, rfl⟩
      rw [hNX] at hnx HNX
      rw [hP] at hnx r1 hsp ROLD1'
      rw [hI] at hnx r2 hsi ROLD2'
      have ROLD1 : Hid _ := ROLD1'
      have ROLD2 : Hid _ := ROLD2'
      clear ROLD1' ROLD2'
      have HPP : Hid (s.p = P) := hP
      have HII : Hid (s.i = I) := hI
      have HWK2 : Hid (wk c ps xs k = some s) := hwk
      have HOS : Hid (OkW ps s k) := hos
      clear hP hI hNX hsp hsi hwk hos
      go_wp2_with fail
      refine wp_region_held_drew (S := fun w' => (w'.cell? ⟨w.heap.size, 0, none⟩ = some v ∧ w'.cell? ⟨w1.heap.size, 0, none⟩ = some (.slice oa om oc)) ∧ w'.cell? ⟨gx, ox + k * 2, none⟩ = some (.int .i64 (P : Int)) ∧ w'.cell? ⟨gx, ox + k * 2 + 1, none⟩ = some (.int .i64 (I : Int))) (by kernel_rfl) ⟨⟨hcv, d0⟩, r1, r2⟩ (fun hHeld => ?_)
      refine wpAnyH_take (i := 0) (oi := ?oia0) (v := .agg #[v]) ?hia0 (by kernel_rfl) (by kernel_rfl) (by kernel_rfl) ?hqa0 ?hya0 hHeld ?hra0
      case hia0 =>
       simp only [gA, gB, gC]
       rfl
      case hqa0 => exact fun _ _ _ h => h
      case hya0 => exact Or.inl ⟨by kernel_rfl, fun w hSw => by obtain ⟨⟨s1, s2⟩, s3, s4⟩ := hSw; go_simp⟩
      try simp only [Act.put, gD, gE, gF]
      refine wpAnyH_take (i := 1) (oi := ?oia1) (v := .slice (some ⟨gx, ox, none⟩) n xc) ?hia1 (by kernel_rfl) (by kernel_rfl) (by kernel_rfl) ?hqa1 ?hya1 hHeld ?hra1
      case hia1 =>
       simp only [gA, gB, gC]
       rfl
      case hqa1 => exact fun _ _ _ h => h
      case hya1 => exact Or.inl ⟨by kernel_rfl, fun w hSw => by go_simp⟩
      try simp only [Act.put, gD, gE, gF]
      refine wpAnyH_take (i := 2) (oi := ?oia2) (v := .int .i64 ((k : Int) + 1)) ?hia2 (by kernel_rfl) (by kernel_rfl) (by kernel_rfl) ?hqa2 ?hya2 hHeld ?hra2
      case hia2 =>
       simp only [gA, gB, gC]
       rfl
      case hqa2 => exact fun _ _ _ h => h
      case hya2 => exact Or.inl ⟨by kernel_rfl, fun w hSw => by go_simp⟩
      try simp only [Act.put, gD, gE, gF]
      refine wpAnyH_take (i := 3) (oi := ?oia3) (v := .int .i64 (k : Int)) ?hia3 (by kernel_rfl) (by kernel_rfl) (by kernel_rfl) ?hqa3 ?hya3 hHeld ?hra3
      case hia3 =>
       simp only [gA, gB, gC]
       rfl
      case hqa3 => exact fun _ _ _ h => h
      case hya3 => exact Or.inl ⟨by kernel_rfl, fun w hSw => by go_simp⟩
      try simp only [Act.put, gD, gE, gF]
      refine wpAnyH_take (i := 4) (oi := ?oia4) (v := .pointer (some ⟨gx, ox + k * 2, none⟩)) ?hia4 (by kernel_rfl) (by kernel_rfl) (by kernel_rfl) ?hqa4 ?hya4 hHeld ?hra4
      case hia4 =>
       simp only [gA, gB, gC]
       rfl
      case hqa4 => exact fun _ _ _ h => h
      case hya4 => exact Or.inl ⟨by kernel_rfl, fun w hSw => by go_simp⟩
      try simp only [Act.put, gD, gE, gF]
      refine wpAnyH_take (i := 5) (oi := ?oia5) (v := .agg #[.int .i64 (P : Int), .int .i64 (I : Int)]) ?hia5 (by kernel_rfl) (by kernel_rfl) (by kernel_rfl) ?hqa5 ?hya5 hHeld ?hra5
      case hia5 =>
       simp only [gA, gB, gC]
       rfl
      case hqa5 => exact fun _ _ _ h => h
      case hya5 => exact Or.inl ⟨by kernel_rfl, fun w hSw => by obtain ⟨⟨s1, s2⟩, s3, s4⟩ := hSw; go_simp⟩
      try simp only [Act.put, gD, gE, gF]
      refine wpAnyH_take (i := 6) (oi := ?oia6) (v := .pointer (some ⟨w1.heap.size, 0, none⟩)) ?hia6 (by kernel_rfl) (by kernel_rfl) (by kernel_rfl) ?hqa6 ?hya6 hHeld ?hra6
      case hia6 =>
       simp only [gA, gB, gC]
       rfl
      case hqa6 => exact fun _ _ _ h => h
      case hya6 => exact Or.inl ⟨by kernel_rfl, fun w hSw => by go_simp⟩
      try simp only [Act.put, gD, gE, gF]
      refine wpAnyH_take (i := 7) (oi := ?oia7) (v := .pointer (some ⟨w1.heap.size, 0, none⟩)) ?hia7 (by kernel_rfl) (by kernel_rfl) (by kernel_rfl) ?hqa7 ?hya7 hHeld ?hra7
      case hia7 =>
       simp only [gA, gB, gC]
       rfl
      case hqa7 => exact fun _ _ _ h => h
      case hya7 => exact Or.inl ⟨by kernel_rfl, fun w hSw => by go_simp⟩
      try simp only [Act.put, gD, gE, gF]
      refine wpAnyH_take (i := 8) (oi := ?oia8) (v := .pointer (some ⟨w1.heap.size, 0, none⟩)) ?hia8 (by kernel_rfl) (by kernel_rfl) (by kernel_rfl) ?hqa8 ?hya8 hHeld ?hra8
      case hia8 =>
       simp only [gA, gB, gC]
       rfl
      case hqa8 => exact fun _ _ _ h => h
      case hya8 => exact Or.inl ⟨by kernel_rfl, fun w hSw => by go_simp⟩
      try simp only [Act.put, gD, gE, gF]
      refine wpAnyH_take (i := 9) (oi := ?oia9) (v := .slice oa om oc) ?hia9 (by kernel_rfl) (by kernel_rfl) (by kernel_rfl) ?hqa9 ?hya9 hHeld ?hra9
      case hia9 =>
       simp only [gA, gB, gC]
       rfl
      case hqa9 => exact fun _ _ _ h => h
      case hya9 => exact Or.inl ⟨by kernel_rfl, fun w hSw => by obtain ⟨⟨s1, s2⟩, s3, s4⟩ := hSw; go_simp⟩
      try simp only [Act.put, gD, gE, gF]
      refine wpAnyH_ready (rs := [10]) (by kernel_rfl) (by simp) ?_
      refine (AllReadyH.cons (o := ?ooa10) ?hoa10 (fun K hK => ?hka10) AllReadyH.nil)
      case hoa10 =>
       simp only [gA, gB, gC]
       rfl
      case hka10 =>
       go_simp
       go_at_call 93
       refine hnx.mono ?_
       rintro e w3 ⟨lv, rfl, ol, b3⟩
       have B3 : Hid (Below wr.heap.size wr w3) := Below.trans (by go_grown) b3
       have OL : Hid (OwnPl w3 wr.heap.size lv NX) := ol
       clear b3 ol
       try go_wp2_with fail
       refine hK.out _ _ ⟨⟨(B3.out.cell zw).trans hcv, (B3.out.cell zB).trans d0⟩, (B3.out.cell zg).trans r1, (B3.out.cell zg).trans r2⟩ (fun hHeld => ?_)
       clear hK K
       try simp only [Act.put, gD, gE, gF]
       refine wpAnyH_take (i := 11) (oi := ?oia11) (v := lv) ?hia11 (by kernel_rfl) (by kernel_rfl) (by kernel_rfl) ?hqa11 ?hya11 hHeld ?hra11
       case hia11 =>
        simp only [gA, gB, gC]
        rfl
       case hqa11 => exact fun _ _ _ h => h
       case hya11 => exact Or.inl ⟨by kernel_rfl, fun w hSw => by go_simp⟩
       try simp only [Act.put, gD, gE, gF]
       refine wpAnyH_done (by kernel_rfl) ?_ _
       obtain ⟨a, ha⟩ : ∃ a, xs.getD ((k + 1) * 2) 0 = a := ⟨_, rfl⟩
       obtain ⟨b, hb⟩ : ∃ b, xs.getD ((k + 1) * 2 + 1) 0 = b := ⟨_, rfl⟩
       have e1 : (ints xs)[(k + 1) * 2]? = some (.int .i64 a) := by rw [← ha]; simp [ints, List.getD, show (k + 1) * 2 < xs.length by omega]
       have e2 : (ints xs)[(k + 1) * 2 + 1]? = some (.int .i64 b) := by rw [← hb]; simp [ints, List.getD, show (k + 1) * 2 + 1 < xs.length by omega]
       have HAA : Hid (xs.getD ((k + 1) * 2) 0 = a) := ha
       have HBB : Hid (xs.getD ((k + 1) * 2 + 1) 0 = b) := hb
       clear ha hb
       obtain ⟨g9, o9, e9, r3⟩ := hxc _ _ e1
       cases e9
       obtain ⟨g9, o9, e9, r4⟩ := hxc _ _ e2
       cases e9
       rw [← Nat.add_assoc] at r4
       have BW3 : Hid (Below w.heap.size w w3) := HBW.out.trans (B3.out.mono HBW.out.size)
       have r3 := (BW3.out.cell (p := ⟨gx, ox + (k + 1) * 2, none⟩) zx).trans r3
       have r4 := (BW3.out.cell (p := ⟨gx, ox + (k + 1) * 2 + 1, none⟩) zx).trans r4
       have hk1 : ((k : Int) + 1).toNat = k + 1 := by omega
       have hk0 : (0 : Int) ≤ (k : Int) + 1 := by omega
       obtain ⟨m, hm, hrow⟩ := OL.out.ex
       have hm2 : m ≤ 2 := by
        obtain ⟨m', h1, h2⟩ := nxW_len ps s
        have := HNX.out
        rw [this] at h1
        omega
       obtain ⟨lo, lc, rfl, hlc⟩ := reads2_own hrow
       have HROW : Hid _ := hrow
       have HM : Hid (NX.length = 2 * m) := hm
       clear e1 e2 hrow hm hnx r1 r2
       go_wp2_with fail
       go_loopw [11, 12] (fun fv kv wq => ∃ j : Nat, j ≤ m ∧ kv = .int .i64 j ∧ fv = .bool (hasN NX a b j) ∧ Below w3.heap.size w3 wq) (fun _ kv _ => m - (intOf kv).toNat)
       case atStart => exact ⟨0, Nat.zero_le _, rfl, rfl, Below.refl _ _⟩
       case round =>
        obtain ⟨wo, hwo⟩ : ∃ wo, wo = wr := ⟨wr, rfl⟩
        obtain ⟨j, hj, rfl, rfl, hb3⟩ := hrel
        have HB3 : Hid (Below w3.heap.size w3 wr) := hb3
        by_cases hjl : j < m
        · have hjl' : (j : Int) < (m : Int) := by omega
          have HM' := HM.out
          have j1 : j * 2 < NX.length := by omega
          have j2 : j * 2 + 1 < NX.length := by omega
          obtain ⟨gl, ol, rfl, q1⟩ := hlc (j * 2) (.int .i64 (NX.getD (j * 2) 0)) (by simp [ints, List.getD, j1])
          obtain ⟨g9, o9, e9, q2⟩ := hlc (j * 2 + 1) (.int .i64 (NX.getD (j * 2 + 1) 0)) (by simp [ints, List.getD, j2])
          cases e9
          rw [← Nat.add_assoc] at q2
          have y1 := World.block_lt_of_cell? w3 _ q1
          have y2 := World.block_lt_of_cell? w3 _ r3
          have q1 := (hb3.cell (p := ⟨gl, ol + j * 2, none⟩) y1).trans q1
          have q2 := (hb3.cell (p := ⟨gl, ol + j * 2 + 1, none⟩) y1).trans q2
          have r3 := (hb3.cell (p := ⟨gx, ox + (k + 1) * 2, none⟩) y2).trans r3
          have r4 := (hb3.cell (p := ⟨gx, ox + (k + 1) * 2 + 1, none⟩) y2).trans r4
          have HSTP : Hid (hasN NX a b (j + 1) = (hasN NX a b j || (decide (NX.getD (j * 2) 0 = a) && decide (NX.getD (j * 2 + 1) 0 = b)))) := rfl
          clear hlc hb3 HM' j1 j2
          generalize NX.getD (j * 2) 0 = x at *
          generalize NX.getD (j * 2 + 1) 0 = y at *
          cases hf : hasN NX a b j with
          | true =>
           have HF1 : Hid (hasN NX a b (j + 1) = true) := by show _ = _; rw [HSTP.out, hf, Bool.true_or]
           clear hf HSTP
           go_wp2_with fail
           refine wp_region_held_drew (S := fun w' => (w'.cell? ⟨gl, ol + j * 2, none⟩ = some (.int .i64 x) ∧ w'.cell? ⟨gl, ol + j * 2 + 1, none⟩ = some (.int .i64 y)) ∧ w'.cell? ⟨gx, ox + (k + 1) * 2, none⟩ = some (.int .i64 a) ∧ w'.cell? ⟨gx, ox + (k + 1) * 2 + 1, none⟩ = some (.int .i64 b)) (by kernel_rfl) ⟨⟨q1, q2⟩, r3, r4⟩ (fun hHeld => ?_)
           refine wpAnyH_take (i := 0) (oi := ?oib0) (v := .bool true) ?hib0 (by kernel_rfl) (by kernel_rfl) (by kernel_rfl) ?hqb0 ?hyb0 hHeld ?hrb0
           case hib0 =>
            simp only [gA, gB, gC]
            rfl
           case hqb0 => exact fun _ _ _ h => h
           case hyb0 => exact Or.inl ⟨by kernel_rfl, fun w hSw => by go_simp⟩
           try simp only [Act.put, gD, gE, gF]
           refine wpAnyH_take (i := 1) (oi := ?oib1) (v := .bool true) ?hib1 (by kernel_rfl) (by kernel_rfl) (by kernel_rfl) ?hqb1 ?hyb1 hHeld ?hrb1
           case hib1 =>
            simp only [gA, gB, gC]
            rfl
           case hqb1 => exact fun _ _ _ h => h
           case hyb1 => exact Or.inl ⟨by kernel_rfl, fun w hSw => by go_simp⟩
           try simp only [Act.put, gD, gE, gF]
           refine wpAnyH_take (i := 2) (oi := ?oib2) (v := undef) ?hib2 (by kernel_rfl) (by kernel_rfl) (by kernel_rfl) ?hqb2 ?hyb2 hHeld ?hrb2
           case hib2 =>
            simp only [gA, gB, gC]
            rfl
           case hqb2 => exact fun _ _ _ h => h
           case hyb2 => exact Or.inr ⟨by kernel_rfl, rfl⟩
           try simp only [Act.put, gD, gE, gF]
           refine wpAnyH_take (i := 3) (oi := ?oib3) (v := undef) ?hib3 (by kernel_rfl) (by kernel_rfl) (by kernel_rfl) ?hqb3 ?hyb3 hHeld ?hrb3
           case hib3 =>
            simp only [gA, gB, gC]
            rfl
           case hqb3 => exact fun _ _ _ h => h
           case hyb3 => exact Or.inr ⟨by kernel_rfl, rfl⟩
           try simp only [Act.put, gD, gE, gF]
           refine wpAnyH_take (i := 4) (oi := ?oib4) (v := undef) ?hib4 (by kernel_rfl) (by kernel_rfl) (by kernel_rfl) ?hqb4 ?hyb4 hHeld ?hrb4
           case hib4 =>
            simp only [gA, gB, gC]
            rfl
           case hqb4 => exact fun _ _ _ h => h
           case hyb4 => exact Or.inr ⟨by kernel_rfl, rfl⟩
           try simp only [Act.put, gD, gE, gF]
           refine wpAnyH_take (i := 5) (oi := ?oib5) (v := undef) ?hib5 (by kernel_rfl) (by kernel_rfl) (by kernel_rfl) ?hqb5 ?hyb5 hHeld ?hrb5
           case hib5 =>
            simp only [gA, gB, gC]
            rfl
           case hqb5 => exact fun _ _ _ h => h
           case hyb5 => exact Or.inr ⟨by kernel_rfl, rfl⟩
           try simp only [Act.put, gD, gE, gF]
           refine wpAnyH_take (i := 6) (oi := ?oib6) (v := undef) ?hib6 (by kernel_rfl) (by kernel_rfl) (by kernel_rfl) ?hqb6 ?hyb6 hHeld ?hrb6
           case hib6 =>
            simp only [gA, gB, gC]
            rfl
           case hqb6 => exact fun _ _ _ h => h
           case hyb6 => exact Or.inr ⟨by kernel_rfl, rfl⟩
           try simp only [Act.put, gD, gE, gF]
           refine wpAnyH_take (i := 7) (oi := ?oib7) (v := undef) ?hib7 (by kernel_rfl) (by kernel_rfl) (by kernel_rfl) ?hqb7 ?hyb7 hHeld ?hrb7
           case hib7 =>
            simp only [gA, gB, gC]
            rfl
           case hqb7 => exact fun _ _ _ h => h
           case hyb7 => exact Or.inr ⟨by kernel_rfl, rfl⟩
           try simp only [Act.put, gD, gE, gF]
           refine wpAnyH_take (i := 8) (oi := ?oib8) (v := undef) ?hib8 (by kernel_rfl) (by kernel_rfl) (by kernel_rfl) ?hqb8 ?hyb8 hHeld ?hrb8
           case hib8 =>
            simp only [gA, gB, gC]
            rfl
           case hqb8 => exact fun _ _ _ h => h
           case hyb8 => exact Or.inr ⟨by kernel_rfl, rfl⟩
           try simp only [Act.put, gD, gE, gF]
           refine wpAnyH_take (i := 9) (oi := ?oib9) (v := undef) ?hib9 (by kernel_rfl) (by kernel_rfl) (by kernel_rfl) ?hqb9 ?hyb9 hHeld ?hrb9
           case hib9 =>
            simp only [gA, gB, gC]
            rfl
           case hqb9 => exact fun _ _ _ h => h
           case hyb9 => exact Or.inr ⟨by kernel_rfl, rfl⟩
           try simp only [Act.put, gD, gE, gF]
           refine wpAnyH_take (i := 10) (oi := ?oib10) (v := undef) ?hib10 (by kernel_rfl) (by kernel_rfl) (by kernel_rfl) ?hqb10 ?hyb10 hHeld ?hrb10
           case hib10 =>
            simp only [gA, gB, gC]
            rfl
           case hqb10 => exact fun _ _ _ h => h
           case hyb10 => exact Or.inr ⟨by kernel_rfl, rfl⟩
           try simp only [Act.put, gD, gE, gF]
           refine wpAnyH_take (i := 11) (oi := ?oib11) (v := .bool true) ?hib11 (by kernel_rfl) (by kernel_rfl) (by kernel_rfl) ?hqb11 ?hyb11 hHeld ?hrb11
           case hib11 =>
            simp only [gA, gB, gC]
            rfl
           case hqb11 => exact fun _ _ _ h => h
           case hyb11 => exact Or.inl ⟨by kernel_rfl, fun w hSw => by go_simp⟩
           try simp only [Act.put, gD, gE, gF]
           refine wpAnyH_take (i := 12) (oi := ?oib12) (v := .bool true) ?hib12 (by kernel_rfl) (by kernel_rfl) (by kernel_rfl) ?hqb12 ?hyb12 hHeld ?hrb12
           case hib12 =>
            simp only [gA, gB, gC]
            rfl
           case hqb12 => exact fun _ _ _ h => h
           case hyb12 => exact Or.inl ⟨by kernel_rfl, fun w hSw => by go_simp⟩
           try simp only [Act.put, gD, gE, gF]
           refine wpAnyH_done (by kernel_rfl) ?_ _
           go_wp2_with fail
           go_roundw
           case rel => exact ⟨j + 1, by omega, by go_num, by rw [HF1.out], Below.drew HB3.out⟩
           case measure => simp [intOf]; omega
          | false =>
           have HF1 : Hid (hasN NX a b (j + 1) = (decide (x = a) && decide (y = b))) := by show _ = _; rw [HSTP.out, hf, Bool.false_or]
           clear hf HSTP
           go_wp2_with fail
           refine wp_region_held_drew (S := fun w' => (w'.cell? ⟨gl, ol + j * 2, none⟩ = some (.int .i64 x) ∧ w'.cell? ⟨gl, ol + j * 2 + 1, none⟩ = some (.int .i64 y)) ∧ w'.cell? ⟨gx, ox + (k + 1) * 2, none⟩ = some (.int .i64 a) ∧ w'.cell? ⟨gx, ox + (k + 1) * 2 + 1, none⟩ = some (.int .i64 b)) (by kernel_rfl) ⟨⟨q1, q2⟩, r3, r4⟩ (fun hHeld => ?_)
           refine wpAnyH_take (i := 0) (oi := ?oic0) (v := .bool false) ?hic0 (by kernel_rfl) (by kernel_rfl) (by kernel_rfl) ?hqc0 ?hyc0 hHeld ?hrc0
           case hic0 =>
            simp only [gA, gB, gC]
            rfl
           case hqc0 => exact fun _ _ _ h => h
           case hyc0 => exact Or.inl ⟨by kernel_rfl, fun w hSw => by go_simp⟩
           try simp only [Act.put, gD, gE, gF]
           refine wpAnyH_take (i := 1) (oi := ?oic1) (v := .bool false) ?hic1 (by kernel_rfl) (by kernel_rfl) (by kernel_rfl) ?hqc1 ?hyc1 hHeld ?hrc1
           case hic1 =>
            simp only [gA, gB, gC]
            rfl
           case hqc1 => exact fun _ _ _ h => h
           case hyc1 => exact Or.inl ⟨by kernel_rfl, fun w hSw => by go_simp⟩
           try simp only [Act.put, gD, gE, gF]
           refine wpAnyH_take (i := 2) (oi := ?oic2) (v := .slice (some ⟨gl, ol, none⟩) m lc) ?hic2 (by kernel_rfl) (by kernel_rfl) (by kernel_rfl) ?hqc2 ?hyc2 hHeld ?hrc2
           case hic2 =>
            simp only [gA, gB, gC]
            rfl
           case hqc2 => exact fun _ _ _ h => h
           case hyc2 => exact Or.inl ⟨by kernel_rfl, fun w hSw => by go_simp⟩
           try simp only [Act.put, gD, gE, gF]
           refine wpAnyH_take (i := 3) (oi := ?oic3) (v := .int .i64 (j : Int)) ?hic3 (by kernel_rfl) (by kernel_rfl) (by kernel_rfl) ?hqc3 ?hyc3 hHeld ?hrc3
           case hic3 =>
            simp only [gA, gB, gC]
            rfl
           case hqc3 => exact fun _ _ _ h => h
           case hyc3 => exact Or.inl ⟨by kernel_rfl, fun w hSw => by go_simp⟩
           try simp only [Act.put, gD, gE, gF]
           refine wpAnyH_take (i := 4) (oi := ?oic4) (v := .pointer (some ⟨gl, ol + j * 2, none⟩)) ?hic4 (by kernel_rfl) (by kernel_rfl) (by kernel_rfl) ?hqc4 ?hyc4 hHeld ?hrc4
           case hic4 =>
            simp only [gA, gB, gC]
            rfl
           case hqc4 => exact fun _ _ _ h => h
           case hyc4 => exact Or.inl ⟨by kernel_rfl, fun w hSw => by go_simp⟩
           try simp only [Act.put, gD, gE, gF]
           refine wpAnyH_take (i := 5) (oi := ?oic5) (v := .agg #[.int .i64 x, .int .i64 y]) ?hic5 (by kernel_rfl) (by kernel_rfl) (by kernel_rfl) ?hqc5 ?hyc5 hHeld ?hrc5
           case hic5 =>
            simp only [gA, gB, gC]
            rfl
           case hqc5 => exact fun _ _ _ h => h
           case hyc5 => exact Or.inl ⟨by kernel_rfl, fun w hSw => by obtain ⟨⟨s1, s2⟩, s3, s4⟩ := hSw; go_simp⟩
           try simp only [Act.put, gD, gE, gF]
           refine wpAnyH_take (i := 6) (oi := ?oic6) (v := .slice (some ⟨gx, ox, none⟩) n xc) ?hic6 (by kernel_rfl) (by kernel_rfl) (by kernel_rfl) ?hqc6 ?hyc6 hHeld ?hrc6
           case hic6 =>
            simp only [gA, gB, gC]
            rfl
           case hqc6 => exact fun _ _ _ h => h
           case hyc6 => exact Or.inl ⟨by kernel_rfl, fun w hSw => by go_simp⟩
           try simp only [Act.put, gD, gE, gF]
           refine wpAnyH_take (i := 7) (oi := ?oic7) (v := .int .i64 ((k : Int) + 1)) ?hic7 (by kernel_rfl) (by kernel_rfl) (by kernel_rfl) ?hqc7 ?hyc7 hHeld ?hrc7
           case hic7 =>
            simp only [gA, gB, gC]
            rfl
           case hqc7 => exact fun _ _ _ h => h
           case hyc7 => exact Or.inl ⟨by kernel_rfl, fun w hSw => by go_simp⟩
           try simp only [Act.put, gD, gE, gF]
           refine wpAnyH_take (i := 8) (oi := ?oic8) (v := .pointer (some ⟨gx, ox + (k + 1) * 2, none⟩)) ?hic8 (by kernel_rfl) (by kernel_rfl) (by kernel_rfl) ?hqc8 ?hyc8 hHeld ?hrc8
           case hic8 =>
            simp only [gA, gB, gC]
            rfl
           case hqc8 => exact fun _ _ _ h => h
           case hyc8 => exact Or.inl ⟨by kernel_rfl, fun w hSw => by go_simp⟩
           try simp only [Act.put, gD, gE, gF]
           refine wpAnyH_take (i := 9) (oi := ?oic9) (v := .agg #[.int .i64 a, .int .i64 b]) ?hic9 (by kernel_rfl) (by kernel_rfl) (by kernel_rfl) ?hqc9 ?hyc9 hHeld ?hrc9
           case hic9 =>
            simp only [gA, gB, gC]
            rfl
           case hqc9 => exact fun _ _ _ h => h
           case hyc9 => exact Or.inl ⟨by kernel_rfl, fun w hSw => by obtain ⟨⟨s1, s2⟩, s3, s4⟩ := hSw; go_simp⟩
           try simp only [Act.put, gD, gE, gF]
           refine wpAnyH_take (i := 10) (oi := ?oic10) (v := .bool (decide (x = a) && decide (y = b))) ?hic10 (by kernel_rfl) (by kernel_rfl) (by kernel_rfl) ?hqc10 ?hyc10 hHeld ?hrc10
           case hic10 =>
            simp only [gA, gB, gC]
            rfl
           case hqc10 => exact fun _ _ _ h => h
           case hyc10 => exact Or.inl ⟨by kernel_rfl, fun w hSw => by go_simp; by_cases hxa : x = a <;> by_cases hyb : y = b <;> simp [hxa, hyb]⟩
           try simp only [Act.put, gD, gE, gF]
           refine wpAnyH_take (i := 11) (oi := ?oic11) (v := .bool (decide (x = a) && decide (y = b))) ?hic11 (by kernel_rfl) (by kernel_rfl) (by kernel_rfl) ?hqc11 ?hyc11 hHeld ?hrc11
           case hic11 =>
            simp only [gA, gB, gC]
            rfl
           case hqc11 => exact fun _ _ _ h => h
           case hyc11 => exact Or.inl ⟨by kernel_rfl, fun w hSw => by go_simp⟩
           try simp only [Act.put, gD, gE, gF]
           refine wpAnyH_take (i := 12) (oi := ?oic12) (v := .bool (decide (x = a) && decide (y = b))) ?hic12 (by kernel_rfl) (by kernel_rfl) (by kernel_rfl) ?hqc12 ?hyc12 hHeld ?hrc12
           case hic12 =>
            simp only [gA, gB, gC]
            rfl
           case hqc12 => exact fun _ _ _ h => h
           case hyc12 => exact Or.inl ⟨by kernel_rfl, fun w hSw => by go_simp⟩
           try simp only [Act.put, gD, gE, gF]
           refine wpAnyH_done (by kernel_rfl) ?_ _
           go_wp2_with fail
           go_roundw
           case rel => exact ⟨j + 1, by omega, by go_num, by rw [HF1.out], Below.drew HB3.out⟩
           case measure => simp [intOf]; omega
        · have hjm : j = m := by omega
          subst hjm
          have HHF : Hid (hasN NX a b j = hasPl (nxW ps s) a b) := by
           show _ = _
           unfold hasPl
           rw [HNX.out, HM.out, Nat.mul_div_cancel_left j (by omega)]
          have r1w := ROLD1.out
          have r2w := ROLD2.out
          have zg2 : gx < w1.heap.size := Nat.lt_of_lt_of_le zx B1.out.size
          have BA4 : Hid (Below w1.heap.size w2 wr) := HB.out.trans ((B3.out.trans (HB3.out.mono B3.out.size)).mono (Nat.le_of_lt zB))
          have BW4 : Hid (Below w.heap.size w wr) := BW3.out.trans (HB3.out.mono BW3.out.size)
          clear hlc r3 r4 hb3
          generalize hfd : hasN NX a b j = fd at *
          clear hfd
          cases fd with
          | false =>
           have HNO : Hid (walkA c ps xs n = none) := by
            show _ = _
            rw [HWK.out]
            exact wk_none (wk_no HWK2.out (by rw [HAA.out, HBB.out]; exact HHF.out.symm)) (n - 1) (by omega)
           go_wp2_with fail
           go_returns
           exact NO.out HNO.out _ BW4.out
          | true =>
           obtain ⟨p', i', hpa, hib, hok'⟩ := HOS.out.go hc hcan HHF.out.symm
           have hwk1 : wk c ps xs (k + 1) = some (doW c ps s p' i') := wk_yes HWK2.out (HAA.out.trans hpa) (HBB.out.trans hib) (by rw [← hpa, ← hib]; exact HHF.out.symm)
           have hne9 : (stW ps s.p s.i).k = 9 → s.op ≠ [] := fun h9 hnil => by
            have hh := HHF.out.symm
            unfold nxW nxS lastPl at hh
            rw [if_neg (by omega), if_pos h9, hnil] at hh
            simp [hasPl, hasN] at hh
           have hSt4 : SSt wr w1.heap.size w1.heap.size s.op s.h := HSt.out.below (B3.out.trans (HB3.out.mono B3.out.size))
           have hdo := l12Do ps c s k w1.heap.size w1.heap.size v wr.drew hc hcan (by omega) HOS.out (readsP_below (readsP_below hv BW4.out) (by go_grown)) (hSt4.below (by go_grown)) (by have := BA4.out.size; have := HSW.out; have := B2S.out; simp; omega) hne9
           rw [HPP.out, HII.out] at hdo
           have NXT : Hid (∀ W', SSt W' w1.heap.size w1.heap.size (opS (stW ps P I) s) (hS c (stW ps P I) s) → Below w1.heap.size w2 W' → ∃ (k_1 : Nat) (s : WS), k_1 + 1 ≤ n ∧ Value.int .i64 ((k : Int) + 1 + 1) = .int .i64 ((k_1 : Int) + 1) ∧ wk c ps xs k_1 = some s ∧ (s.p : Int) = xs.getD (k_1 * 2) 0 ∧ (s.i : Int) = xs.getD (k_1 * 2 + 1) 0 ∧ SSt W' w1.heap.size w1.heap.size s.op s.h ∧ Below w1.heap.size w2 W') :=
            fun W' h1 h2 => ⟨k + 1, _, by omega, by push_cast; rfl, hwk1, by rw [HAA.out]; exact hpa.symm, by rw [HBB.out]; exact hib.symm, by unfold doW; rw [HPP.out, HII.out]; exact h1, h2⟩
           have hcv4 := (one_cell ((BA4.out.block _ hs1).trans HP2.out)).1
           have r1 := (HX2.out.cell (p := ⟨gx, ox + k * 2, none⟩) zx).trans r1w
           have r2 := (HX2.out.cell (p := ⟨gx, ox + k * 2 + 1, none⟩) zx).trans r2w
           have r14 := (BW4.out.cell (p := ⟨gx, ox + k * 2, none⟩) zx).trans r1w
           have r24 := (BW4.out.cell (p := ⟨gx, ox + k * 2 + 1, none⟩) zx).trans r2w
           clear hwk1 hok' hne9 hpa hib
           go_wp2_with fail
           refine wp_region_held_drew (S := fun w' => w'.cell? ⟨w.heap.size, 0, none⟩ = some v ∧ w'.cell? ⟨gx, ox + k * 2, none⟩ = some (.int .i64 (P : Int)) ∧ w'.cell? ⟨gx, ox + k * 2 + 1, none⟩ = some (.int .i64 (I : Int))) (by kernel_rfl) ⟨hcv4, r14, r24⟩ (fun hHeld => ?_)
           refine wpAnyH_take (i := 0) (oi := ?oid0) (v := .agg #[v]) ?hid0 (by kernel_rfl) (by kernel_rfl) (by kernel_rfl) ?hqd0 ?hyd0 hHeld ?hrd0
           case hid0 =>
            simp only [gA, gB, gC]
            rfl
           case hqd0 => exact fun _ _ _ h => h
           case hyd0 => exact Or.inl ⟨by kernel_rfl, fun w hSw => by obtain ⟨s1, s2, s3⟩ := hSw; go_simp⟩
           try simp only [Act.put, gD, gE, gF]
           refine wpAnyH_take (i := 1) (oi := ?oid1) (v := .int .i64 c) ?hid1 (by kernel_rfl) (by kernel_rfl) (by kernel_rfl) ?hqd1 ?hyd1 hHeld ?hrd1
           case hid1 =>
            simp only [gA, gB, gC]
            rfl
           case hqd1 => exact fun _ _ _ h => h
           case hyd1 => exact Or.inl ⟨by kernel_rfl, fun w hSw => by go_simp⟩
           try simp only [Act.put, gD, gE, gF]
           refine wpAnyH_take (i := 2) (oi := ?oid2) (v := .slice (some ⟨gx, ox, none⟩) n xc) ?hid2 (by kernel_rfl) (by kernel_rfl) (by kernel_rfl) ?hqd2 ?hyd2 hHeld ?hrd2
           case hid2 =>
            simp only [gA, gB, gC]
            rfl
           case hqd2 => exact fun _ _ _ h => h
           case hyd2 => exact Or.inl ⟨by kernel_rfl, fun w hSw => by go_simp⟩
           try simp only [Act.put, gD, gE, gF]
           refine wpAnyH_take (i := 3) (oi := ?oid3) (v := .int .i64 ((k : Int) + 1)) ?hid3 (by kernel_rfl) (by kernel_rfl) (by kernel_rfl) ?hqd3 ?hyd3 hHeld ?hrd3
           case hid3 =>
            simp only [gA, gB, gC]
            rfl
           case hqd3 => exact fun _ _ _ h => h
           case hyd3 => exact Or.inl ⟨by kernel_rfl, fun w hSw => by go_simp⟩
           try simp only [Act.put, gD, gE, gF]
           refine wpAnyH_take (i := 4) (oi := ?oid4) (v := .int .i64 (k : Int)) ?hid4 (by kernel_rfl) (by kernel_rfl) (by kernel_rfl) ?hqd4 ?hyd4 hHeld ?hrd4
           case hid4 =>
            simp only [gA, gB, gC]
            rfl
           case hqd4 => exact fun _ _ _ h => h
           case hyd4 => exact Or.inl ⟨by kernel_rfl, fun w hSw => by go_simp⟩
           try simp only [Act.put, gD, gE, gF]
           refine wpAnyH_take (i := 5) (oi := ?oid5) (v := .pointer (some ⟨gx, ox + k * 2, none⟩)) ?hid5 (by kernel_rfl) (by kernel_rfl) (by kernel_rfl) ?hqd5 ?hyd5 hHeld ?hrd5
           case hid5 =>
            simp only [gA, gB, gC]
            rfl
           case hqd5 => exact fun _ _ _ h => h
           case hyd5 => exact Or.inl ⟨by kernel_rfl, fun w hSw => by go_simp⟩
           try simp only [Act.put, gD, gE, gF]
           refine wpAnyH_take (i := 6) (oi := ?oid6) (v := .agg #[.int .i64 (P : Int), .int .i64 (I : Int)]) ?hid6 (by kernel_rfl) (by kernel_rfl) (by kernel_rfl) ?hqd6 ?hyd6 hHeld ?hrd6
           case hid6 =>
            simp only [gA, gB, gC]
            rfl
           case hqd6 => exact fun _ _ _ h => h
           case hyd6 => exact Or.inl ⟨by kernel_rfl, fun w hSw => by obtain ⟨s1, s2, s3⟩ := hSw; go_simp⟩
           try simp only [Act.put, gD, gE, gF]
           refine wpAnyH_take (i := 7) (oi := ?oid7) (v := .pointer (some ⟨w1.heap.size, 0, none⟩)) ?hid7 (by kernel_rfl) (by kernel_rfl) (by kernel_rfl) ?hqd7 ?hyd7 hHeld ?hrd7
           case hid7 =>
            simp only [gA, gB, gC]
            rfl
           case hqd7 => exact fun _ _ _ h => h
           case hyd7 => exact Or.inl ⟨by kernel_rfl, fun w hSw => by go_simp⟩
           try simp only [Act.put, gD, gE, gF]
           refine wpAnyH_ready (rs := [8]) (by kernel_rfl) (by simp) ?_
           refine (AllReadyH.cons (o := ?ood8) ?hod8 (fun K hK => ?hkd8) AllReadyH.nil)
           case hod8 =>
            simp only [gA, gB, gC]
            rfl
           case hkd8 =>
            go_simp
            go_at_call 94
            refine hdo.mono ?_
            rintro e w5 ⟨⟨x5, rfl⟩, S5, b5⟩
            have SS5 : Hid _ := S5
            have B5 : Hid (Below w1.heap.size w2 w5) := Below.trans (Below.drew BA4.out) b5
            clear b5 S5
            try go_wp2_with fail
            refine hK.out _ _ ⟨(B5.out.cell hs1).trans hc2, (B5.out.cell zg2).trans r1, (B5.out.cell zg2).trans r2⟩ (fun hHeld => ?_)
            clear hK K
            try simp only [Act.put, gD, gE, gF]
            refine wpAnyH_done (by kernel_rfl) ?_ _
            go_wp2_with fail
            go_roundw
            case rel =>
             exact NXT.out _ SS5.out B5.out
            case measure => simp [intOf]; omega
    · have hkn : k + 1 = n := by omega
      have HFI : Hid (walkA c ps xs n = some s) := by
       show _ = _
       rw [HWK.out, ← hwk]
       congr 1; omega
      have hnl : ¬ (k : Int) + 1 < (n : Int) := by omega
      clear hsp hsi hwk
      go_wp2_with fail
      go_returns
      exact ⟨⟨w1.heap.size, true, rfl, fun (h : walkA c ps xs n = none) => (by rw [HFI.out] at h; cases h), fun s' (h : walkA c ps xs n = some s') => by rw [HFI.out] at h; cases h; exact ⟨rfl, hSt.mono (by omega)⟩⟩, HBW.out⟩
 · have HNO : Hid _ := HF.out hf
   have HFF : Hid (¬ (x0 = 0 ∧ x1 = 0)) := hf
   clear HF HT hf
   go_wp2_with fail
   all_goals first
    | exact absurd ⟨by assumption, by assumption⟩ HFF.out
    | (go_returns; exact NO.out HNO.out _ B2.out)

end Go.Proofs.Ytnjbihfceckpfaa
