/-
 Chapter 12, the program's side: walked.
-/
import Derived.Test.YtnjbihfceckpfaaG00Stmt
import Derived.Test.YtnjbihfceckpfaaImplWkG
import Derived.Test.YtnjbihfceckpfaaContainsP
namespace Go.Proofs.Ytnjbihfceckpfaa
open Go.RowKit
set_option linter.unusedVariables false
set_option linter.unusedSimpArgs false
set_option maxHeartbeats 4000000
set_option maxRecDepth 20000

/-- What walked leaves. -/
def WiAns (c : Int) (ps : List (List Stm)) (xs : List Int) (n : Nat) (v : Value) (base : Nat) (e : Ending) (w' : World) : Prop :=
 ∃ pv b, e = .returned (.tuple #[pv, .bool b]) ∧ (¬ (c = 1 ∨ c = 2) ∨ walkA c ps xs n = none → b = false) ∧ ∀ s, (c = 1 ∨ c = 2) → walkA c ps xs n = some s → b = true ∧ ∃ B, pv = .pointer (some ⟨B, 0, none⟩) ∧ WAt w' base B v c s

theorem WAt.mono {w : World} {base base' B : Nat} {v : Value} {c : Int} {s : WS} (h : WAt w base B v c s) (hb : base' ≤ base) : WAt w base' B v c s := by
 obtain ⟨h1, cv, h2, h3⟩ := h
 exact ⟨by omega, cv, h2, own_mono h3 hb⟩

theorem implWalked (ps : List (List Stm)) (c : Int) (xs : List Int) (n : Nat) (v xv : Value) (w : World) (hl : ps.length ≤ maxLen) (hp : ∀ p ∈ ps, p.length ≤ maxLen) (hv : ReadsP w v ps)
 (hx : xs.length = 2 * n) (hn : n ≤ maxLen) (hxv : Reads2 w xv n (ints xs)) (hcap : ∀ a c', xv = .slice a n c' → n ≤ c') :
 Calls Try.prog 64 #[.agg #[v], .int .i64 c, xv] w fun e w' => WiAns c ps xs n v w.heap.size e w' ∧ Below w.heap.size w w' := by
 unfold maxLen at hn
 obtain ⟨pa, pc, hvs, _⟩ := id hv
 subst hvs
 obtain ⟨W, hW⟩ : ∃ W, w.alloc (.cells #[.slice pa ps.length pc] 30) = W := ⟨_, rfl⟩
 have b0 : Below w.heap.size w W := by rw [← hW]; go_grown
 have HP : Hid (W.heap[w.heap.size]? = some (.cells #[.slice pa ps.length pc] 30 (0, 0))) := by show _ = _; rw [← hW]; exact heap_alloc_new w _
 have hc0 := (one_cell HP.out).1
 have hcs := canSum ps c _ W hl hp (readsP_below hv b0)
 have hz0 : w.heap.size < W.heap.size := (Array.getElem?_eq_some_iff.1 HP.out).1
 obtain ⟨xo, xc, rfl, hxc⟩ := id hxv
 have hxcap := hcap _ _ rfl
 clear hcap
 go_enter Try.func64, Try.ntmps64
 go_wp2_with fail
 go_at_call 44
 refine hcs.mono ?_
 rintro e w2 ⟨rfl, b2⟩
 have B2 : Hid (Below w.heap.size w w2) := b0.trans (b2.mono b0.size)
 have HP2 : Hid (w2.heap[w.heap.size]? = some (.cells #[.slice pa ps.length pc] 30 (0, 0))) := (b2.block _ hz0).trans HP.out
 have hc2 := (one_cell HP2.out).1
 have hz2 : w.heap.size < w2.heap.size := (Array.getElem?_eq_some_iff.1 HP2.out).1
 have NO : Hid ((¬ (c = 1 ∨ c = 2) ∨ walkA c ps xs n = none) → ∀ W' pv, Below w.heap.size w W' → WiAns c ps xs n (.slice pa ps.length pc) w.heap.size (.returned (.tuple #[pv, .bool false])) W' ∧ Below w.heap.size w W') :=
  fun hno W' pv hW' => ⟨⟨pv, false, rfl, fun _ => rfl, fun s hc hs => by rcases hno with h | h; exact absurd hc h; rw [h] at hs; cases hs⟩, hW'⟩
 clear hcs hc0 b2 b0 hW HP hz0
 cases hok : okB ps c with
 | false =>
  have HNO : Hid (¬ (c = 1 ∨ c = 2) ∨ walkA c ps xs n = none) := by
   by_cases hc : c = 1 ∨ c = 2
   · refine .inr ?_
     have : ¬ programOk ps = true := fun h => by rw [show okB ps c = true by simp [okB, h, hc]] at hok; cases hok
     unfold walkA; rw [if_neg (fun h => this h.1)]
   · exact .inl hc
  clear hok
  go_wp2_with fail
  go_returns
  exact NO.out HNO.out _ _ B2.out
 | true =>
 obtain ⟨hpk, hc, hcan, h4⟩ := okB_parts hok
 have HOK : Hid (programOk ps = true) := hpk
 have HC : Hid (c = 1 ∨ c = 2) := hc
 clear hok hpk
 by_cases h0 : n = 0
 · subst h0
   have HNO : Hid (walkA c ps xs 0 = none) := by show _ = _; unfold walkA; rw [if_neg (by omega)]
   clear hc
   go_wp2_with fail
   go_returns
   exact NO.out (.inr HNO.out) _ _ B2.out
 by_cases h100 : 100 < n
 · have HNO : Hid (walkA c ps xs n = none) := by show _ = _; unfold walkA; rw [if_neg (by omega)]
   have hd1 : decide ((n : Int) < 1) = false := by simp; omega
   have hd2 : decide ((100 : Int) < (n : Int)) = true := by simp; omega
   clear hc
   go_wp2_with fail
   go_returns
   exact NO.out (.inr HNO.out) _ _ B2.out
 have hx0 : (ints xs)[0]? = some (.int .i64 (xs.getD 0 0)) := by simp [ints, List.getD, show 0 < xs.length by omega]
 have hx1 : (ints xs)[1]? = some (.int .i64 (xs.getD 1 0)) := by simp [ints, List.getD, show 1 < xs.length by omega]
 obtain ⟨gx, ox, rfl, r0⟩ := hxc 0 _ hx0
 obtain ⟨g9, o9, e9, r1⟩ := hxc 1 _ hx1
 cases e9
 have zx := World.block_lt_of_cell? w _ r0
 simp only [Nat.add_zero] at r0 zx
 have t0 := (B2.out.cell (p := ⟨gx, ox, none⟩) zx).trans r0
 have t1 := (B2.out.cell (p := ⟨gx, ox + 1, none⟩) zx).trans r1
 have HF : Hid (¬ (xs.getD 0 0 = 0 ∧ xs.getD 1 0 = 0) → walkA c ps xs n = none) := fun h => by unfold walkA; rw [if_neg (by intro hh; exact h ⟨hh.2.2.2.1, hh.2.2.2.2⟩)]
 have HT : Hid (xs.getD 0 0 = 0 ∧ xs.getD 1 0 = 0 → walkA c ps xs n = wk c ps xs (n - 1)) := fun h => by unfold walkA; rw [if_pos ⟨HOK.out, by omega, by omega, h.1, h.2⟩]
 have hnp : (0 : Int) < (n : Int) := by omega
 have hd1 : decide ((n : Int) < 1) = false := by simp; omega
 have hd2 : decide ((100 : Int) < (n : Int)) = false := by simp; omega
 clear r0 r1 hx0 hx1 hc
 generalize hg0 : xs.getD 0 0 = x0 at *
 generalize hg1 : xs.getD 1 0 = x1 at *
 have HG0 : Hid (xs.getD 0 0 = x0) := hg0
 have HG1 : Hid (xs.getD 1 0 = x1) := hg1
 clear hg0 hg1
 by_cases hf : x0 = 0 ∧ x1 = 0
 · obtain ⟨rfl, rfl⟩ := hf
   have HWK : Hid (walkA c ps xs n = wk c ps xs (n - 1)) := HT.out ⟨rfl, rfl⟩
   have h1p : 1 ≤ ps.length := by
    have := HOK.out
    unfold programOk at this
    simp only [Bool.and_eq_true, decide_eq_true_eq] at this
    omega
   have hwko := fun k s (h : wk c ps xs k = some s) => wk_ok HC.out hcan h1p k s h
   have hn1 : 1 ≤ n := by omega
   have hn2 : (1 : Int) ≤ (n : Int) := by omega
   have hn3 : (n : Int) ≤ (xc : Int) := by omega
   have hn4 : 1 ≤ xc := by omega
   clear HF HT
   go_wp2_with fail
   refine wp_region_held_drew (S := fun w' => w'.cell? ⟨w.heap.size, 0, none⟩ = some (.slice pa ps.length pc)) (by kernel_rfl) hc2 (fun hHeld => ?_)
   refine wpAnyH_take (i := 0) (oi := ?oia0) (v := .pointer (some ⟨w.heap.size, 0, none⟩)) ?hia0 (by kernel_rfl) (by kernel_rfl) (by kernel_rfl) ?hqa0 ?hya0 hHeld ?hra0
   case hia0 =>
    simp only [gA, gB, gC]
    rfl
   case hqa0 => exact fun _ _ _ h => h
   case hya0 => exact Or.inl ⟨by kernel_rfl, fun w hSw => by go_simp⟩
   try simp only [Act.put, gD, gE, gF]
   refine wpAnyH_take (i := 1) (oi := ?oia1) (v := .slice pa ps.length pc) ?hia1 (by kernel_rfl) (by kernel_rfl) (by kernel_rfl) ?hqa1 ?hya1 hHeld ?hra1
   case hia1 =>
    simp only [gA, gB, gC]
    rfl
   case hqa1 => exact fun _ _ _ h => h
   case hya1 => exact Or.inl ⟨by kernel_rfl, fun w hSw => by go_simp⟩
   try simp only [Act.put, gD, gE, gF]
   refine wpAnyH_take (i := 2) (oi := ?oia2) (v := .int .i64 c) ?hia2 (by kernel_rfl) (by kernel_rfl) (by kernel_rfl) ?hqa2 ?hya2 hHeld ?hra2
   case hia2 =>
    simp only [gA, gB, gC]
    rfl
   case hqa2 => exact fun _ _ _ h => h
   case hya2 => exact Or.inl ⟨by kernel_rfl, fun w hSw => by go_simp⟩
   try simp only [Act.put, gD, gE, gF]
   refine wpAnyH_take (i := 3) (oi := ?oia3) (v := .int .i64 c) ?hia3 (by kernel_rfl) (by kernel_rfl) (by kernel_rfl) ?hqa3 ?hya3 hHeld ?hra3
   case hia3 =>
    simp only [gA, gB, gC]
    rfl
   case hqa3 => exact fun _ _ _ h => h
   case hya3 => exact Or.inl ⟨by kernel_rfl, fun w hSw => by go_simp⟩
   try simp only [Act.put, gD, gE, gF]
   refine wpAnyH_ready (rs := [4]) (by kernel_rfl) (by simp) ?_
   refine (AllReadyH.cons (o := ?ooa4) ?hoa4 (fun K hK => ?hka4) AllReadyH.nil)
   case hoa4 =>
    simp only [gA, gB, gC]
    rfl
   case hka4 =>
    go_simp
    go_at_call 89
    refine (implStart c _).mono ?_
    rintro e w3 ⟨rfl, b3⟩
    have B3 : Hid (Below w2.heap.size w2 w3) := Below.trans (by go_grown) b3
    clear b3
    try go_wp2_with fail
    refine hK.out _ _ ((B3.out.cell hz2).trans hc2) (fun hHeld => ?_)
    clear hK K
    try simp only [Act.put, gD, gE, gF]
    refine wpAnyH_take (i := 5) (oi := ?oia5) (v := .agg #[.slice none 0 0, .slice pa ps.length pc, .int .i64 c, .int .i64 0, .int .i64 0, .int .i64 (startAns c)]) ?hia5 (by kernel_rfl) (by kernel_rfl) (by kernel_rfl) ?hqa5 ?hya5 hHeld ?hra5
    case hia5 =>
     simp only [gA, gB, gC]
     rfl
    case hqa5 => exact fun _ _ _ h => h
    case hya5 => exact Or.inl ⟨by kernel_rfl, fun w hSw => by go_simp⟩
    try simp only [Act.put, gD, gE, gF]
    refine wpAnyH_ready (rs := [6]) (by kernel_rfl) (by simp) ?_
    refine (AllReadyH.cons (o := ?ooa6) ?hoa6 (fun K hK => ?hka6) AllReadyH.nil)
    case hoa6 =>
     simp only [gA, gB, gC]
     rfl
    case hka6 =>
     go_simp
     try go_wp2_with fail
     have B4 : Hid (Below w3.heap.size w3 (w3.alloc (.cells #[.slice none 0 0, .slice pa ps.length pc, .int .i64 c, .int .i64 0, .int .i64 0, .int .i64 (startAns c)] 109))) := Below.alloc (Below.refl _ _) (Nat.le_refl _) _
     have E4 : Hid ((w3.alloc (.cells #[.slice none 0 0, .slice pa ps.length pc, .int .i64 c, .int .i64 0, .int .i64 0, .int .i64 (startAns c)] 109)).heap[w3.heap.size]? = some (.cells #[.slice none 0 0, .slice pa ps.length pc, .int .i64 c, .int .i64 0, .int .i64 0, .int .i64 (startAns c)] 109 (0, 0))) := heap_alloc_new w3 (.cells #[.slice none 0 0, .slice pa ps.length pc, .int .i64 c, .int .i64 0, .int .i64 0, .int .i64 (startAns c)] 109)
     generalize (w3.alloc (.cells #[.slice none 0 0, .slice pa ps.length pc, .int .i64 c, .int .i64 0, .int .i64 0, .int .i64 (startAns c)] 109)) = w4 at *
     refine hK.out _ _ ((B4.out.cell (Nat.lt_of_lt_of_le hz2 B3.out.size)).trans ((B3.out.cell hz2).trans hc2)) (fun hHeld => ?_)
     clear hK K
     try simp only [Act.put, gD, gE, gF]
     refine wpAnyH_take (i := 7) (oi := ?oia7) (v := .pointer (some ⟨w3.heap.size, 0, none⟩)) ?hia7 (by kernel_rfl) (by kernel_rfl) (by kernel_rfl) ?hqa7 ?hya7 hHeld ?hra7
     case hia7 =>
      simp only [gA, gB, gC]
      rfl
     case hqa7 => exact fun _ _ _ h => h
     case hya7 => exact Or.inl ⟨by kernel_rfl, fun w hSw => by go_simp⟩
     try simp only [Act.put, gD, gE, gF]
     refine wpAnyH_done (by kernel_rfl) ?_ _
     have W0 : Hid (wk c ps xs 0 = some ⟨0, 0, [], startAns c⟩) := rfl
     have BB3 : Hid (Below w.heap.size w w3) := B2.out.trans (B3.out.mono B2.out.size)
     have BB4 : Hid (Below w.heap.size w w4) := BB3.out.trans (B4.out.mono BB3.out.size)
     have HS0 : Hid (WAt w4 w3.heap.size w3.heap.size (.slice pa ps.length pc) c ⟨0, 0, [], startAns c⟩) := ⟨Nat.le_refl _, _, E4.out, World.ownsRow_nil _ _ _ _⟩
     have hs3 := BB3.out.size
     clear t0 t1 hd1 hd2
     by_cases hne1 : n = 1
     · have HFI : Hid (walkA c ps xs n = some ⟨0, 0, [], startAns c⟩) := by
        show _ = _
        rw [HWK.out, hne1]
        exact W0.out
       subst hne1
       go_wp2_with fail
       all_goals
        refine wp_loop_rounds 1 ?_
        rw [rounds_succ]
        go_wp2_with fail
        go_returns
        exact ⟨⟨_, true, rfl, fun (h : ¬ (c = 1 ∨ c = 2) ∨ walkA c ps xs 1 = none) => (by rcases h with h | h; exact absurd HC.out h; rw [HFI.out] at h; cases h), fun s' _ (h : walkA c ps xs 1 = some s') => by rw [HFI.out] at h; cases h; exact ⟨rfl, _, rfl, HS0.out.mono hs3⟩⟩, BB4.out⟩
     have hxc1 : ¬ xc = 1 := by omega
     go_wp2_with fail
     go_loopw [42] (fun iv wr => ∃ (k : Nat) (s : WS), k + 1 ≤ n ∧ iv = .int .i64 (k : Int) ∧ wk c ps xs k = some s ∧ WAt wr w3.heap.size w3.heap.size (.slice pa ps.length pc) c s ∧ Below w3.heap.size w4 wr) (fun iv _ => n - (intOf iv).toNat)
     case atStart => exact ⟨0, _, by omega, rfl, W0.out, HS0.out, Below.refl _ _⟩
     case round =>
      obtain ⟨k, s, hk, rfl, hwk, hWa, hB⟩ := hrel
      have HOS : Hid (OkW ps s k) := hwko k s hwk
      have HWK2 : Hid (wk c ps xs k = some s) := hwk
      have HWA : Hid (WAt wr w3.heap.size w3.heap.size (.slice pa ps.length pc) c s) := hWa
      have HB : Hid (Below w3.heap.size w4 wr) := hB
      have HBW : Hid (Below w.heap.size w wr) := BB4.out.trans (hB.mono hs3)
      clear hwk hWa hB
      by_cases hlt : k + 1 < n
      · obtain ⟨a, ha⟩ : ∃ a, xs.getD ((k + 1) * 2) 0 = a := ⟨_, rfl⟩
        obtain ⟨b, hb⟩ : ∃ b, xs.getD ((k + 1) * 2 + 1) 0 = b := ⟨_, rfl⟩
        have e1 : (ints xs)[(k + 1) * 2]? = some (.int .i64 a) := by rw [← ha]; simp [ints, List.getD, show (k + 1) * 2 < xs.length by omega]
        have e2 : (ints xs)[(k + 1) * 2 + 1]? = some (.int .i64 b) := by rw [← hb]; simp [ints, List.getD, show (k + 1) * 2 + 1 < xs.length by omega]
        have HAA : Hid (xs.getD ((k + 1) * 2) 0 = a) := ha
        have HBB : Hid (xs.getD ((k + 1) * 2 + 1) 0 = b) := hb
        clear ha hb
        obtain ⟨g9, o9, e9, r3⟩ := hxc _ _ e1
        cases e9
        obtain ⟨g9, o9, e9, r4⟩ := hxc _ _ e2
        cases e9
        have q1 : ox + (k + 1) * 2 = ox + 2 + k * 2 := by omega
        have q2 : ox + ((k + 1) * 2 + 1) = ox + 2 + k * 2 + 1 := by omega
        rw [q1] at r3
        rw [q2] at r4
        have r3 := (HBW.out.cell (p := ⟨gx, ox + 2 + k * 2, none⟩) zx).trans r3
        have r4 := (HBW.out.cell (p := ⟨gx, ox + 2 + k * 2 + 1, none⟩) zx).trans r4
        have hlt' : (k : Int) < ((n - 1 : Nat) : Int) := by omega
        clear e1 e2 q1 q2
        obtain ⟨V, hV⟩ : ∃ V, wr.alloc (.cells #[.int .i64 a, .int .i64 b] 56) = V := ⟨_, rfl⟩
        have bV : Below wr.heap.size wr V := by rw [← hV]; go_grown
        have HNB : Hid (V.heap[wr.heap.size]? = some (.cells #[.int .i64 a, .int .i64 b] 56 (0, 0))) := by show _ = _; rw [← hV]; exact heap_alloc_new wr _
        obtain ⟨n0, n1⟩ := go_cells2 HNB.out
        have BV : Hid (Below w3.heap.size w4 V) := HB.out.trans (bV.mono (by have := HWA.out.lt; omega))
        have BVW : Hid (Below w.heap.size w V) := HBW.out.trans (bV.mono HBW.out.size)
        have zV : wr.heap.size < V.heap.size := (Array.getElem?_eq_some_iff.1 HNB.out).1
        have HWV : Hid (WAt V w3.heap.size w3.heap.size (.slice pa ps.length pc) c s) := HWA.out.below bV
        have hnp' := fun W' (hb : Below V.heap.size V W') => implNextPl ps c s w3.heap.size w3.heap.size k _ W' hcan h4 (by omega) HOS.out (readsP_below hv (BVW.out.trans (hb.mono BVW.out.size))) (HWV.out.below hb)
        obtain ⟨m, hm, hm2⟩ := nxW_len ps s
        obtain ⟨NX, hNX⟩ : ∃ NX, nxW ps s = NX := ⟨_, rfl⟩
        have HNX : Hid (nxW ps s = NX) := hNX
        rw [hNX] at hm hnp'
        clear hNX bV
        obtain ⟨fd, hfd⟩ : ∃ fd, hasPl NX a b = fd := ⟨_, rfl⟩
        have HFD : Hid (hasPl NX a b = fd) := hfd
        have hcon := fun lv W' hr => sliceContainsP NX a b lv W' m hm (by omega) hr
        rw [hfd] at hcon
        clear hfd
        go_wp2_with fail
        refine wp_region_held_drew (S := fun w' => w'.cell? ⟨wr.heap.size, 0, none⟩ = some (.int .i64 a) ∧ w'.cell? ⟨wr.heap.size, 1, none⟩ = some (.int .i64 b)) (by kernel_rfl) ⟨n0, n1⟩ (fun hHeld => ?_)
        refine wpAnyH_take (i := 0) (oi := ?oib0) (v := .pointer (some ⟨w3.heap.size, 0, none⟩)) ?hib0 (by kernel_rfl) (by kernel_rfl) (by kernel_rfl) ?hqb0 ?hyb0 hHeld ?hrb0
        case hib0 =>
         simp only [gA, gB, gC]
         rfl
        case hqb0 => exact fun _ _ _ h => h
        case hyb0 => exact Or.inl ⟨by kernel_rfl, fun w hSw => by go_simp⟩
        try simp only [Act.put, gD, gE, gF]
        refine wpAnyH_take (i := 2) (oi := ?oib2) (v := .agg #[.int .i64 a, .int .i64 b]) ?hib2 (by kernel_rfl) (by kernel_rfl) (by kernel_rfl) ?hqb2 ?hyb2 hHeld ?hrb2
        case hib2 =>
         simp only [gA, gB, gC]
         rfl
        case hqb2 => exact fun _ _ _ h => h
        case hyb2 => exact Or.inl ⟨by kernel_rfl, fun w hSw => by obtain ⟨s1, s2⟩ := hSw; go_simp⟩
        try simp only [Act.put, gD, gE, gF]
        refine wpAnyH_ready (rs := [1]) (by kernel_rfl) (by simp) ?_
        refine (AllReadyH.cons (o := ?oob1) ?hob1 (fun K hK => ?hkb1) AllReadyH.nil)
        case hob1 =>
         simp only [gA, gB, gC]
         rfl
        case hkb1 =>
         go_simp
         go_at_call 91
         refine (hnp' V.drew (by go_grown)).mono ?_
         rintro e w5 ⟨lv, rfl, ol, b5⟩
         have B5 : Hid (Below V.heap.size V w5) := Below.trans (by go_grown) b5
         obtain ⟨m5, hm5, ol5⟩ := ol.ex
         obtain rfl : m5 = m := by omega
         clear b5 ol
         try go_wp2_with fail
         refine hK.out _ _ ⟨(B5.out.cell zV).trans n0, (B5.out.cell zV).trans n1⟩ (fun hHeld => ?_)
         clear hK K
         try simp only [Act.put, gD, gE, gF]
         refine wpAnyH_ready (rs := [3]) (by kernel_rfl) (by simp) ?_
         refine (AllReadyH.cons (o := ?oob3) ?hob3 (fun K hK => ?hkb3) AllReadyH.nil)
         case hob3 =>
          simp only [gA, gB, gC]
          rfl
         case hkb3 =>
          go_simp
          go_at_call 90
          refine (hcon _ _ (reads2_own ol5)).mono ?_
          rintro e w6 ⟨rfl, b6⟩
          have B6 : Hid (Below V.heap.size V w6) := B5.out.trans (b6.mono B5.out.size)
          clear b6
          try go_wp2_with fail
          refine hK.out _ _ ⟨(B6.out.cell zV).trans n0, (B6.out.cell zV).trans n1⟩ (fun hHeld => ?_)
          clear hK K
          try simp only [Act.put, gD, gE, gF]
          refine wpAnyH_take (i := 4) (oi := ?oib4) (v := .bool (!fd)) ?hib4 (by kernel_rfl) (by kernel_rfl) (by kernel_rfl) ?hqb4 ?hyb4 hHeld ?hrb4
          case hib4 =>
           simp only [gA, gB, gC]
           rfl
          case hqb4 => exact fun _ _ _ h => h
          case hyb4 => exact Or.inl ⟨by kernel_rfl, fun w hSw => by go_simp⟩
          try simp only [Act.put, gD, gE, gF]
          refine wpAnyH_done (by kernel_rfl) ?_ _
          have BV6 : Hid (Below w3.heap.size w4 w6) := BV.out.trans (B6.out.mono (by have := HWV.out.lt; omega))
          have BW6 : Hid (Below w.heap.size w w6) := BVW.out.trans (B6.out.mono BVW.out.size)
          cases fd with
          | false =>
           have HNO : Hid (walkA c ps xs n = none) := by
            show _ = _
            rw [HWK.out]
            exact wk_none (wk_no HWK2.out (by rw [HAA.out, HBB.out, HNX.out]; exact HFD.out)) (n - 1) (by omega)
           go_wp2_with fail
           go_returns
           exact NO.out (.inr HNO.out) _ _ BW6.out
          | true =>
           obtain ⟨p', i', hpa, hib, hok'⟩ := HOS.out.go HC.out hcan (a := a) (b := b) (by rw [HNX.out]; exact HFD.out)
           have hwk1 : wk c ps xs (k + 1) = some (doW c ps s p' i') := wk_yes HWK2.out (HAA.out.trans hpa) (HBB.out.trans hib) (by rw [← hpa, ← hib, HNX.out]; exact HFD.out)
           have HWK3 : Hid (wk c ps xs (k + 1) = some (doW c ps s p' i')) := hwk1
           have hne9 : (stW ps s.p s.i).k = 9 → s.op ≠ [] := fun h9 hnil => by
            have hh := HFD.out
            rw [← HNX.out] at hh
            unfold nxW nxS lastPl at hh
            rw [if_neg (by omega), if_pos h9, hnil] at hh
            simp [hasPl, hasN] at hh
           have hgo := implGoTo ps c s w3.heap.size w3.heap.size k p' i' (.slice pa ps.length pc) w6 HC.out hcan (by omega) HOS.out (readsP_below hv BW6.out) (HWV.out.below B6.out) (by have := (HWV.out.below B6.out).lt; omega) hne9
           rw [← hpa, ← hib] at hgo
           have n06 := (B6.out.cell zV).trans n0
           have n16 := (B6.out.cell zV).trans n1
           clear hwk1 hok' hne9 hpa hib
           go_wp2_with fail
           go_at_call 92
           refine hgo.mono ?_
           rintro e w7 ⟨⟨x7, rfl⟩, WA7, b7⟩
           have H7 : Hid (WAt w7 w3.heap.size w3.heap.size (.slice pa ps.length pc) c (doW c ps s p' i')) := WA7
           have B7 : Hid (Below w3.heap.size w4 w7) := BV6.out.trans b7
           clear WA7 b7
           go_wp2_with fail
           go_roundw
           case rel => exact ⟨k + 1, _, by omega, by go_num, HWK3.out, H7.out, B7.out⟩
           case measure => simp [intOf]; omega
      · have hkn : k + 1 = n := by omega
        have HFI : Hid (walkA c ps xs n = some s) := by
         show _ = _
         rw [HWK.out, ← HWK2.out]
         congr 1; omega
        have hnl : ¬ (k : Int) < ((n - 1 : Nat) : Int) := by omega
        go_wp2_with fail
        go_returns
        exact ⟨⟨_, true, rfl, fun (h : ¬ (c = 1 ∨ c = 2) ∨ walkA c ps xs n = none) => (by rcases h with h | h; exact absurd HC.out h; rw [HFI.out] at h; cases h), fun s' _ (h : walkA c ps xs n = some s') => by rw [HFI.out] at h; cases h; exact ⟨rfl, _, rfl, HWA.out.mono hs3⟩⟩, HBW.out⟩
 · have HNO : Hid _ := HF.out hf
   have HFF : Hid (¬ (x0 = 0 ∧ x1 = 0)) := hf
   clear HF HT hf
   go_wp2_with fail
   all_goals first
    | exact absurd ⟨by assumption, by assumption⟩ HFF.out
    | (go_returns; exact NO.out (.inr HNO.out) _ _ B2.out)

end Go.Proofs.Ytnjbihfceckpfaa
