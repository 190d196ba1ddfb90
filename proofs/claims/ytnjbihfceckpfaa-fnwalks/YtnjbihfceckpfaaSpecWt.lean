/-
 Chapter 12, the specification's side: WalkOk, Open, Steps, Holding.
-/
import Derived.Test.YtnjbihfceckpfaaG00Stmt
import Derived.Test.YtnjbihfceckpfaaSpecWk
namespace Go.Proofs.Ytnjbihfceckpfaa
open Go.RowKit
set_option linter.unusedVariables false
set_option linter.unusedSimpArgs false
set_option maxHeartbeats 4000000
set_option maxRecDepth 20000

theorem specWalkOk (ps : List (List Stm)) (xs : List Int) (n : Nat) (v xv : Value) (w : World) (hl : ps.length ≤ maxLen) (hp : ∀ p ∈ ps, p.length ≤ maxLen) (hv : ReadsP w v ps)
 (hx : xs.length = 2 * n) (hn : n ≤ maxLen) (hxv : Reads2 w xv n (ints xs)) :
 Calls Try.prog 37 #[.agg #[v], xv] w fun e w' => e = .returned (.bool (walkA 1 ps xs n).isSome) ∧ Below w.heap.size w w' := by
 have b0 : Below w.heap.size w (w.alloc (.cells #[v] 30)) := by go_grown
 have hw := l12Walk ps 1 xs n v xv _ (.inl rfl) hl hp (readsP_below hv b0) hx hn (reads2_below hxv b0)
 obtain ⟨xo, xc, rfl, _⟩ := hxv
 obtain ⟨bb, hbb⟩ : ∃ bb, (walkA 1 ps xs n).isSome = bb := ⟨_, rfl⟩
 have HBB : Hid ((walkA 1 ps xs n).isSome = bb) := hbb
 rw [hbb]
 clear hbb
 go_enter Try.func37, Try.ntmps37
 go_wp2_with fail
 go_at_call 65
 refine hw.mono ?_
 rintro e w1 ⟨⟨B, b, rfl, hno, hyes⟩, b1⟩
 have HB : Hid (b = bb) := by
  show b = bb
  rw [← HBB.out]
  cases h : walkA 1 ps xs n with
  | none => exact hno h
  | some s => exact (hyes s h).1
 clear hno hyes hw
 go_wp2_with fail
 go_ret
 exact ⟨by rw [HB.out]; rfl, b0.trans (b1.mono b0.size)⟩

theorem specHolding (ps : List (List Stm)) (c : Int) (xs : List Int) (n : Nat) (v xv : Value) (w : World) (hl : ps.length ≤ maxLen) (hp : ∀ p ∈ ps, p.length ≤ maxLen) (hv : ReadsP w v ps)
 (hx : xs.length = 2 * n) (hn : n ≤ maxLen) (hxv : Reads2 w xv n (ints xs)) :
 Calls Try.prog 35 #[.agg #[v], .int .i64 c, xv] w fun e w' => e = .returned (.int .i64 (holdA c ps xs n)) ∧ Below w.heap.size w w' := by
 have b0 : Below w.heap.size w (w.alloc (.cells #[v] 30)) := by go_grown
 have hcl := l7Client c
 obtain ⟨A, hA⟩ : ∃ A, holdA c ps xs n = A := ⟨_, rfl⟩
 have HA : Hid (holdA c ps xs n = A) := hA
 rw [hA]
 clear hA
 by_cases hc : c = 1 ∨ c = 2
 · have hw := l12Walk ps c xs n v xv _ hc hl hp (readsP_below hv b0) hx hn (reads2_below hxv b0)
   have hd : decide (c = 1 ∨ c = 2) = true := by simpa using hc
   rw [hd] at hcl
   obtain ⟨xo, xc, rfl, _⟩ := hxv
   have HC : Hid (c = 1 ∨ c = 2) := hc
   clear hd hc
   go_enter Try.func35, Try.ntmps35
   go_wp2_with fail
   go_at_call 40
   refine (hcl _).mono ?_
   rintro e w1 ⟨rfl, rfl⟩
   go_wp2_with fail
   go_at_call 65
   refine hw.mono ?_
   rintro e w1 ⟨⟨B, b, rfl, hno, hyes⟩, b1⟩
   have BB : Hid (Below w.heap.size w w1) := b0.trans (b1.mono b0.size)
   clear b1 hw hcl
   cases h : walkA c ps xs n with
   | none =>
    have HA3 : Hid (A = -1) := by show A = -1; rw [← HA.out]; unfold holdA; rw [if_pos HC.out, h]
    obtain rfl := hno h
    clear hno hyes h HA
    go_wp2_with fail
    go_ret
    exact ⟨by rw [HA3.out]; rfl, BB.out⟩
   | some s =>
    obtain ⟨rfl, hb1, ov, kv, hblk, _, _⟩ := hyes s h
    have HA3 : Hid (A = s.h) := by show A = s.h; rw [← HA.out]; unfold holdA; rw [if_pos HC.out, h]
    obtain ⟨d0, d1, d2, _, _, _⟩ := do_cells3 hblk
    clear hno hyes h HA hblk
    go_wp2_with fail
    go_ret
    exact ⟨by rw [HA3.out]; rfl, BB.out⟩
 · have hd : decide (c = 1 ∨ c = 2) = false := by simpa using hc
   rw [hd] at hcl
   have HA2 : Hid (A = -1) := by
    show A = _
    rw [← HA.out]; unfold holdA; rw [if_neg hc]
   obtain ⟨xo, xc, rfl, _⟩ := hxv
   clear hd HA hc
   go_enter Try.func35, Try.ntmps35
   go_wp2_with fail
   go_at_call 40
   refine (hcl _).mono ?_
   rintro e w1 ⟨rfl, rfl⟩
   go_wp2_with fail
   go_ret
   exact ⟨by rw [HA2.out]; rfl, b0⟩

theorem specSteps (ps : List (List Stm)) (xs : List Int) (n : Nat) (v xv : Value) (w : World) (hl : ps.length ≤ maxLen) (hp : ∀ p ∈ ps, p.length ≤ maxLen) (hv : ReadsP w v ps)
 (hx : xs.length = 2 * n) (hn : n ≤ maxLen) (hxv : Reads2 w xv n (ints xs)) :
 Calls Try.prog 88 #[.agg #[v], xv] w fun e w' => ∃ u, e = .returned u ∧ OwnPl w' w.heap.size u (stepsA ps xs n) ∧ Below w.heap.size w w' := by
 have b0 : Below w.heap.size w (w.alloc (.cells #[v] 30)) := by go_grown
 have hw := l12Walk ps 1 xs n v xv _ (.inl rfl) hl hp (readsP_below hv b0) hx hn (reads2_below hxv b0)
 obtain ⟨xo, xc, rfl, hxc⟩ := hxv
 obtain ⟨A, hA⟩ : ∃ A, stepsA ps xs n = A := ⟨_, rfl⟩
 have HA : Hid (stepsA ps xs n = A) := hA
 rw [hA]
 clear hA
 unfold maxLen at hn
 go_enter Try.func88, Try.ntmps88
 go_wp2_with fail
 go_at_call 65
 refine hw.mono ?_
 rintro e w1 ⟨⟨B, b, rfl, hno, hyes⟩, b1⟩
 have BB : Hid (Below w.heap.size w w1) := b0.trans (b1.mono b0.size)
 have H1 := (b1.block w.heap.size (by simp)).trans (heap_alloc_new w (.cells #[v] 30))
 clear b1 hw
 cases h : walkA 1 ps xs n with
 | none =>
  have HA3 : Hid (A = []) := by show A = []; rw [← HA.out]; unfold stepsA; rw [h]
  obtain rfl := hno h
  have hm := (made0P w1).mono BB.out.size
  clear hno hyes h HA
  go_wp2_with fail
  go_ret
  exact ⟨_, rfl, by rw [HA3.out]; exact hm, BB.out.alloc BB.out.size _⟩
 | some s =>
  obtain ⟨hoB, hn1, h100, hok⟩ := walkA_ok (.inl rfl) h
  obtain ⟨_, _, hcan, h4⟩ := okB_parts hoB
  have hln := hok.len
  obtain ⟨rfl, hb1, ov, kv, hblk, hov, _⟩ := hyes s h
  by_cases hn100 : n = 100
  · have HA3 : Hid (A = []) := by show A = []; rw [← HA.out]; unfold stepsA; rw [h]; simp [hn100]
    have hm := (made0P w1).mono BB.out.size
    have hd : (n : Int) = 100 := by omega
    clear hno hyes h HA
    go_wp2_with fail
    go_ret
    exact ⟨_, rfl, by rw [HA3.out]; exact hm, BB.out.alloc BB.out.size _⟩
  · have HA3 : Hid (A = nxW ps s) := by show A = _; rw [← HA.out]; unfold stepsA; rw [h]; simp [hn100]
    have hd : ((n : Int) == 100) = false := by simp; omega
    obtain ⟨d0, d1, d2, _, _, _⟩ := do_cells3 hblk
    have hcv := (one_cell H1).1
    obtain ⟨oa, om, oc, rfl⟩ := own_slice hov
    have HPL := walkA_pl (.inl rfl) h
    have e1 : (ints xs)[(n - 1) * 2]? = some (.int .i64 (s.p : Int)) := by rw [HPL.1]; simp [ints, List.getD, show (n - 1) * 2 < xs.length by omega]
    have e2 : (ints xs)[(n - 1) * 2 + 1]? = some (.int .i64 (s.i : Int)) := by rw [HPL.2]; simp [ints, List.getD, show (n - 1) * 2 + 1 < xs.length by omega]
    obtain ⟨gx, ox, rfl, r1⟩ := hxc _ _ e1
    obtain ⟨g9, o9, e9, r2⟩ := hxc _ _ e2
    cases e9
    rw [← Nat.add_assoc] at r2
    have zx := World.block_lt_of_cell? w _ r1
    have r1 := (BB.out.cell (p := ⟨gx, ox + (n - 1) * 2, none⟩) zx).trans r1
    have r2 := (BB.out.cell (p := ⟨gx, ox + (n - 1) * 2 + 1, none⟩) zx).trans r2
    have zB := (Array.getElem?_eq_some_iff.1 hblk).1
    have hnx := fun W (hW : Below w1.heap.size w1 W) => l12Next ps s.p s.i s.op v (.slice oa om oc) W hcan h4 hok.p hok.i (readsP_below hv (BB.out.trans (hW.mono BB.out.size))) (reads2_below (reads2_own hov) hW) (by omega) (fun t ht => by have h1 := (hok.op t ht); have h2 := (procOk_parts (procs_of hcan h1.1).1).2.1; omega)
    have HNX : Hid (A = nxS (stW ps s.p s.i) s.p s.i s.op) := HA3.out
    have hw1 : IntKind.i64.wrap ((n : Int) - 1) = ((n - 1 : Nat) : Int) := by rw [show (n : Int) - 1 = ((n - 1 : Nat) : Int) by omega]; exact IntWalk.i64_in _ (by omega)
    have hlt : ((n - 1 : Nat) : Int) < (n : Int) := by omega
    obtain ⟨P, hP⟩ : ∃ P, s.p = P := ⟨_, rfl⟩
    obtain ⟨I, hI⟩ : ∃ I, s.i = I := ⟨_, rfl⟩
    rw [hP, hI] at hnx HNX
    rw [hP] at r1
    rw [hI] at r2
    clear hno hyes h HA hblk hov hok e1 e2 HPL HA3 hP hI
    have zg : gx < w1.heap.size := Nat.lt_of_lt_of_le zx BB.out.size
    have zw : w.heap.size < w1.heap.size := (Array.getElem?_eq_some_iff.1 H1).1
    have hwn : IntKind.i64.wrap ((n - 1 : Nat) : Int) = ((n - 1 : Nat) : Int) := IntWalk.i64_in _ (by omega)
    go_wp2_with fail
    refine wp_region_held_drew (S := fun w' => (w'.cell? ⟨w.heap.size, 0, none⟩ = some v ∧ w'.cell? ⟨B, 0, none⟩ = some (.slice oa om oc)) ∧ w'.cell? ⟨gx, ox + (n - 1) * 2, none⟩ = some (.int .i64 (P : Int)) ∧ w'.cell? ⟨gx, ox + (n - 1) * 2 + 1, none⟩ = some (.int .i64 (I : Int))) (by kernel_rfl) ⟨⟨hcv, d0⟩, r1, r2⟩ (fun hHeld => ?_)
    refine wpAnyH_take (i := 0) (oi := ?oit0) (v := .agg #[v]) ?hit0 (by kernel_rfl) (by kernel_rfl) (by kernel_rfl) ?hqt0 ?hyt0 hHeld ?hrt0
    case hit0 =>
     simp only [gA, gB, gC]
     rfl
    case hqt0 => exact fun _ _ _ h => h
    case hyt0 => exact Or.inl ⟨by kernel_rfl, fun w hSw => by obtain ⟨⟨s1, s2⟩, s3, s4⟩ := hSw; go_simp⟩
    try simp only [Act.put, gD, gE, gF]
    refine wpAnyH_take (i := 1) (oi := ?oit1) (v := .slice (some ⟨gx, ox, none⟩) n xc) ?hit1 (by kernel_rfl) (by kernel_rfl) (by kernel_rfl) ?hqt1 ?hyt1 hHeld ?hrt1
    case hit1 =>
     simp only [gA, gB, gC]
     rfl
    case hqt1 => exact fun _ _ _ h => h
    case hyt1 => exact Or.inl ⟨by kernel_rfl, fun w hSw => by go_simp⟩
    try simp only [Act.put, gD, gE, gF]
    refine wpAnyH_take (i := 2) (oi := ?oit2) (v := .slice (some ⟨gx, ox, none⟩) n xc) ?hit2 (by kernel_rfl) (by kernel_rfl) (by kernel_rfl) ?hqt2 ?hyt2 hHeld ?hrt2
    case hit2 =>
     simp only [gA, gB, gC]
     rfl
    case hqt2 => exact fun _ _ _ h => h
    case hyt2 => exact Or.inl ⟨by kernel_rfl, fun w hSw => by go_simp⟩
    try simp only [Act.put, gD, gE, gF]
    refine wpAnyH_take (i := 3) (oi := ?oit3) (v := .int .i64 (n : Int)) ?hit3 (by kernel_rfl) (by kernel_rfl) (by kernel_rfl) ?hqt3 ?hyt3 hHeld ?hrt3
    case hit3 =>
     simp only [gA, gB, gC]
     rfl
    case hqt3 => exact fun _ _ _ h => h
    case hyt3 => exact Or.inl ⟨by kernel_rfl, fun w hSw => by go_simp⟩
    try simp only [Act.put, gD, gE, gF]
    refine wpAnyH_take (i := 4) (oi := ?oit4) (v := .int .i64 ((n - 1 : Nat) : Int)) ?hit4 (by kernel_rfl) (by kernel_rfl) (by kernel_rfl) ?hqt4 ?hyt4 hHeld ?hrt4
    case hit4 =>
     simp only [gA, gB, gC]
     rfl
    case hqt4 => exact fun _ _ _ h => h
    case hyt4 => exact Or.inl ⟨by kernel_rfl, fun w hSw => by go_simp⟩
    try simp only [Act.put, gD, gE, gF]
    refine wpAnyH_take (i := 5) (oi := ?oit5) (v := .pointer (some ⟨gx, ox + (n - 1) * 2, none⟩)) ?hit5 (by kernel_rfl) (by kernel_rfl) (by kernel_rfl) ?hqt5 ?hyt5 hHeld ?hrt5
    case hit5 =>
     simp only [gA, gB, gC]
     rfl
    case hqt5 => exact fun _ _ _ h => h
    case hyt5 => exact Or.inl ⟨by kernel_rfl, fun w hSw => by go_simp⟩
    try simp only [Act.put, gD, gE, gF]
    refine wpAnyH_take (i := 6) (oi := ?oit6) (v := .agg #[.int .i64 (P : Int), .int .i64 (I : Int)]) ?hit6 (by kernel_rfl) (by kernel_rfl) (by kernel_rfl) ?hqt6 ?hyt6 hHeld ?hrt6
    case hit6 =>
     simp only [gA, gB, gC]
     rfl
    case hqt6 => exact fun _ _ _ h => h
    case hyt6 => exact Or.inl ⟨by kernel_rfl, fun w hSw => by obtain ⟨⟨s1, s2⟩, s3, s4⟩ := hSw; go_simp⟩
    try simp only [Act.put, gD, gE, gF]
    refine wpAnyH_take (i := 7) (oi := ?oit7) (v := .pointer (some ⟨B, 0, none⟩)) ?hit7 (by kernel_rfl) (by kernel_rfl) (by kernel_rfl) ?hqt7 ?hyt7 hHeld ?hrt7
    case hit7 =>
     simp only [gA, gB, gC]
     rfl
    case hqt7 => exact fun _ _ _ h => h
    case hyt7 => exact Or.inl ⟨by kernel_rfl, fun w hSw => by go_simp⟩
    try simp only [Act.put, gD, gE, gF]
    refine wpAnyH_take (i := 8) (oi := ?oit8) (v := .pointer (some ⟨B, 0, none⟩)) ?hit8 (by kernel_rfl) (by kernel_rfl) (by kernel_rfl) ?hqt8 ?hyt8 hHeld ?hrt8
    case hit8 =>
     simp only [gA, gB, gC]
     rfl
    case hqt8 => exact fun _ _ _ h => h
    case hyt8 => exact Or.inl ⟨by kernel_rfl, fun w hSw => by go_simp⟩
    try simp only [Act.put, gD, gE, gF]
    refine wpAnyH_take (i := 9) (oi := ?oit9) (v := .pointer (some ⟨B, 0, none⟩)) ?hit9 (by kernel_rfl) (by kernel_rfl) (by kernel_rfl) ?hqt9 ?hyt9 hHeld ?hrt9
    case hit9 =>
     simp only [gA, gB, gC]
     rfl
    case hqt9 => exact fun _ _ _ h => h
    case hyt9 => exact Or.inl ⟨by kernel_rfl, fun w hSw => by go_simp⟩
    try simp only [Act.put, gD, gE, gF]
    refine wpAnyH_take (i := 10) (oi := ?oit10) (v := .slice oa om oc) ?hit10 (by kernel_rfl) (by kernel_rfl) (by kernel_rfl) ?hqt10 ?hyt10 hHeld ?hrt10
    case hit10 =>
     simp only [gA, gB, gC]
     rfl
    case hqt10 => exact fun _ _ _ h => h
    case hyt10 => exact Or.inl ⟨by kernel_rfl, fun w hSw => by obtain ⟨⟨s1, s2⟩, s3, s4⟩ := hSw; go_simp⟩
    try simp only [Act.put, gD, gE, gF]
    refine wpAnyH_ready (rs := [11]) (by kernel_rfl) (by simp) ?_
    refine (AllReadyH.cons (o := ?oot11) ?hot11 (fun K hK => ?hkt11) AllReadyH.nil)
    case hot11 =>
     simp only [gA, gB, gC]
     rfl
    case hkt11 =>
     go_simp
     go_at_call 93
     refine (hnx w1.drew (by go_grown)).mono ?_
     rintro e w3 ⟨lv, rfl, ol, b3⟩
     have B3 : Hid (Below w1.heap.size w1 w3) := Below.trans (by go_grown) b3
     have OL : Hid (OwnPl w3 w1.heap.size lv A) := by (rw [HNX.out]; exact ol)
     clear b3 ol
     try go_wp2_with fail
     refine hK.out _ _ ⟨⟨(B3.out.cell zw).trans hcv, (B3.out.cell zB).trans d0⟩, (B3.out.cell zg).trans r1, (B3.out.cell zg).trans r2⟩ (fun hHeld => ?_)
     clear hK K
     try simp only [Act.put, gD, gE, gF]
     refine wpAnyH_take (i := 12) (oi := ?oit12) (v := lv) ?hit12 (by kernel_rfl) (by kernel_rfl) (by kernel_rfl) ?hqt12 ?hyt12 hHeld ?hrt12
     case hit12 =>
      simp only [gA, gB, gC]
      rfl
     case hqt12 => exact fun _ _ _ h => h
     case hyt12 => exact Or.inl ⟨by kernel_rfl, fun w hSw => by go_simp⟩
     try simp only [Act.put, gD, gE, gF]
     refine wpAnyH_done (by kernel_rfl) ?_ _
     go_wp2_with fail
     go_ret
     exact ⟨_, rfl, OL.out.mono BB.out.size, BB.out.trans (B3.out.mono BB.out.size)⟩

end Go.Proofs.Ytnjbihfceckpfaa
